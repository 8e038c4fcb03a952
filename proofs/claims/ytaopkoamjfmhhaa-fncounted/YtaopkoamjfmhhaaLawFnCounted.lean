/- At every two codes the law FnCounted answers true: what each site adds is counted once: two that added at two sites to the same counter are together that one and both numbers; joined once more nothing changes. No conditions. -/
import Derived.Test.YtaopkoamjfmhhaaPack11
import Derived.Test.YtaopkoamjfmhhaaRows
namespace Go.Proofs.Ytaopkoamjfmhhaa.lawCounted
open Go.ChangeShapes Go.WideShapes Go.ChangeAt Go.RowKit Go.Joins
attribute [local go_sem ↓] Go.wp_at_zero Go.wp_at_succ

set_option maxRecDepth 100000 in
theorem big_is (a : Option Addr) (len cap : Nat) (r : Bool) (h : decide (1048576 < len) = r) (hm : len ≤ maxLen) (w : World) :
    Calls Try.prog 5 #[.slice a len cap] w fun e w' => e = .returned (.bool r) ∧ w' = w := by
  unfold maxLen at hm
  cases r
  · have h' : len ≤ 1048576 := by simpa using h
    clear h
    go_enter Try.func5, Try.ntmps5
    go_wp2
    go_ret
    exact ⟨by simp; omega, rfl⟩
  · have h' : 1048576 < len := by simpa using h
    clear h
    go_enter Try.func5, Try.ntmps5
    go_wp2
    go_ret
    exact ⟨by simp; omega, rfl⟩

set_option maxRecDepth 100000 in
theorem open_bytes {H : Type} {enc : TypeId × Value → H} {w : World} {base b0 : Nat} {held : Bool} {r : Go.Reach} {v : Value} {d : DataW H} {p : List MemPlace} (hv : Value.okWide Try.prog w r b0 22 v) (h : DataW.Trod enc Try.prog w base (fun _ => true) held 22 v d p) :
    ∃ (a : Option Addr) (len cap : Nat), v = .slice a len cap ∧ (len ≤ maxLen ∧ Bytes w a len) := by
  obtain ⟨a, len, cap, rfl⟩ := okWide_slice Try.underlying22 hv
  obtain ⟨fuel, hf⟩ := h
  refine ⟨a, len, cap, rfl, ?_⟩
  rcases open_ints Try.underlying22 Try.underlying5 (by kernel_rfl) hf with ⟨hcs, _⟩ | ⟨x, l, c, zs, hcs, _, hl, hm, hz, _, hcell, hwz⟩
  · simp [Value.cells] at hcs
    obtain ⟨rfl, rfl, rfl⟩ := hcs
    exact ⟨Nat.zero_le _, .inl rfl⟩
  · simp [Value.cells] at hcs
    obtain ⟨rfl, rfl, rfl⟩ := hcs
    refine ⟨by omega, ?_⟩
    by_cases h0 : len = 0
    · exact .inl h0
    · have hzl : zs.length = cap := by simpa using hz
      have hx : x = ⟨x.block, x.off, none⟩ := by
        have h1 := hcell 0 (by omega)
        simp [Addr.add] at h1
        cases x with
        | mk b o s =>
          cases s with
          | none => rfl
          | some s =>
            simp only [World.cell?] at h1
            split at h1 <;> simp at h1
      refine .inr ⟨x.block, x.off, by rw [← hx], ?_, fun i hi => ?_⟩
      · have h1 := hcell 0 (by omega)
        have := World.block_lt_of_cell? w _ h1
        simpa [Addr.add] using this
      · have h1 := hcell i (by omega)
        have hw : (Lit.int .u8 (zs.getD i 0)).wf = true := hwz _ (by rw [List.getD_eq_getElem?_getD, List.getElem?_eq_getElem (by omega)]; exact List.getElem_mem _)
        have hb := bounds_u8 hw
        refine ⟨zs.getD i 0, hb.1, hb.2, ?_⟩
        rw [hx] at h1
        have e : (Addr.mk x.block x.off none).add i = ⟨x.block, x.off + i, none⟩ := by
          unfold Addr.add
          split
          · rename_i h
            rw [h]
            rfl
          · rfl
        rw [e] at h1
        exact h1

set_option maxRecDepth 100000 in
set_option maxHeartbeats 1000000 in
theorem walk_big1 (a : Option Addr) (len cap : Nat) (v : Value) (w : World) (hm : len ≤ maxLen) (h : 1048576 < len) :
    Calls Try.prog 4 #[.slice a len cap, v] w fun e w' => e = .returned (.bool true) ∧ Below w.heap.size w w' := by
  have d1 : decide (1048576 < len) = true := by simpa using h
  clear h
  go_enter Try.func4, Try.ntmps4
  go_wp2_with (go_at_call 5; refine (big_is _ _ _ true d1 hm _).mono ?_; rintro e w1 ⟨rfl, rfl⟩)
  go_ret
  exact ⟨rfl, Below.refl _ _⟩

set_option maxRecDepth 100000 in
set_option maxHeartbeats 1000000 in
theorem walk_big2 (a : Option Addr) (len cap : Nat) (a' : Option Addr) (len' cap' : Nat) (w : World) (h : len ≤ 1048576) (hm' : len' ≤ maxLen) (h' : 1048576 < len') :
    Calls Try.prog 4 #[.slice a len cap, .slice a' len' cap'] w fun e w' => e = .returned (.bool true) ∧ Below w.heap.size w w' := by
  have d1 : decide (1048576 < len) = false := by simp; omega
  have d2 : decide (1048576 < len') = true := by simpa using h'
  have hm : len ≤ maxLen := by unfold maxLen; omega
  clear h h'
  go_enter Try.func4, Try.ntmps4
  go_wp2_with fail
  refine (big_is _ _ _ false d1 hm _).mono ?_
  rintro e w1 ⟨rfl, rfl⟩
  go_wp2_with fail
  refine (big_is _ _ _ true d2 hm' _).mono ?_
  rintro e w2 ⟨rfl, rfl⟩
  go_wp2
  go_ret
  exact ⟨rfl, Below.refl _ _⟩

/-- A counter that is answered. -/
def AnsX (us ds : List Int) : Fact := fun v w => ∃ g c h d, v = cntV g us.length c h ds.length d ∧ IsC w g h us ds

theorem lasts_ansX (us ds : List Int) : lasts (fun w w' => Below w.heap.size w w') (AnsX us ds) := by
  rintro v w w' ⟨g, c, h, d, h1, h2⟩ hr
  exact ⟨g, c, h, d, h1, h2.below hr⟩

set_option maxRecDepth 100000 in
set_option maxHeartbeats 16000000 in
theorem walk_small (a : Option Addr) (len cap : Nat) (a' : Option Addr) (len' cap' : Nat) (w : World) (hy : Bytes w a len) (hl : len ≤ 1048576) (hy' : Bytes w a' len') (hl' : len' ≤ 1048576) :
    Calls Try.prog 4 #[.slice a len cap, .slice a' len' cap'] w fun e w' => e = .returned (.bool true) ∧ Below w.heap.size w w' := by
  have HY : Hid (Bytes w a len) := hy
  have HY' : Hid (Bytes w a' len') := hy'
  have d1 : decide (1048576 < len) = false := by simp; omega
  have d2 : decide (1048576 < len') = false := by simp; omega
  clear hy hy'
  go_enter Try.func4, Try.ntmps4
  go_wp2_with fail
  refine (big_is _ _ _ false d1 (by unfold maxLen; omega) _).mono ?_
  rintro e w0 ⟨rfl, hw⟩
  subst w0
  go_wp2_with fail
  refine (big_is _ _ _ false d2 (by unfold maxLen; omega) _).mono ?_
  rintro e w0 ⟨rfl, hw⟩
  subst w0
  clear d1 d2
  have HB : Hid (Below w.heap.size w w) := Below.refl _ _
  go_wp2_with fail
  refine (drawCounterAdd_any _ _ _ _ HY.out hl).mono ?_
  rintro e u1 ⟨gc, cc, hc, dc, C, C', si, z, rfl, hC5, hC6, ic, hb⟩
  replace HY' := Lib.hid (HY'.out.below hb)
  replace HB := Lib.hid (below_step HB.out HB.out.size hb)
  have HC := Lib.hid ic
  clear ic HY
  clear hb
  go_wp2_with fail
  have hA : Below u1.heap.size u1 (u1.alloc (.cells #[.slice gc C.length cc, .slice hc C'.length dc] 26)) := (Below.refl _ _).alloc (Nat.le_refl _) _
  replace HY' := Lib.hid (HY'.out.below hA)
  replace HC := Lib.hid (HC.out.below hA)
  replace HB := Lib.hid (below_step HB.out HB.out.size hA)
  clear hA
  have c5_0 : (u1.alloc (.cells #[.slice gc C.length cc, .slice hc C'.length dc] 26)).cell? ⟨u1.heap.size, 0, none⟩ = some (.slice gc C.length cc) := by go_simp
  have c5_1 : (u1.alloc (.cells #[.slice gc C.length cc, .slice hc C'.length dc] 26)).cell? ⟨u1.heap.size, 1, none⟩ = some (.slice hc C'.length dc) := by go_simp
  have z5 : u1.heap.size < (u1.alloc (.cells #[.slice gc C.length cc, .slice hc C'.length dc] 26)).heap.size := by simp
  generalize (u1.alloc (.cells #[.slice gc C.length cc, .slice hc C'.length dc] 26)) = V1 at *
  have hl9 : ∀ x : Nat, x ≤ 5 → x ≤ maxLen := fun x hx => by unfold maxLen; omega
  obtain ⟨R, hR⟩ : ∃ R, R = caU C C' si z := ⟨_, rfl⟩
  obtain ⟨R', hR'⟩ : ∃ R, R = caD C C' si z := ⟨_, rfl⟩
  obtain ⟨ok, hok⟩ : ∃ b, b = addOk C C' si z := ⟨_, rfl⟩
  obtain ⟨hR5, hR6⟩ : R.length ≤ 4 ∧ R'.length ≤ 4 := by rw [hR, hR']; exact ca_few _ _ _ _
  have PR := Lib.hid hR
  have PR' := Lib.hid hR'
  have PO := Lib.hid hok
  clear hR hR' hok
  have KA : Hid (∀ (n m : Int) W, IsC W gc hc C C' → Calls Try.prog 14 #[cntV gc C.length cc hc C'.length dc, .int .i64 n, .int .i64 m] W fun e w' => ∃ g c h d, e = .returned (.tuple #[cntV g (caU C C' n m).length c h (caD C C' n m).length d, .bool (addOk C C' n m)]) ∧ IsC w' g h (caU C C' n m) (caD C C' n m) ∧ Below W.heap.size W w') := fun n m W h1 => (implCounterAdd_any gc _ cc hc _ dc C C' n m W rfl (hl9 _ hC5) rfl (hl9 _ hC6) h1).mono fun _ _ ⟨g, c, h, d, he, ho, hb⟩ => ⟨g, c, h, d, he, ho.isC, hb⟩
  have KA1 : Hid (∀ W, IsC W gc hc C C' → Calls Try.prog 14 #[cntV gc C.length cc hc C'.length dc, .int .i64 si, .int .i64 z] W fun e w' => ∃ g c h d, e = .returned (.tuple #[cntV g R.length c h R'.length d, .bool ok]) ∧ IsC w' g h R R' ∧ Below W.heap.size W w') := fun W h1 => by
    rw [PR.out, PR'.out, PO.out]
    exact KA.out si z W h1
  have KS1 : Hid (∀ W, IsC W gc hc C C' → Calls Try.prog 15 #[cntV gc C.length cc hc C'.length dc, .int .i64 si, .int .i64 z] W fun e w' => ∃ g c h d, e = .returned (.tuple #[cntV g R.length c h R'.length d, .bool ok]) ∧ IsC w' g h R R' ∧ Below W.heap.size W w') := fun W h1 => by
    rw [PR.out, PR'.out, PO.out]
    exact (specCounterAdd_any gc _ cc hc _ dc C C' si z W rfl (hl9 _ hC5) rfl (hl9 _ hC6) h1).mono fun _ _ ⟨g, c, h, d, he, ho, hb⟩ => ⟨g, c, h, d, he, ho.isC, hb⟩
  have KE : Hid (∀ (X X' : List Int) W a1 c1 b1 d1 a2 c2 b2 d2, X.length ≤ 5 → X'.length ≤ 5 → IsC W a1 b1 X X' → IsC W a2 b2 X X' → Calls Try.prog 8 #[cntV a1 X.length c1 b1 X'.length d1, cntV a2 X.length c2 b2 X'.length d2] W fun e w' => e = .returned (.bool true) ∧ Below W.heap.size W w') := fun X X' W a1 c1 b1 d1 a2 c2 b2 d2 h1 h2 h3 h4 => by
    have := sameCounter_dec a1 c1 b1 d1 a2 c2 b2 d2 X X' X X' W (by omega) (by omega) (by omega) (by omega) h3 h4
    rw [decide_eq_true rfl, decide_eq_true rfl] at this
    exact this
  refine (KA1.out _ HC.out).mono ?_
  rintro e u2 ⟨gr, cr, hr, dr, rfl, ho, hb⟩
  replace c5_0 := cells_of hb z5 c5_0
  replace c5_1 := cells_of hb z5 c5_1
  replace z5 := Nat.lt_of_lt_of_le z5 hb.size
  replace HY' := Lib.hid (HY'.out.below hb)
  replace HC := Lib.hid (HC.out.below hb)
  replace HB := Lib.hid (below_step HB.out HB.out.size hb)
  have HR := Lib.hid ho
  clear ho KA1
  clear hb
  go_wp2_with fail
  have hA : Below u2.heap.size u2 (u2.alloc (.cells #[.slice gr R.length cr, .slice hr R'.length dr] 26)) := (Below.refl _ _).alloc (Nat.le_refl _) _
  replace c5_0 := cells_of hA z5 c5_0
  replace c5_1 := cells_of hA z5 c5_1
  replace z5 := Nat.lt_of_lt_of_le z5 hA.size
  replace HY' := Lib.hid (HY'.out.below hA)
  replace HC := Lib.hid (HC.out.below hA)
  replace HR := Lib.hid (HR.out.below hA)
  replace HB := Lib.hid (below_step HB.out HB.out.size hA)
  clear hA
  have c8_0 : (u2.alloc (.cells #[.slice gr R.length cr, .slice hr R'.length dr] 26)).cell? ⟨u2.heap.size, 0, none⟩ = some (.slice gr R.length cr) := by go_simp
  have c8_1 : (u2.alloc (.cells #[.slice gr R.length cr, .slice hr R'.length dr] 26)).cell? ⟨u2.heap.size, 1, none⟩ = some (.slice hr R'.length dr) := by go_simp
  have z8 : u2.heap.size < (u2.alloc (.cells #[.slice gr R.length cr, .slice hr R'.length dr] 26)).heap.size := by simp
  generalize (u2.alloc (.cells #[.slice gr R.length cr, .slice hr R'.length dr] 26)) = V2 at *
  refine (KS1.out _ HC.out).mono ?_
  rintro e u3 ⟨gw, cw, hw, dw, rfl, ho, hb⟩
  replace c5_0 := cells_of hb z5 c5_0
  replace c5_1 := cells_of hb z5 c5_1
  replace z5 := Nat.lt_of_lt_of_le z5 hb.size
  replace c8_0 := cells_of hb z8 c8_0
  replace c8_1 := cells_of hb z8 c8_1
  replace z8 := Nat.lt_of_lt_of_le z8 hb.size
  replace HY' := Lib.hid (HY'.out.below hb)
  replace HC := Lib.hid (HC.out.below hb)
  replace HR := Lib.hid (HR.out.below hb)
  replace HB := Lib.hid (below_step HB.out HB.out.size hb)
  have HW := Lib.hid ho
  clear ho KS1
  clear hb
  go_wp2_with fail
  have hA : Below u3.heap.size u3 (u3.alloc (.cells #[.slice gw R.length cw, .slice hw R'.length dw] 26)) := (Below.refl _ _).alloc (Nat.le_refl _) _
  replace c5_0 := cells_of hA z5 c5_0
  replace c5_1 := cells_of hA z5 c5_1
  replace z5 := Nat.lt_of_lt_of_le z5 hA.size
  replace c8_0 := cells_of hA z8 c8_0
  replace c8_1 := cells_of hA z8 c8_1
  replace z8 := Nat.lt_of_lt_of_le z8 hA.size
  replace HY' := Lib.hid (HY'.out.below hA)
  replace HC := Lib.hid (HC.out.below hA)
  replace HR := Lib.hid (HR.out.below hA)
  replace HW := Lib.hid (HW.out.below hA)
  replace HB := Lib.hid (below_step HB.out HB.out.size hA)
  clear hA
  have c10_0 : (u3.alloc (.cells #[.slice gw R.length cw, .slice hw R'.length dw] 26)).cell? ⟨u3.heap.size, 0, none⟩ = some (.slice gw R.length cw) := by go_simp
  have c10_1 : (u3.alloc (.cells #[.slice gw R.length cw, .slice hw R'.length dw] 26)).cell? ⟨u3.heap.size, 1, none⟩ = some (.slice hw R'.length dw) := by go_simp
  have z10 : u3.heap.size < (u3.alloc (.cells #[.slice gw R.length cw, .slice hw R'.length dw] 26)).heap.size := by simp
  generalize (u3.alloc (.cells #[.slice gw R.length cw, .slice hw R'.length dw] 26)) = V3 at *
  refine (KE.out R R' _ _ _ _ _ _ _ _ _ (by omega) (by omega) HR.out HW.out).mono ?_
  rintro e u4 ⟨rfl, hb⟩
  replace c5_0 := cells_of hb z5 c5_0
  replace c5_1 := cells_of hb z5 c5_1
  replace z5 := Nat.lt_of_lt_of_le z5 hb.size
  replace c8_0 := cells_of hb z8 c8_0
  replace c8_1 := cells_of hb z8 c8_1
  replace z8 := Nat.lt_of_lt_of_le z8 hb.size
  replace c10_0 := cells_of hb z10 c10_0
  replace c10_1 := cells_of hb z10 c10_1
  replace z10 := Nat.lt_of_lt_of_le z10 hb.size
  replace HY' := Lib.hid (HY'.out.below hb)
  replace HC := Lib.hid (HC.out.below hb)
  replace HR := Lib.hid (HR.out.below hb)
  replace HW := Lib.hid (HW.out.below hb)
  replace HB := Lib.hid (below_step HB.out HB.out.size hb)
  clear hb
  clear HW c10_0 c10_1 z10
  cases ok
  · skip
    have hR0 : R = [] := PR.out.trans (ca_bad PO.out.symm).1
    have hR1 : R' = [] := PR'.out.trans (ca_bad PO.out.symm).2
    clear PR PR' PO
    subst hR0 hR1
    go_wp2
    go_ret
    exact ⟨rfl, HB.out⟩
  have vO := PO.out.symm
  obtain ⟨vC, ⟨q, hq, hsi⟩, hzr, -⟩ := addOk_parts vO
  have hval := ca_val vO
  have hleq := ca_leq vO
  have hcnt := ca_cnt vO
  have hvr := val_rng C C'
  rw [← PR.out, ← PR'.out] at hval hleq hcnt
  obtain ⟨vc, hvc⟩ : ∃ v, v = valC C C' := ⟨_, rfl⟩
  rw [← hvc] at hval hvr
  have hw1 : IntKind.i64.wrap (vc + z) = vc + z := IntWalk.i64_in _ ⟨by omega, by omega⟩
  have KV : Hid (∀ W, IsC W gc hc C C' → Calls Try.prog 16 #[cntV gc C.length cc hc C'.length dc] W fun e w' => e = .returned (.int .i64 vc) ∧ Below W.heap.size W w') := fun W h1 => by
    rw [hvc]
    exact implCounterValue_any gc _ cc hc _ dc C C' W rfl (hl9 _ hC5) rfl (hl9 _ hC6) h1
  have KVR : Hid (∀ W, IsC W gr hr R R' → Calls Try.prog 16 #[cntV gr R.length cr hr R'.length dr] W fun e w' => e = .returned (.int .i64 (vc + z)) ∧ Below W.heap.size W w') := fun W h1 => by
    rw [← hval]
    exact implCounterValue_any gr _ cr hr _ dr R R' W rfl (hl9 _ (by omega)) rfl (hl9 _ (by omega)) h1
  have KVS : Hid (∀ W, IsC W gr hr R R' → Calls Try.prog 17 #[cntV gr R.length cr hr R'.length dr] W fun e w' => e = .returned (.int .i64 (vc + z)) ∧ Below W.heap.size W w') := fun W h1 => by
    rw [← hval]
    exact specCounterValue_any gr _ cr hr _ dr R R' W rfl (hl9 _ (by omega)) rfl (hl9 _ (by omega)) h1
  have KL : Hid (∀ W, IsC W gc hc C C' → IsC W gr hr R R' → Calls Try.prog 12 #[cntV gc C.length cc hc C'.length dc, cntV gr R.length cr hr R'.length dr] W fun e w' => e = .returned (.bool true) ∧ Below W.heap.size W w') := fun W h1 h2 => by
    rw [← hleq]
    exact implCounterLeq_any gc _ cc hc _ dc gr _ cr hr _ dr C C' R R' W rfl (hl9 _ hC5) rfl (hl9 _ hC6) h1 rfl (hl9 _ (by omega)) rfl (hl9 _ (by omega)) h2
  have VO := Lib.hid vO
  have VR := Lib.hid hcnt
  have HVC := Lib.hid hvc
  have HSI := Lib.hid hsi
  clear vO hcnt hval hleq PO vC hvc hsi
  go_wp2_with fail
  refine wp_region_slotsH 20 [[(8, false)], [(57, true)], [(5, false)], [(59, true)], [(7, false)], [(60, true), (61, true)], [(58, true), (62, true)], [(63, true)], [(5, false), (64, true)], [(8, false), (64, true)], [(65, true), (66, true), (64, true)], [(67, true), (64, true)], [(64, true), (68, true)], [(69, true)], [(8, false), (70, true)], [(71, true), (70, true)], [(8, false), (70, true)], [(73, true), (70, true)], [(72, true), (74, true), (70, true)], [(70, true), (75, true)]] (fun w' => Below u4.heap.size u4 w') (fun w w' => Below w.heap.size w w') (by kernel_rfl) (by kernel_rfl) (by rfl) (Below.refl _ _).drew (fun _ _ h hb => below_step h h.size hb) ?_
  apply slot_eq_h
  · intro ρ w' ⟨p1, p2, p3⟩ hS hn
    have d0 := cells_of hS z8 c8_0; have d1 := cells_of hS z8 c8_1
    simp at hn
    go_simp
    exact ⟨Below.refl _ _, rfl⟩
  apply slot_eq_h
  · intro ρ w' ⟨p1, p2, p3⟩ hS hn
    simp at hn
    go_simp
    exact got_call (KVR.out _ (HR.out.below hS)) fun e w'' ⟨he, hb⟩ => ⟨_, he, hb, rfl⟩
  apply slot_eq_h
  · intro ρ w' ⟨p1, p2, p3⟩ hS hn
    have d0 := cells_of hS z5 c5_0; have d1 := cells_of hS z5 c5_1
    simp at hn
    go_simp
    exact ⟨Below.refl _ _, rfl⟩
  apply slot_eq_h
  · intro ρ w' ⟨p1, p2, p3⟩ hS hn
    simp at hn
    go_simp
    exact got_call (KV.out _ (HC.out.below hS)) fun e w'' ⟨he, hb⟩ => ⟨_, he, hb, rfl⟩
  apply slot_eq_h
  · intro ρ w' ⟨p1, p2, p3⟩ hS hn
    simp at hn
    go_simp
    exact ⟨Below.refl _ _, rfl⟩
  apply slot_eq_h
  · intro ρ w' ⟨p1, p2, p3⟩ hS hn
    simp at hn
    go_simp
    exact ⟨Below.refl _ _, rfl⟩
  apply slot_eq_h
  · intro ρ w' ⟨p1, p2, p3⟩ hS hn
    simp at hn
    go_simp
    exact ⟨Below.refl _ _, rfl⟩
  apply slot_eq_h
  · intro ρ w' ⟨p1, p2, p3⟩ hS hn
    simp at hn
    go_simp
    exact ⟨Below.refl _ _, rfl⟩
  apply slot_eq_h
  · intro ρ w' ⟨p1, p2, p3⟩ hS hn
    have d0 := cells_of hS z5 c5_0; have d1 := cells_of hS z5 c5_1
    simp at hn
    refine ⟨64, false, rfl, hn.2, ?_⟩
    rw [if_pos rfl]
    go_simp
    exact ⟨Below.refl _ _, rfl⟩
  apply slot_eq_h
  · intro ρ w' ⟨p1, p2, p3⟩ hS hn
    have d0 := cells_of hS z8 c8_0; have d1 := cells_of hS z8 c8_1
    simp at hn
    refine ⟨64, false, rfl, hn.2, ?_⟩
    rw [if_pos rfl]
    go_simp
    exact ⟨Below.refl _ _, rfl⟩
  apply slot_eq_h
  · intro ρ w' ⟨p1, p2, p3⟩ hS hn
    simp at hn
    refine ⟨64, false, rfl, hn.2.2, ?_⟩
    rw [if_pos rfl]
    go_simp
    exact got_call (KL.out _ (HC.out.below hS) (HR.out.below hS)) fun e w'' ⟨he, hb⟩ => ⟨_, he, hb, rfl⟩
  apply slot_eq_h
  · intro ρ w' ⟨p1, p2, p3⟩ hS hn
    simp at hn
    refine ⟨64, false, rfl, hn.2, ?_⟩
    rw [if_pos rfl]
    go_simp
    exact ⟨Below.refl _ _, rfl⟩
  apply slot_eq_h
  · intro ρ w' ⟨p1, p2, p3⟩ hS hn
    simp at hn
    go_simp
    exact ⟨Below.refl _ _, rfl⟩
  apply slot_eq_h
  · intro ρ w' ⟨p1, p2, p3⟩ hS hn
    simp at hn
    go_simp
    exact ⟨Below.refl _ _, rfl⟩
  apply slot_eq_h
  · intro ρ w' ⟨p1, p2, p3⟩ hS hn
    have d0 := cells_of hS z8 c8_0; have d1 := cells_of hS z8 c8_1
    simp at hn
    refine ⟨70, false, rfl, hn.2, ?_⟩
    rw [if_pos rfl]
    go_simp
    exact ⟨Below.refl _ _, rfl⟩
  apply slot_eq_h
  · intro ρ w' ⟨p1, p2, p3⟩ hS hn
    simp at hn
    refine ⟨70, false, rfl, hn.2, ?_⟩
    rw [if_pos rfl]
    go_simp
    exact got_call (KVR.out _ (HR.out.below hS)) fun e w'' ⟨he, hb⟩ => ⟨_, he, hb, rfl⟩
  apply slot_eq_h
  · intro ρ w' ⟨p1, p2, p3⟩ hS hn
    have d0 := cells_of hS z8 c8_0; have d1 := cells_of hS z8 c8_1
    simp at hn
    refine ⟨70, false, rfl, hn.2, ?_⟩
    rw [if_pos rfl]
    go_simp
    exact ⟨Below.refl _ _, rfl⟩
  apply slot_eq_h
  · intro ρ w' ⟨p1, p2, p3⟩ hS hn
    simp at hn
    refine ⟨70, false, rfl, hn.2, ?_⟩
    rw [if_pos rfl]
    go_simp
    exact got_call (KVS.out _ (HR.out.below hS)) fun e w'' ⟨he, hb⟩ => ⟨_, he, hb, rfl⟩
  apply slot_eq_h
  · intro ρ w' ⟨p1, p2, p3⟩ hS hn
    simp at hn
    refine ⟨70, false, rfl, hn.2.2, ?_⟩
    rw [if_pos rfl]
    go_simp
    exact ⟨Below.refl _ _, rfl⟩
  apply slot_eq_h
  · intro ρ w' ⟨p1, p2, p3⟩ hS hn
    simp at hn
    go_simp
    exact ⟨Below.refl _ _, rfl⟩
  refine slot_end_h ?_
  rintro vs u5 hS hF
  simp at hF
  obtain ⟨f76, f75, f74, f73, f72, f71, f70, f69, f68, f67, f66, f65, f64, f63, f62, f61, f60, f59, f58, f57⟩ := hF
  simp only [List.take_succ_cons, List.take_zero, List.drop_succ_cons, List.drop_zero, putAll, f76, f75, f74, f73, f72, f71, f70, f69, f68, f67, f66, f65, f64, f63, f62, f61, f60, f59, f58, f57]
  clear f76 f75 f74 f73 f72 f71 f70 f69 f68 f67 f66 f65 f64 f63 f62 f61 f60 f59 f58 f57
  simp only [Act.put, List.setIfInBounds_toArray, List.set_cons_succ, List.set_cons_zero]
  replace c5_0 := cells_of hS z5 c5_0
  replace c5_1 := cells_of hS z5 c5_1
  replace z5 := Nat.lt_of_lt_of_le z5 hS.size
  replace c8_0 := cells_of hS z8 c8_0
  replace c8_1 := cells_of hS z8 c8_1
  replace z8 := Nat.lt_of_lt_of_le z8 hS.size
  replace HY' := Lib.hid (HY'.out.below hS)
  replace HC := Lib.hid (HC.out.below hS)
  replace HR := Lib.hid (HR.out.below hS)
  replace HB := Lib.hid (below_step HB.out HB.out.size hS)
  clear hS
  clear KVR KVS KL
  obtain ⟨pq, hpq⟩ : ∃ p : Nat, p = (q + 1) % 4 := ⟨_, rfl⟩
  have hrem : ((q : Int) + 1).tmod 4 = (pq : Int) := by
    rw [hpq, show ((q : Int) + 1) = ((q + 1 : Nat) : Int) by push_cast; rfl]
    exact (Int.ofNat_tmod (q + 1) 4).symm
  have hne : q ≠ pq := by omega
  clear hpq
  rw [HSI.out]
  go_wp2_with fail
  refine (pickB_any a' len' cap' 40 _ HY'.out hl' (by omega)).mono ?_
  rintro e w0 ⟨k, rfl, hk, hw⟩
  subst w0
  obtain ⟨m, hm⟩ : ∃ m : Int, m = (k : Int) - 20 := ⟨_, rfl⟩
  have hk2 := hk (by omega)
  have hmr : -20 ≤ m ∧ m ≤ 20 := by omega
  have hw2 : IntKind.i64.wrap ((k : Int) - 20) = m := by rw [hm]; exact IntWalk.i64_in _ ⟨by omega, by omega⟩
  have hw3 : IntKind.i64.wrap ((q : Int) + 1) = (q : Int) + 1 := IntWalk.i64_in _ ⟨by omega, by omega⟩
  clear hm
  obtain ⟨S, hS1⟩ : ∃ S, S = caU C C' (pq : Int) m := ⟨_, rfl⟩
  obtain ⟨S', hS2⟩ : ∃ S, S = caD C C' (pq : Int) m := ⟨_, rfl⟩
  obtain ⟨is, hS3⟩ : ∃ b, b = addOk C C' (pq : Int) m := ⟨_, rfl⟩
  obtain ⟨hS5, hS6⟩ : S.length ≤ 4 ∧ S'.length ≤ 4 := by rw [hS1, hS2]; exact ca_few _ _ _ _
  have PS1 := Lib.hid hS1
  have PS2 := Lib.hid hS2
  have PS3 := Lib.hid hS3
  have KA2 : Hid (∀ W, IsC W gc hc C C' → Calls Try.prog 14 #[cntV gc C.length cc hc C'.length dc, .int .i64 (pq : Int), .int .i64 m] W fun e w' => ∃ g c h d, e = .returned (.tuple #[cntV g S.length c h S'.length d, .bool is]) ∧ IsC w' g h S S' ∧ Below W.heap.size W w') := fun W h1 => by
    rw [hS1, hS2, hS3]
    exact KA.out (pq : Int) m W h1
  clear hS1 hS2 hS3
  go_wp2_with fail
  refine (KA2.out _ HC.out).mono ?_
  rintro e u6 ⟨gs, cs, hs, ds, rfl, ho, hb⟩
  replace c5_0 := cells_of hb z5 c5_0
  replace c5_1 := cells_of hb z5 c5_1
  replace z5 := Nat.lt_of_lt_of_le z5 hb.size
  replace c8_0 := cells_of hb z8 c8_0
  replace c8_1 := cells_of hb z8 c8_1
  replace z8 := Nat.lt_of_lt_of_le z8 hb.size
  replace HY' := Lib.hid (HY'.out.below hb)
  replace HC := Lib.hid (HC.out.below hb)
  replace HR := Lib.hid (HR.out.below hb)
  replace HB := Lib.hid (below_step HB.out HB.out.size hb)
  have HS := Lib.hid ho
  clear ho KA2
  clear hb
  cases is
  · skip
    go_wp2
    go_ret
    exact ⟨rfl, HB.out.alloc HB.out.size _⟩
  go_wp2_with fail
  have hA : Below u6.heap.size u6 (u6.alloc (.cells #[.slice gs S.length cs, .slice hs S'.length ds] 26)) := (Below.refl _ _).alloc (Nat.le_refl _) _
  replace c5_0 := cells_of hA z5 c5_0
  replace c5_1 := cells_of hA z5 c5_1
  replace z5 := Nat.lt_of_lt_of_le z5 hA.size
  replace c8_0 := cells_of hA z8 c8_0
  replace c8_1 := cells_of hA z8 c8_1
  replace z8 := Nat.lt_of_lt_of_le z8 hA.size
  replace HY' := Lib.hid (HY'.out.below hA)
  replace HC := Lib.hid (HC.out.below hA)
  replace HR := Lib.hid (HR.out.below hA)
  replace HS := Lib.hid (HS.out.below hA)
  replace HB := Lib.hid (below_step HB.out HB.out.size hA)
  clear hA
  have c13_0 : (u6.alloc (.cells #[.slice gs S.length cs, .slice hs S'.length ds] 26)).cell? ⟨u6.heap.size, 0, none⟩ = some (.slice gs S.length cs) := by go_simp
  have c13_1 : (u6.alloc (.cells #[.slice gs S.length cs, .slice hs S'.length ds] 26)).cell? ⟨u6.heap.size, 1, none⟩ = some (.slice hs S'.length ds) := by go_simp
  have z13 : u6.heap.size < (u6.alloc (.cells #[.slice gs S.length cs, .slice hs S'.length ds] 26)).heap.size := by simp
  generalize (u6.alloc (.cells #[.slice gs S.length cs, .slice hs S'.length ds] 26)) = V4 at *
  have v2 := PS3.out.symm
  have vq : addOk C C' (q : Int) z = true := by rw [← HSI.out]; exact VO.out
  have hjv := two_val hne vq v2
  have hcs := ca_cnt v2
  rw [← PS1.out, ← PS2.out] at hcs
  obtain ⟨J, hJ⟩ : ∃ J, J = cjU R R' S S' := ⟨_, rfl⟩
  obtain ⟨J', hJ'⟩ : ∃ J, J = cjD R R' S S' := ⟨_, rfl⟩
  rw [← HSI.out, ← PR.out, ← PR'.out, ← PS1.out, ← PS2.out, ← hJ, ← hJ', ← HVC.out] at hjv
  obtain ⟨hj1, hj2⟩ := cj_more VR.out hcs
  rw [← hJ, ← hJ'] at hj1 hj2
  obtain ⟨hJ5, hJ6⟩ : J.length ≤ 4 ∧ J'.length ≤ 4 := by rw [hJ, hJ']; exact cj_few _ _ _ _
  have hw4 : IntKind.i64.wrap (vc + z + m) = vc + z + m := IntWalk.i64_in _ ⟨by omega, by omega⟩
  have PJ := Lib.hid hJ
  have PJ' := Lib.hid hJ'
  clear hJ hJ' hcs v2 vq
  have KJ : Hid (∀ W, IsC W gr hr R R' → IsC W gs hs S S' → Calls Try.prog 7 #[cntV gr R.length cr hr R'.length dr, cntV gs S.length cs hs S'.length ds] W fun e w' => ∃ g c h d, e = .returned (cntV g J.length c h J'.length d) ∧ IsC w' g h J J' ∧ Below W.heap.size W w') := fun W h1 h2 => by
    rw [PJ.out, PJ'.out]
    exact (implCounterJoin_any gr _ cr hr _ dr gs _ cs hs _ ds R R' S S' W rfl (hl9 _ (by omega)) rfl (hl9 _ (by omega)) h1 rfl (hl9 _ (by omega)) rfl (hl9 _ (by omega)) h2).mono fun _ _ ⟨g, c, h, d, he, ho, hb⟩ => ⟨g, c, h, d, he, ho.isC, hb⟩
  have H1 := Lib.hid hj1
  have H2 := Lib.hid hj2
  have H3 := Lib.hid hjv
  clear hj1 hj2 hjv
  refine (KJ.out _ HR.out HS.out).mono ?_
  rintro e u7 ⟨gj, cj, hj, dj, rfl, ho, hb⟩
  replace c5_0 := cells_of hb z5 c5_0
  replace c5_1 := cells_of hb z5 c5_1
  replace z5 := Nat.lt_of_lt_of_le z5 hb.size
  replace c8_0 := cells_of hb z8 c8_0
  replace c8_1 := cells_of hb z8 c8_1
  replace z8 := Nat.lt_of_lt_of_le z8 hb.size
  replace c13_0 := cells_of hb z13 c13_0
  replace c13_1 := cells_of hb z13 c13_1
  replace z13 := Nat.lt_of_lt_of_le z13 hb.size
  replace HY' := Lib.hid (HY'.out.below hb)
  replace HC := Lib.hid (HC.out.below hb)
  replace HR := Lib.hid (HR.out.below hb)
  replace HS := Lib.hid (HS.out.below hb)
  replace HB := Lib.hid (below_step HB.out HB.out.size hb)
  have HJ := Lib.hid ho
  clear ho KJ
  clear hb
  go_wp2_with fail
  have hA : Below u7.heap.size u7 (u7.alloc (.cells #[.slice gj J.length cj, .slice hj J'.length dj] 26)) := (Below.refl _ _).alloc (Nat.le_refl _) _
  replace c5_0 := cells_of hA z5 c5_0
  replace c5_1 := cells_of hA z5 c5_1
  replace z5 := Nat.lt_of_lt_of_le z5 hA.size
  replace c8_0 := cells_of hA z8 c8_0
  replace c8_1 := cells_of hA z8 c8_1
  replace z8 := Nat.lt_of_lt_of_le z8 hA.size
  replace c13_0 := cells_of hA z13 c13_0
  replace c13_1 := cells_of hA z13 c13_1
  replace z13 := Nat.lt_of_lt_of_le z13 hA.size
  replace HY' := Lib.hid (HY'.out.below hA)
  replace HC := Lib.hid (HC.out.below hA)
  replace HR := Lib.hid (HR.out.below hA)
  replace HS := Lib.hid (HS.out.below hA)
  replace HJ := Lib.hid (HJ.out.below hA)
  replace HB := Lib.hid (below_step HB.out HB.out.size hA)
  clear hA
  have c15_0 : (u7.alloc (.cells #[.slice gj J.length cj, .slice hj J'.length dj] 26)).cell? ⟨u7.heap.size, 0, none⟩ = some (.slice gj J.length cj) := by go_simp
  have c15_1 : (u7.alloc (.cells #[.slice gj J.length cj, .slice hj J'.length dj] 26)).cell? ⟨u7.heap.size, 1, none⟩ = some (.slice hj J'.length dj) := by go_simp
  have z15 : u7.heap.size < (u7.alloc (.cells #[.slice gj J.length cj, .slice hj J'.length dj] 26)).heap.size := by simp
  generalize (u7.alloc (.cells #[.slice gj J.length cj, .slice hj J'.length dj] 26)) = V5 at *
  have KVJ : Hid (∀ W, IsC W gj hj J J' → Calls Try.prog 16 #[cntV gj J.length cj hj J'.length dj] W fun e w' => e = .returned (.int .i64 (vc + z + m)) ∧ Below W.heap.size W w') := fun W h1 => by
    rw [← H3.out]
    exact implCounterValue_any gj _ cj hj _ dj J J' W rfl (hl9 _ (by omega)) rfl (hl9 _ (by omega)) h1
  have KJR : Hid (∀ W, IsC W gj hj J J' → IsC W gr hr R R' → Calls Try.prog 7 #[cntV gj J.length cj hj J'.length dj, cntV gr R.length cr hr R'.length dr] W fun e w' => ∃ g c h d, e = .returned (cntV g J.length c h J'.length d) ∧ IsC w' g h J J' ∧ Below W.heap.size W w') := fun W h1 h2 => by
    have K := implCounterJoin_any gj _ cj hj _ dj gr _ cr hr _ dr J J' R R' W rfl (hl9 _ (by omega)) rfl (hl9 _ (by omega)) h1 rfl (hl9 _ (by omega)) rfl (hl9 _ (by omega)) h2
    rw [H1.out, H2.out] at K
    exact K.mono fun _ _ ⟨g, c, h, d, he, ho, hb⟩ => ⟨g, c, h, d, he, ho.isC, hb⟩
  have KEJ : Hid (∀ W a1 c1 b1 d1 a2 c2 b2 d2, IsC W a1 b1 J J' → IsC W a2 b2 J J' → Calls Try.prog 8 #[cntV a1 J.length c1 b1 J'.length d1, cntV a2 J.length c2 b2 J'.length d2] W fun e w' => e = .returned (.bool true) ∧ Below W.heap.size W w') := fun W a1 c1 b1 d1 a2 c2 b2 d2 h1 h2 => KE.out J J' W a1 c1 b1 d1 a2 c2 b2 d2 (by omega) (by omega) h1 h2
  clear H1 H2 H3
  go_wp2_with fail
  refine wp_region_slotsH 16 [[(15, false)], [(94, true)], [(5, false)], [(96, true)], [(7, false)], [(97, true), (98, true)], [(12, false)], [(99, true), (100, true)], [(95, true), (101, true)], [(102, true)], [(15, false), (103, true)], [(8, false), (103, true)], [(104, true), (105, true), (103, true)], [(15, false), (103, true)], [(106, true), (107, true), (103, true)], [(103, true), (108, true)]] (fun w' => Below V5.heap.size V5 w') (fun w w' => Below w.heap.size w w') (by kernel_rfl) (by kernel_rfl) (by rfl) (Below.refl _ _).drew (fun _ _ h hb => below_step h h.size hb) ?_
  apply slot_eq_h
  · intro ρ w' ⟨p1, p2, p3⟩ hS hn
    have d0 := cells_of hS z15 c15_0; have d1 := cells_of hS z15 c15_1
    simp at hn
    go_simp
    exact ⟨Below.refl _ _, rfl⟩
  apply slot_eq_h
  · intro ρ w' ⟨p1, p2, p3⟩ hS hn
    simp at hn
    go_simp
    exact got_call (KVJ.out _ (HJ.out.below hS)) fun e w'' ⟨he, hb⟩ => ⟨_, he, hb, rfl⟩
  apply slot_eq_h
  · intro ρ w' ⟨p1, p2, p3⟩ hS hn
    have d0 := cells_of hS z5 c5_0; have d1 := cells_of hS z5 c5_1
    simp at hn
    go_simp
    exact ⟨Below.refl _ _, rfl⟩
  apply slot_eq_h
  · intro ρ w' ⟨p1, p2, p3⟩ hS hn
    simp at hn
    go_simp
    exact got_call (KV.out _ (HC.out.below hS)) fun e w'' ⟨he, hb⟩ => ⟨_, he, hb, rfl⟩
  apply slot_eq_h
  · intro ρ w' ⟨p1, p2, p3⟩ hS hn
    simp at hn
    go_simp
    exact ⟨Below.refl _ _, rfl⟩
  apply slot_eq_h
  · intro ρ w' ⟨p1, p2, p3⟩ hS hn
    simp at hn
    go_simp
    exact ⟨Below.refl _ _, rfl⟩
  apply slot_eq_h
  · intro ρ w' ⟨p1, p2, p3⟩ hS hn
    simp at hn
    go_simp
    exact ⟨Below.refl _ _, rfl⟩
  apply slot_eq_h
  · intro ρ w' ⟨p1, p2, p3⟩ hS hn
    simp at hn
    go_simp
    exact ⟨Below.refl _ _, rfl⟩
  apply slot_eq_h
  · intro ρ w' ⟨p1, p2, p3⟩ hS hn
    simp at hn
    go_simp
    exact ⟨Below.refl _ _, rfl⟩
  apply slot_eq_h
  · intro ρ w' ⟨p1, p2, p3⟩ hS hn
    simp at hn
    go_simp
    exact ⟨Below.refl _ _, rfl⟩
  apply slot_eq_h
  · intro ρ w' ⟨p1, p2, p3⟩ hS hn
    have d0 := cells_of hS z15 c15_0; have d1 := cells_of hS z15 c15_1
    simp at hn
    refine ⟨103, true, rfl, hn.2, ?_⟩
    rw [if_pos rfl]
    go_simp
    exact ⟨Below.refl _ _, rfl⟩
  apply slot_eq_h
  · intro ρ w' ⟨p1, p2, p3⟩ hS hn
    have d0 := cells_of hS z8 c8_0; have d1 := cells_of hS z8 c8_1
    simp at hn
    refine ⟨103, true, rfl, hn.2, ?_⟩
    rw [if_pos rfl]
    go_simp
    exact ⟨Below.refl _ _, rfl⟩
  refine slot_fact_h (AnsX (J) (J')) (lasts_ansX _ _) ?_ ?_
  · intro ρ w' ⟨p1, p2, p3⟩ hS hn
    simp at hn
    refine ⟨103, true, rfl, hn.2.2, ?_⟩
    rw [if_pos rfl]
    go_simp
    exact got_call (KJR.out _ (HJ.out.below hS) (HR.out.below hS)) fun e w'' ⟨g, c, h, d, he, ho, hb⟩ => ⟨_, he, hb, g, c, h, d, rfl, ho⟩
  apply slot_eq_h
  · intro ρ w' ⟨p1, p2, p3⟩ hS hn
    have d0 := cells_of hS z15 c15_0; have d1 := cells_of hS z15 c15_1
    simp at hn
    refine ⟨103, true, rfl, hn.2, ?_⟩
    rw [if_pos rfl]
    go_simp
    exact ⟨Below.refl _ _, rfl⟩
  apply slot_eq_h
  · intro ρ w' ⟨p1, p2, p3⟩ hS hn
    simp at hn
    refine ⟨103, true, rfl, hn.2.2, ?_⟩
    rw [if_pos rfl]
    obtain ⟨⟨g, c, h, d, e1, h1⟩, e2, -⟩ := hn
    go_simp
    exact got_call (KEJ.out _ _ _ _ _ _ _ _ _ h1 (HJ.out.below hS)) fun e w'' ⟨he, hb⟩ => ⟨_, he, hb, rfl⟩
  apply slot_eq_h
  · intro ρ w' ⟨p1, p2, p3⟩ hS hn
    simp at hn
    go_simp
    exact ⟨Below.refl _ _, rfl⟩
  refine slot_end_h ?_
  rintro vs u8 hS hF
  simp at hF
  obtain ⟨f109, f108, f107, ⟨_, _, _, _, f106, -⟩, f105, f104, f103, f102, f101, f100, f99, f98, f97, f96, f95, f94⟩ := hF
  simp only [List.take_succ_cons, List.take_zero, List.drop_succ_cons, List.drop_zero, putAll, f109, f108, f107, f106, f105, f104, f103, f102, f101, f100, f99, f98, f97, f96, f95, f94]
  clear f109 f108 f107 f106 f105 f104 f103 f102 f101 f100 f99 f98 f97 f96 f95 f94
  simp only [Act.put, List.setIfInBounds_toArray, List.set_cons_succ, List.set_cons_zero]
  replace c5_0 := cells_of hS z5 c5_0
  replace c5_1 := cells_of hS z5 c5_1
  replace z5 := Nat.lt_of_lt_of_le z5 hS.size
  replace c8_0 := cells_of hS z8 c8_0
  replace c8_1 := cells_of hS z8 c8_1
  replace z8 := Nat.lt_of_lt_of_le z8 hS.size
  replace c13_0 := cells_of hS z13 c13_0
  replace c13_1 := cells_of hS z13 c13_1
  replace z13 := Nat.lt_of_lt_of_le z13 hS.size
  replace c15_0 := cells_of hS z15 c15_0
  replace c15_1 := cells_of hS z15 c15_1
  replace z15 := Nat.lt_of_lt_of_le z15 hS.size
  replace HY' := Lib.hid (HY'.out.below hS)
  replace HC := Lib.hid (HC.out.below hS)
  replace HR := Lib.hid (HR.out.below hS)
  replace HS := Lib.hid (HS.out.below hS)
  replace HJ := Lib.hid (HJ.out.below hS)
  replace HB := Lib.hid (below_step HB.out HB.out.size hS)
  clear hS
  go_wp2
  go_ret
  exact ⟨rfl, HB.out⟩

theorem walk (a : Option Addr) (len cap : Nat) (a' : Option Addr) (len' cap' : Nat) (w : World) (h : len ≤ maxLen ∧ Bytes w a len) (h' : len' ≤ maxLen ∧ Bytes w a' len') :
    Calls Try.prog 4 #[.slice a len cap, .slice a' len' cap'] w fun e w' => e = .returned (.bool true) ∧ Below w.heap.size w w' := by
  by_cases hl : len ≤ 1048576
  · by_cases hl' : len' ≤ 1048576
    · exact walk_small a len cap a' len' cap' w h.2 hl h'.2 hl'
    · exact walk_big2 a len cap a' len' cap' w hl h'.1 (by omega)
  · exact walk_big1 a len cap _ w h.1 (by omega)

set_option maxRecDepth 100000 in
theorem lifted (os : Os) (started : os.Started) (H : Type) (enc : TypeId × Value → H) :
    ReturnsInHanded {} Try.checked os 4 .any (Rows.fnCountedSpec.pre6 enc Try.prog Try.f4 Rows.fnCountedRow.domain false) (Rows.fnCountedSpec.post enc Try.prog Try.f4 false true false false) := by
  refine returnsInHanded_of_change (C := Try.checked) own started (by kernel_rfl) Try.func4
    (ChangeSpec.witness6 (enc := enc) (C := Try.checked) false ⟨#[], #[.slice none 0 0, .slice none 0 0], []⟩ 8 (by kernel_rfl) (by kernel_rfl) (by kernel_rfl) (by kernel_rfl)) ?_
  intro W base args ds gs before hval0 hW hcnd _
  have hval : ∀ (j : Nat) t v, Try.f4.params[j]? = some t → args[j]? = some v → Value.okWide Try.prog W .any base t v := hval0
  have hW' := hW
  obtain ⟨p, q, hA0, hV, rfl, hfz, hnd⟩ := hW
  have hA : DataW.TrodAll enc Try.prog W 0 (fun _ => true) true Try.f4.params.toList args.toList ds p := hA0
  rw [Try.params4] at hA hval
  obtain ⟨v0, v1, d0, d1, p0, p1, rfl, rfl, rfl, h0, h1⟩ := trodAll_two hA
  have k0 := h0
  have lt0 : ∀ x ∈ p0, x.block < W.heap.size := by obtain ⟨m, hm⟩ := k0; exact DataW.trod_lt m _ _ _ hm
  have k1 := h1
  have lt1 : ∀ x ∈ p1, x.block < W.heap.size := by obtain ⟨m, hm⟩ := k1; exact DataW.trod_lt m _ _ _ hm
  obtain ⟨rfl, rfl⟩ := trodVars_none hV
  obtain ⟨a0, len0, cap0, hv0, hr0⟩ := open_bytes (hval 0 22 v0 rfl rfl) h0
  subst hv0
  obtain ⟨a1, len1, cap1, hv1, hr1⟩ := open_bytes (hval 1 22 v1 rfl rfl) h1
  subst hv1
  clear hA0 hval0
  refine (walk a0 len0 cap0 a1 len1 cap1 W hr0 hr1).mono fun e W' ⟨he, bel⟩ => ?_
  subst he
  exact ⟨_, rfl, _, _, _, [], _, [], hW', trodAll_mk1 (shut_bool Try.underlying4 _), (trodAll_mk2 (Below.trod laidOut (by kernel_rfl) (of_decide_eq_true (by kernel_rfl)) k0 bel lt0) (Below.trod laidOut (by kernel_rfl) (of_decide_eq_true (by kernel_rfl)) k1 bel lt1)), rfl, bel.frame _, fun h => by cases h⟩

theorem over : Rows.fnCountedRow.holds Try.pinned (OpenSpec.ofChange Rows.fnCountedSpec) :=
  OpenClaim.holds_of_wide 4 Try.f4 rfl rfl rfl rfl rfl rfl rfl ⟨rfl, rfl, rfl, rfl, rfl⟩ rfl rfl rfl rfl rfl (by kernel_rfl) Try.func4 (by kernel_rfl)
    (of_decide_eq_true (by kernel_rfl)) (by unfold Func.isWrapper; rw [if_neg (by decide +kernel)]; exact ⟨rfl, rfl⟩)
    (fun os started H enc _ => lifted os started H enc)

end Go.Proofs.Ytaopkoamjfmhhaa.lawCounted
namespace Go.Proofs.Ytaopkoamjfmhhaa
theorem fnCounted_holds : Rows.FnCountedSaid := lawCounted.over
#print axioms fnCounted_holds
end Go.Proofs.Ytaopkoamjfmhhaa
