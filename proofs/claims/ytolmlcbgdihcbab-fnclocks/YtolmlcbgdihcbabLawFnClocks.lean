/- At every two codes the law FnClocks answers true: vectors go together whichever come first, and one is at most another just where joined they are that one. No conditions. -/
import Derived.Test.YtolmlcbgdihcbabPack6
import Derived.Test.YtolmlcbgdihcbabPack7
import Derived.Test.YtolmlcbgdihcbabRows
namespace Go.Proofs.Ytolmlcbgdihcbab.lawFnClocks
open Go.ChangeShapes Go.WideShapes Go.ChangeAt Go.RowKit Go.Joins
attribute [local go_sem ↓] Go.wp_at_zero Go.wp_at_succ

set_option maxRecDepth 100000 in
theorem big_is (a : Option Addr) (len cap : Nat) (r : Bool) (h : decide (1048576 < len) = r) (hm : len ≤ maxLen) (w : World) :
    Calls Try.prog 5 #[.slice a len cap] w fun e w' => e = .returned (.bool r) ∧ w' = w := by
  unfold maxLen at hm
  cases r
  · have h' : len ≤ 1048576 := by simpa using h
    clear h
    go_enter Try.func5, Try.ntmps5
    go_wp2
    go_ret
    exact ⟨by simp; omega, rfl⟩
  · have h' : 1048576 < len := by simpa using h
    clear h
    go_enter Try.func5, Try.ntmps5
    go_wp2
    go_ret
    exact ⟨by simp; omega, rfl⟩

set_option maxRecDepth 100000 in
theorem open_bytes {H : Type} {enc : TypeId × Value → H} {w : World} {base b0 : Nat} {held : Bool} {r : Go.Reach} {v : Value} {d : DataW H} {p : List MemPlace} (hv : Value.okWide Try.prog w r b0 22 v) (h : DataW.Trod enc Try.prog w base (fun _ => true) held 22 v d p) :
    ∃ (a : Option Addr) (len cap : Nat), v = .slice a len cap ∧ (len ≤ maxLen ∧ Bytes w a len) := by
  obtain ⟨a, len, cap, rfl⟩ := okWide_slice Try.underlying22 hv
  obtain ⟨fuel, hf⟩ := h
  refine ⟨a, len, cap, rfl, ?_⟩
  rcases open_ints Try.underlying22 Try.underlying5 (by kernel_rfl) hf with ⟨hcs, _⟩ | ⟨x, l, c, zs, hcs, _, hl, hm, hz, _, hcell, hwz⟩
  · simp [Value.cells] at hcs
    obtain ⟨rfl, rfl, rfl⟩ := hcs
    exact ⟨Nat.zero_le _, .inl rfl⟩
  · simp [Value.cells] at hcs
    obtain ⟨rfl, rfl, rfl⟩ := hcs
    refine ⟨by omega, ?_⟩
    by_cases h0 : len = 0
    · exact .inl h0
    · have hzl : zs.length = cap := by simpa using hz
      have hx : x = ⟨x.block, x.off, none⟩ := by
        have h1 := hcell 0 (by omega)
        simp [Addr.add] at h1
        cases x with
        | mk b o s =>
          cases s with
          | none => rfl
          | some s =>
            simp only [World.cell?] at h1
            split at h1 <;> simp at h1
      refine .inr ⟨x.block, x.off, by rw [← hx], ?_, fun i hi => ?_⟩
      · have h1 := hcell 0 (by omega)
        have := World.block_lt_of_cell? w _ h1
        simpa [Addr.add] using this
      · have h1 := hcell i (by omega)
        have hw : (Lit.int .u8 (zs.getD i 0)).wf = true := hwz _ (by rw [List.getD_eq_getElem?_getD, List.getElem?_eq_getElem (by omega)]; exact List.getElem_mem _)
        have hb := bounds_u8 hw
        refine ⟨zs.getD i 0, hb.1, hb.2, ?_⟩
        rw [hx] at h1
        have e : (Addr.mk x.block x.off none).add i = ⟨x.block, x.off + i, none⟩ := by
          unfold Addr.add
          split
          · rename_i h
            rw [h]
            rfl
          · rfl
        rw [e] at h1
        exact h1

set_option maxRecDepth 100000 in
set_option maxHeartbeats 1000000 in
theorem walk_big1 (a : Option Addr) (len cap : Nat) (v : Value) (w : World) (hm : len ≤ maxLen) (h : 1048576 < len) :
    Calls Try.prog 3 #[.slice a len cap, v] w fun e w' => e = .returned (.bool true) ∧ Below w.heap.size w w' := by
  have d1 : decide (1048576 < len) = true := by simpa using h
  clear h
  go_enter Try.func3, Try.ntmps3
  go_wp2_with (go_at_call 5; refine (big_is _ _ _ true d1 hm _).mono ?_; rintro e w1 ⟨rfl, rfl⟩)
  go_ret
  exact ⟨rfl, Below.refl _ _⟩

set_option maxRecDepth 100000 in
set_option maxHeartbeats 1000000 in
theorem walk_big2 (a : Option Addr) (len cap : Nat) (a' : Option Addr) (len' cap' : Nat) (w : World) (h : len ≤ 1048576) (hm' : len' ≤ maxLen) (h' : 1048576 < len') :
    Calls Try.prog 3 #[.slice a len cap, .slice a' len' cap'] w fun e w' => e = .returned (.bool true) ∧ Below w.heap.size w w' := by
  have d1 : decide (1048576 < len) = false := by simp; omega
  have d2 : decide (1048576 < len') = true := by simpa using h'
  have hm : len ≤ maxLen := by unfold maxLen; omega
  clear h h'
  go_enter Try.func3, Try.ntmps3
  go_wp2_with fail
  refine (big_is _ _ _ false d1 hm _).mono ?_
  rintro e w1 ⟨rfl, rfl⟩
  go_wp2_with fail
  refine (big_is _ _ _ true d2 hm' _).mono ?_
  rintro e w2 ⟨rfl, rfl⟩
  go_wp2
  go_ret
  exact ⟨rfl, Below.refl _ _⟩

/-- A vector that is answered. -/
def AnsC (zs : List Int) : Fact := fun v w => ∃ g cp, v = vecV g zs.length cp ∧ IsIs w g zs

theorem lasts_ansC (zs : List Int) : lasts (fun w w' => Below w.heap.size w w') (AnsC zs) := by
  rintro v w w' ⟨g, cp, h1, h2⟩ hr
  exact ⟨g, cp, h1, h2.below hr⟩

/-- Its numbers. -/
def FldC (zs : List Int) : Fact := fun v w => ∃ g cp, v = .slice g zs.length cp ∧ IsIs w g zs

theorem lasts_fldC (zs : List Int) : lasts (fun w w' => Below w.heap.size w w') (FldC zs) := by
  rintro v w w' ⟨g, cp, h1, h2⟩ hr
  exact ⟨g, cp, h1, h2.below hr⟩

set_option maxRecDepth 100000 in
set_option maxHeartbeats 16000000 in
theorem walk_small (a : Option Addr) (len cap : Nat) (a' : Option Addr) (len' cap' : Nat) (w : World) (hy : Bytes w a len) (hl : len ≤ 1048576) (hy' : Bytes w a' len') (hl' : len' ≤ 1048576) :
    Calls Try.prog 3 #[.slice a len cap, .slice a' len' cap'] w fun e w' => e = .returned (.bool true) ∧ Below w.heap.size w w' := by
  have HY : Hid (Bytes w a len) := hy
  have HY' : Hid (Bytes w a' len') := hy'
  have d1 : decide (1048576 < len) = false := by simp; omega
  have d2 : decide (1048576 < len') = false := by simp; omega
  clear hy hy'
  go_enter Try.func3, Try.ntmps3
  go_wp2_with fail
  refine (big_is _ _ _ false d1 (by unfold maxLen; omega) _).mono ?_
  rintro e w0 ⟨rfl, hw⟩
  subst w0
  go_wp2_with fail
  refine (big_is _ _ _ false d2 (by unfold maxLen; omega) _).mono ?_
  rintro e w0 ⟨rfl, hw⟩
  subst w0
  clear d1 d2
  have HB : Hid (Below w.heap.size w w) := Below.refl _ _
  go_wp2_with fail
  refine (drawVecCmp_any _ _ _ _ HY.out hl).mono ?_
  rintro e u1 ⟨aa, ca, A, ab, cb, B, rfl, hA5, hB5, ha, hb', hb⟩
  replace HY' := Lib.hid (HY'.out.below hb)
  replace HB := Lib.hid (below_step HB.out HB.out.size hb)
  have HA := Lib.hid ha
  have HBB := Lib.hid hb'
  clear ha hb' HY
  clear hb
  go_wp2_with fail
  have hA : Below u1.heap.size u1 ((u1.alloc (.cells #[.slice aa A.length ca] 26)).alloc (.cells #[.slice ab B.length cb] 26)) := ((Below.refl _ _).alloc (Nat.le_refl _) _).alloc (by simp) _
  replace HY' := Lib.hid (HY'.out.below hA)
  replace HA := Lib.hid (HA.out.below hA)
  replace HBB := Lib.hid (HBB.out.below hA)
  replace HB := Lib.hid (below_step HB.out HB.out.size hA)
  clear hA
  have c5 : ((u1.alloc (.cells #[.slice aa A.length ca] 26)).alloc (.cells #[.slice ab B.length cb] 26)).cell? ⟨u1.heap.size, 0, none⟩ = some (.slice aa A.length ca) := by go_simp
  have z5 : u1.heap.size < ((u1.alloc (.cells #[.slice aa A.length ca] 26)).alloc (.cells #[.slice ab B.length cb] 26)).heap.size := by simp; omega
  have c6 : ((u1.alloc (.cells #[.slice aa A.length ca] 26)).alloc (.cells #[.slice ab B.length cb] 26)).cell? ⟨u1.heap.size + 1, 0, none⟩ = some (.slice ab B.length cb) := by go_simp
  have z6 : u1.heap.size + 1 < ((u1.alloc (.cells #[.slice aa A.length ca] 26)).alloc (.cells #[.slice ab B.length cb] 26)).heap.size := by simp
  generalize ((u1.alloc (.cells #[.slice aa A.length ca] 26)).alloc (.cells #[.slice ab B.length cb] 26)) = V1 at *
  refine (drawVecTick_any _ _ _ _ HY'.out hl').mono ?_
  rintro e u2 ⟨ac, cc, C, si, rfl, hC5, hc, hb⟩
  replace c5 := (hb.cell (p := ⟨u1.heap.size, 0, none⟩) z5).trans c5
  replace z5 := Nat.lt_of_lt_of_le z5 hb.size
  replace c6 := (hb.cell (p := ⟨u1.heap.size + 1, 0, none⟩) z6).trans c6
  replace z6 := Nat.lt_of_lt_of_le z6 hb.size
  replace HY' := Lib.hid (HY'.out.below hb)
  replace HA := Lib.hid (HA.out.below hb)
  replace HBB := Lib.hid (HBB.out.below hb)
  replace HB := Lib.hid (below_step HB.out HB.out.size hb)
  have HC := Lib.hid hc
  clear hc HY'
  clear hb
  go_wp2_with fail
  have hA : Below u2.heap.size u2 (u2.alloc (.cells #[.slice ac C.length cc] 26)) := (Below.refl _ _).alloc (Nat.le_refl _) _
  replace c5 := (hA.cell (p := ⟨u1.heap.size, 0, none⟩) z5).trans c5
  replace z5 := Nat.lt_of_lt_of_le z5 hA.size
  replace c6 := (hA.cell (p := ⟨u1.heap.size + 1, 0, none⟩) z6).trans c6
  replace z6 := Nat.lt_of_lt_of_le z6 hA.size
  replace HA := Lib.hid (HA.out.below hA)
  replace HBB := Lib.hid (HBB.out.below hA)
  replace HC := Lib.hid (HC.out.below hA)
  replace HB := Lib.hid (below_step HB.out HB.out.size hA)
  clear hA
  have c7 : (u2.alloc (.cells #[.slice ac C.length cc] 26)).cell? ⟨u2.heap.size, 0, none⟩ = some (.slice ac C.length cc) := by go_simp
  have z7 : u2.heap.size < (u2.alloc (.cells #[.slice ac C.length cc] 26)).heap.size := by simp
  generalize (u2.alloc (.cells #[.slice ac C.length cc] 26)) = V2 at *
  have hmA : A.length ≤ maxLen := by unfold maxLen; omega
  have hmB : B.length ≤ maxLen := by unfold maxLen; omega
  have hmC : C.length ≤ maxLen := by unfold maxLen; omega
  obtain ⟨J, hJ⟩ : ∃ J, J = joinV A B := ⟨_, rfl⟩
  obtain ⟨x, hx⟩ : ∃ x, x = cmpV A B := ⟨_, rfl⟩
  obtain ⟨y, hy⟩ : ∃ y, y = cmpV B A := ⟨_, rfl⟩
  have hJ4 : J.length ≤ 4 := by rw [hJ]; exact joinV_few _ _
  have PJ := Lib.hid hJ
  have PX := Lib.hid hx
  have PY := Lib.hid hy
  clear hJ hx hy
  have KJ : Hid (∀ W a n cp b m cq, IsIs W a A → A.length = n → IsIs W b B → B.length = m → Calls Try.prog 8 #[vecV a n cp, vecV b m cq] W fun e w' => ∃ g cp, e = .returned (vecV g J.length cp) ∧ OwnI w' W.heap.size w'.heap.size g J ∧ Below W.heap.size W w') := fun W a n cp b m cq h1 h2 h3 h4 => by
    subst h2 h4
    rw [PJ.out]
    exact implVecJoin_any _ _ _ _ _ _ A B W rfl hmA h1 rfl hmB h3
  have KX : Hid (∀ W, IsIs W aa A → IsIs W ab B → Calls Try.prog 9 #[vecV aa A.length ca, vecV ab B.length cb] W fun e w' => e = .returned (.int .i64 x) ∧ Below W.heap.size W w') := fun W h1 h2 => by
    rw [PX.out]
    exact implVecCmp_any _ _ _ _ _ _ A B W rfl hmA h1 rfl hmB h2
  have KY : Hid (∀ W, IsIs W aa A → IsIs W ab B → Calls Try.prog 9 #[vecV ab B.length cb, vecV aa A.length ca] W fun e w' => e = .returned (.int .i64 y) ∧ Below W.heap.size W w') := fun W h1 h2 => by
    rw [PY.out]
    exact implVecCmp_any _ _ _ _ _ _ B A W rfl hmB h2 rfl hmA h1
  refine (KJ.out _ _ _ _ _ _ _ HA.out rfl HBB.out rfl).mono ?_
  rintro e u3 ⟨aj, cj, rfl, ho, hb⟩
  replace c5 := (hb.cell (p := ⟨u1.heap.size, 0, none⟩) z5).trans c5
  replace z5 := Nat.lt_of_lt_of_le z5 hb.size
  replace c6 := (hb.cell (p := ⟨u1.heap.size + 1, 0, none⟩) z6).trans c6
  replace z6 := Nat.lt_of_lt_of_le z6 hb.size
  replace c7 := (hb.cell (p := ⟨u2.heap.size, 0, none⟩) z7).trans c7
  replace z7 := Nat.lt_of_lt_of_le z7 hb.size
  replace HA := Lib.hid (HA.out.below hb)
  replace HBB := Lib.hid (HBB.out.below hb)
  replace HC := Lib.hid (HC.out.below hb)
  replace HB := Lib.hid (below_step HB.out HB.out.size hb)
  have HJ := Lib.hid ho.isIs
  clear ho
  clear hb
  go_wp2_with fail
  have hA : Below u3.heap.size u3 (u3.alloc (.cells #[.slice aj J.length cj] 26)) := (Below.refl _ _).alloc (Nat.le_refl _) _
  replace c5 := (hA.cell (p := ⟨u1.heap.size, 0, none⟩) z5).trans c5
  replace z5 := Nat.lt_of_lt_of_le z5 hA.size
  replace c6 := (hA.cell (p := ⟨u1.heap.size + 1, 0, none⟩) z6).trans c6
  replace z6 := Nat.lt_of_lt_of_le z6 hA.size
  replace c7 := (hA.cell (p := ⟨u2.heap.size, 0, none⟩) z7).trans c7
  replace z7 := Nat.lt_of_lt_of_le z7 hA.size
  replace HA := Lib.hid (HA.out.below hA)
  replace HBB := Lib.hid (HBB.out.below hA)
  replace HC := Lib.hid (HC.out.below hA)
  replace HJ := Lib.hid (HJ.out.below hA)
  replace HB := Lib.hid (below_step HB.out HB.out.size hA)
  clear hA
  have c9 : (u3.alloc (.cells #[.slice aj J.length cj] 26)).cell? ⟨u3.heap.size, 0, none⟩ = some (.slice aj J.length cj) := by go_simp
  have z9 : u3.heap.size < (u3.alloc (.cells #[.slice aj J.length cj] 26)).heap.size := by simp
  generalize (u3.alloc (.cells #[.slice aj J.length cj] 26)) = V3 at *
  have QX : Hid (∀ p : Aft V3.heap.size V3, Calls Try.prog 9 #[vecV aa A.length ca, vecV ab B.length cb] p.now fun e w' => e = .returned (.int .i64 x) ∧ Below p.now.heap.size p.now w') := fun p => KX.out _ (HA.out.below p.below) (HBB.out.below p.below)
  have QY : Hid (∀ p : Aft V3.heap.size V3, Calls Try.prog 9 #[vecV ab B.length cb, vecV aa A.length ca] p.now fun e w' => e = .returned (.int .i64 y) ∧ Below p.now.heap.size p.now w') := fun p => KY.out _ (HA.out.below p.below) (HBB.out.below p.below)
  have g0 := aft_cell z5 c5
  have g1 := aft_cell z6 c6
  have g2 := aft_cell z7 c7
  have g3 := aft_cell z9 c9
  have ne := aft_some V3
  refine wp_region_aft (by kernel_rfl) (by kernel_rfl) ?_
  iterate 2 go_big_quiet_step (fail)
  go_big_quiet_step ((go_at_call 9; exact aft_of (QX.out _)))
  iterate 2 go_big_quiet_step (fail)
  go_big_quiet_step ((go_at_call 9; exact aft_of (QY.out _)))
  iterate 2 go_big_quiet_step (fail)
  refine wpQuiet_nil ?_
  intro u4 hq
  clear ne g0 g1 g2 g3 QX QY KX KY
  replace c5 := (hq.cell (p := ⟨u1.heap.size, 0, none⟩) z5).trans c5
  replace z5 := Nat.lt_of_lt_of_le z5 hq.size
  replace c6 := (hq.cell (p := ⟨u1.heap.size + 1, 0, none⟩) z6).trans c6
  replace z6 := Nat.lt_of_lt_of_le z6 hq.size
  replace c7 := (hq.cell (p := ⟨u2.heap.size, 0, none⟩) z7).trans c7
  replace z7 := Nat.lt_of_lt_of_le z7 hq.size
  replace c9 := (hq.cell (p := ⟨u3.heap.size, 0, none⟩) z9).trans c9
  replace z9 := Nat.lt_of_lt_of_le z9 hq.size
  replace HA := Lib.hid (HA.out.below hq)
  replace HBB := Lib.hid (HBB.out.below hq)
  replace HC := Lib.hid (HC.out.below hq)
  replace HJ := Lib.hid (HJ.out.below hq)
  replace HB := Lib.hid (below_step HB.out HB.out.size hq)
  clear hq
  have KSJ : Hid (∀ W, IsIs W aa A → IsIs W ab B → Calls Try.prog 11 #[vecV aa A.length ca, vecV ab B.length cb] W fun e w' => ∃ g cp, e = .returned (vecV g J.length cp) ∧ OwnI w' W.heap.size w'.heap.size g J ∧ Below W.heap.size W w') := fun W h1 h2 => by
    rw [PJ.out]
    exact specVecJoin_any _ _ _ _ _ _ A B W rfl hmA h1 rfl hmB h2
  have KSX : Hid (∀ W, IsIs W aa A → IsIs W ab B → Calls Try.prog 12 #[vecV aa A.length ca, vecV ab B.length cb] W fun e w' => e = .returned (.int .i64 x) ∧ Below W.heap.size W w') := fun W h1 h2 => by
    rw [PX.out]
    exact specVecCmp_any _ _ _ _ _ _ A B W rfl hmA h1 rfl hmB h2
  have KE : Hid (∀ (zs : List Int) W a1 c1 a2 c2, zs.length ≤ 4 → IsIs W a1 zs → IsIs W a2 zs → Calls Try.prog 10 #[.slice a1 zs.length c1, .slice a2 zs.length c2] W fun e w' => e = .returned (.bool true) ∧ Below W.heap.size W w') := fun zs W a1 c1 a2 c2 hz h1 h2 => by
    have := same_dec a1 a2 c1 c2 zs zs W (by omega) (by omega) h1 h2
    rw [decide_eq_true rfl] at this
    exact this
  go_wp2_with fail
  refine wp_region_slotsH 15 [[(9, false)], [(39, true)], [(5, false)], [(6, false)], [(41, true), (42, true)], [(43, true)], [(40, true), (44, true)], [(45, true)], [(46, true)], [(10, false), (47, true)], [(5, false), (47, true)], [(6, false), (47, true)], [(49, true), (50, true), (47, true)], [(48, true), (51, true), (47, true)], [(47, true), (52, true)]] (fun w' => Below u4.heap.size u4 w') (fun w w' => Below w.heap.size w w') (by kernel_rfl) (by kernel_rfl) (by rfl) (Below.refl _ _).drew (fun _ _ h hb => below_step h h.size hb) ?_
  apply slot_eq_h
  · intro ρ w' ⟨p1, p2, p3⟩ hS hn
    have d0 := (hS.cell (p := ⟨u1.heap.size, 0, none⟩) z5).trans c5; have d1 := (hS.cell (p := ⟨u1.heap.size + 1, 0, none⟩) z6).trans c6; have d2 := (hS.cell (p := ⟨u2.heap.size, 0, none⟩) z7).trans c7; have d3 := (hS.cell (p := ⟨u3.heap.size, 0, none⟩) z9).trans c9
    simp at hn
    go_simp
    exact ⟨Below.refl _ _, rfl⟩
  apply slot_eq_h
  · intro ρ w' ⟨p1, p2, p3⟩ hS hn
    have d0 := (hS.cell (p := ⟨u1.heap.size, 0, none⟩) z5).trans c5; have d1 := (hS.cell (p := ⟨u1.heap.size + 1, 0, none⟩) z6).trans c6; have d2 := (hS.cell (p := ⟨u2.heap.size, 0, none⟩) z7).trans c7; have d3 := (hS.cell (p := ⟨u3.heap.size, 0, none⟩) z9).trans c9
    simp at hn
    go_simp
    exact ⟨Below.refl _ _, rfl⟩
  apply slot_eq_h
  · intro ρ w' ⟨p1, p2, p3⟩ hS hn
    have d0 := (hS.cell (p := ⟨u1.heap.size, 0, none⟩) z5).trans c5; have d1 := (hS.cell (p := ⟨u1.heap.size + 1, 0, none⟩) z6).trans c6; have d2 := (hS.cell (p := ⟨u2.heap.size, 0, none⟩) z7).trans c7; have d3 := (hS.cell (p := ⟨u3.heap.size, 0, none⟩) z9).trans c9
    simp at hn
    go_simp
    exact ⟨Below.refl _ _, rfl⟩
  apply slot_eq_h
  · intro ρ w' ⟨p1, p2, p3⟩ hS hn
    have d0 := (hS.cell (p := ⟨u1.heap.size, 0, none⟩) z5).trans c5; have d1 := (hS.cell (p := ⟨u1.heap.size + 1, 0, none⟩) z6).trans c6; have d2 := (hS.cell (p := ⟨u2.heap.size, 0, none⟩) z7).trans c7; have d3 := (hS.cell (p := ⟨u3.heap.size, 0, none⟩) z9).trans c9
    simp at hn
    go_simp
    exact ⟨Below.refl _ _, rfl⟩
  refine slot_fact_h (AnsC (J)) (lasts_ansC _) ?_ ?_
  · intro ρ w' ⟨p1, p2, p3⟩ hS hn
    simp at hn
    go_simp
    exact got_call (KSJ.out _ (HA.out.below hS) (HBB.out.below hS)) fun e w'' ⟨g, cp, he, ho, hb⟩ => ⟨_, he, hb, g, cp, rfl, ho.isIs⟩
  refine slot_fact_h (FldC J) (lasts_fldC _) ?_ ?_
  · intro ρ w' ⟨p1, p2, p3⟩ hS hn
    simp at hn
    obtain ⟨g, cp, e1, h1⟩ := hn
    go_simp
    exact ⟨Below.refl _ _, g, cp, rfl, h1⟩
  apply slot_eq_h
  · intro ρ w' ⟨p1, p2, p3⟩ hS hn
    have d0 := (hS.cell (p := ⟨u1.heap.size, 0, none⟩) z5).trans c5; have d1 := (hS.cell (p := ⟨u1.heap.size + 1, 0, none⟩) z6).trans c6; have d2 := (hS.cell (p := ⟨u2.heap.size, 0, none⟩) z7).trans c7; have d3 := (hS.cell (p := ⟨u3.heap.size, 0, none⟩) z9).trans c9
    simp at hn
    obtain ⟨e0, g, cp, e1, h1⟩ := hn
    go_simp
    exact got_call (KE.out J _ _ _ _ _ hJ4 (HJ.out.below hS) h1) fun e w'' ⟨he, hb⟩ => ⟨_, he, hb, rfl⟩
  apply slot_eq_h
  · intro ρ w' ⟨p1, p2, p3⟩ hS hn
    have d0 := (hS.cell (p := ⟨u1.heap.size, 0, none⟩) z5).trans c5; have d1 := (hS.cell (p := ⟨u1.heap.size + 1, 0, none⟩) z6).trans c6; have d2 := (hS.cell (p := ⟨u2.heap.size, 0, none⟩) z7).trans c7; have d3 := (hS.cell (p := ⟨u3.heap.size, 0, none⟩) z9).trans c9
    simp at hn
    go_simp
    exact ⟨Below.refl _ _, rfl⟩
  apply slot_eq_h
  · intro ρ w' ⟨p1, p2, p3⟩ hS hn
    have d0 := (hS.cell (p := ⟨u1.heap.size, 0, none⟩) z5).trans c5; have d1 := (hS.cell (p := ⟨u1.heap.size + 1, 0, none⟩) z6).trans c6; have d2 := (hS.cell (p := ⟨u2.heap.size, 0, none⟩) z7).trans c7; have d3 := (hS.cell (p := ⟨u3.heap.size, 0, none⟩) z9).trans c9
    simp at hn
    go_simp
    exact ⟨Below.refl _ _, rfl⟩
  apply slot_eq_h
  · intro ρ w' ⟨p1, p2, p3⟩ hS hn
    have d0 := (hS.cell (p := ⟨u1.heap.size, 0, none⟩) z5).trans c5; have d1 := (hS.cell (p := ⟨u1.heap.size + 1, 0, none⟩) z6).trans c6; have d2 := (hS.cell (p := ⟨u2.heap.size, 0, none⟩) z7).trans c7; have d3 := (hS.cell (p := ⟨u3.heap.size, 0, none⟩) z9).trans c9
    simp at hn
    refine ⟨47, false, rfl, hn.2, ?_⟩
    rw [if_pos rfl]
    go_simp
    exact ⟨Below.refl _ _, rfl⟩
  apply slot_eq_h
  · intro ρ w' ⟨p1, p2, p3⟩ hS hn
    have d0 := (hS.cell (p := ⟨u1.heap.size, 0, none⟩) z5).trans c5; have d1 := (hS.cell (p := ⟨u1.heap.size + 1, 0, none⟩) z6).trans c6; have d2 := (hS.cell (p := ⟨u2.heap.size, 0, none⟩) z7).trans c7; have d3 := (hS.cell (p := ⟨u3.heap.size, 0, none⟩) z9).trans c9
    simp at hn
    refine ⟨47, false, rfl, hn.2, ?_⟩
    rw [if_pos rfl]
    go_simp
    exact ⟨Below.refl _ _, rfl⟩
  apply slot_eq_h
  · intro ρ w' ⟨p1, p2, p3⟩ hS hn
    have d0 := (hS.cell (p := ⟨u1.heap.size, 0, none⟩) z5).trans c5; have d1 := (hS.cell (p := ⟨u1.heap.size + 1, 0, none⟩) z6).trans c6; have d2 := (hS.cell (p := ⟨u2.heap.size, 0, none⟩) z7).trans c7; have d3 := (hS.cell (p := ⟨u3.heap.size, 0, none⟩) z9).trans c9
    simp at hn
    refine ⟨47, false, rfl, hn.2, ?_⟩
    rw [if_pos rfl]
    go_simp
    exact ⟨Below.refl _ _, rfl⟩
  apply slot_eq_h
  · intro ρ w' ⟨p1, p2, p3⟩ hS hn
    have d0 := (hS.cell (p := ⟨u1.heap.size, 0, none⟩) z5).trans c5; have d1 := (hS.cell (p := ⟨u1.heap.size + 1, 0, none⟩) z6).trans c6; have d2 := (hS.cell (p := ⟨u2.heap.size, 0, none⟩) z7).trans c7; have d3 := (hS.cell (p := ⟨u3.heap.size, 0, none⟩) z9).trans c9
    simp at hn
    refine ⟨47, false, rfl, hn.2.2, ?_⟩
    rw [if_pos rfl]
    go_simp
    exact got_call (KSX.out _ (HA.out.below hS) (HBB.out.below hS)) fun e w'' ⟨he, hb⟩ => ⟨_, he, hb, rfl⟩
  apply slot_eq_h
  · intro ρ w' ⟨p1, p2, p3⟩ hS hn
    have d0 := (hS.cell (p := ⟨u1.heap.size, 0, none⟩) z5).trans c5; have d1 := (hS.cell (p := ⟨u1.heap.size + 1, 0, none⟩) z6).trans c6; have d2 := (hS.cell (p := ⟨u2.heap.size, 0, none⟩) z7).trans c7; have d3 := (hS.cell (p := ⟨u3.heap.size, 0, none⟩) z9).trans c9
    simp at hn
    refine ⟨47, false, rfl, hn.2.2, ?_⟩
    rw [if_pos rfl]
    go_simp
    exact ⟨Below.refl _ _, rfl⟩
  apply slot_eq_h
  · intro ρ w' ⟨p1, p2, p3⟩ hS hn
    have d0 := (hS.cell (p := ⟨u1.heap.size, 0, none⟩) z5).trans c5; have d1 := (hS.cell (p := ⟨u1.heap.size + 1, 0, none⟩) z6).trans c6; have d2 := (hS.cell (p := ⟨u2.heap.size, 0, none⟩) z7).trans c7; have d3 := (hS.cell (p := ⟨u3.heap.size, 0, none⟩) z9).trans c9
    simp at hn
    go_simp
    exact ⟨Below.refl _ _, rfl⟩
  refine slot_end_h ?_
  rintro vs u5 hS hF
  simp at hF
  obtain ⟨f53, f52, f51, f50, f49, f48, f47, f46, f45, ⟨g44, q44, f44, -⟩, ⟨g43, q43, f43, -⟩, f42, f41, f40, f39⟩ := hF
  simp only [List.take_succ_cons, List.take_zero, List.drop_succ_cons, List.drop_zero, putAll, f53, f52, f51, f50, f49, f48, f47, f46, f45, f44, f43, f42, f41, f40, f39]
  clear f53 f52 f51 f50 f49 f48 f47 f46 f45 f44 f43 f42 f41 f40 f39
  simp only [Act.put, List.setIfInBounds_toArray, List.set_cons_succ, List.set_cons_zero]
  replace c5 := (hS.cell (p := ⟨u1.heap.size, 0, none⟩) z5).trans c5
  replace z5 := Nat.lt_of_lt_of_le z5 hS.size
  replace c6 := (hS.cell (p := ⟨u1.heap.size + 1, 0, none⟩) z6).trans c6
  replace z6 := Nat.lt_of_lt_of_le z6 hS.size
  replace c7 := (hS.cell (p := ⟨u2.heap.size, 0, none⟩) z7).trans c7
  replace z7 := Nat.lt_of_lt_of_le z7 hS.size
  replace c9 := (hS.cell (p := ⟨u3.heap.size, 0, none⟩) z9).trans c9
  replace z9 := Nat.lt_of_lt_of_le z9 hS.size
  replace HA := Lib.hid (HA.out.below hS)
  replace HBB := Lib.hid (HBB.out.below hS)
  replace HC := Lib.hid (HC.out.below hS)
  replace HJ := Lib.hid (HJ.out.below hS)
  replace HB := Lib.hid (below_step HB.out HB.out.size hS)
  clear hS
  clear KSJ KSX
  obtain ⟨oA, hoA⟩ : ∃ o, o = vecB A := ⟨_, rfl⟩
  obtain ⟨oB, hoB⟩ : ∃ o, o = vecB B := ⟨_, rfl⟩
  obtain ⟨oC, hoC⟩ : ∃ o, o = vecB C := ⟨_, rfl⟩
  have POA := Lib.hid hoA
  have POB := Lib.hid hoB
  have POC := Lib.hid hoC
  clear hoA hoB hoC
  have KOA : Hid (∀ W, IsIs W aa A → Calls Try.prog 13 #[vecV aa A.length ca] W fun e w' => e = .returned (.bool oA) ∧ Below W.heap.size W w') := fun W h1 => by
    rw [POA.out]
    exact specVecOk_any _ _ _ A W rfl hmA h1
  have KOB : Hid (∀ W, IsIs W ab B → Calls Try.prog 13 #[vecV ab B.length cb] W fun e w' => e = .returned (.bool oB) ∧ Below W.heap.size W w') := fun W h1 => by
    rw [POB.out]
    exact specVecOk_any _ _ _ B W rfl hmB h1
  have KOC : Hid (∀ W, IsIs W ac C → Calls Try.prog 13 #[vecV ac C.length cc] W fun e w' => e = .returned (.bool oC) ∧ Below W.heap.size W w') := fun W h1 => by
    rw [POC.out]
    exact specVecOk_any _ _ _ C W rfl hmC h1
  cases oA
  · skip
    have hx3 : x = 3 := PX.out.trans (cmpV_bad (by rw [← POA.out]; rfl))
    have hy3 : y = 3 := PY.out.trans (cmpV_bad (by rw [← POA.out, Bool.and_false]))
    have hJ0 : J = [] := PJ.out.trans (joinV_bad (by rw [← POA.out]; rfl))
    clear PX PY PJ KE KJ
    subst hx3 hy3 hJ0
    go_wp2_with fail
    refine (KOA.out _ HA.out).mono ?_
    rintro e u6 ⟨rfl, hb⟩
    replace c5 := (hb.cell (p := ⟨u1.heap.size, 0, none⟩) z5).trans c5
    replace z5 := Nat.lt_of_lt_of_le z5 hb.size
    replace c6 := (hb.cell (p := ⟨u1.heap.size + 1, 0, none⟩) z6).trans c6
    replace z6 := Nat.lt_of_lt_of_le z6 hb.size
    replace c7 := (hb.cell (p := ⟨u2.heap.size, 0, none⟩) z7).trans c7
    replace z7 := Nat.lt_of_lt_of_le z7 hb.size
    replace c9 := (hb.cell (p := ⟨u3.heap.size, 0, none⟩) z9).trans c9
    replace z9 := Nat.lt_of_lt_of_le z9 hb.size
    replace HA := Lib.hid (HA.out.below hb)
    replace HBB := Lib.hid (HBB.out.below hb)
    replace HC := Lib.hid (HC.out.below hb)
    replace HJ := Lib.hid (HJ.out.below hb)
    replace HB := Lib.hid (below_step HB.out HB.out.size hb)
    clear hb
    go_wp2
    go_ret
    exact ⟨rfl, HB.out⟩
  · skip
    cases oB
    · skip
      have hx3 : x = 3 := PX.out.trans (cmpV_bad (by rw [← POB.out, Bool.and_false]))
      have hy3 : y = 3 := PY.out.trans (cmpV_bad (by rw [← POB.out]; rfl))
      have hJ0 : J = [] := PJ.out.trans (joinV_bad (by rw [← POB.out, Bool.and_false]))
      clear PX PY PJ KE KJ
      subst hx3 hy3 hJ0
      go_wp2_with fail
      refine (KOA.out _ HA.out).mono ?_
      rintro e u7 ⟨rfl, hb⟩
      replace c5 := (hb.cell (p := ⟨u1.heap.size, 0, none⟩) z5).trans c5
      replace z5 := Nat.lt_of_lt_of_le z5 hb.size
      replace c6 := (hb.cell (p := ⟨u1.heap.size + 1, 0, none⟩) z6).trans c6
      replace z6 := Nat.lt_of_lt_of_le z6 hb.size
      replace c7 := (hb.cell (p := ⟨u2.heap.size, 0, none⟩) z7).trans c7
      replace z7 := Nat.lt_of_lt_of_le z7 hb.size
      replace c9 := (hb.cell (p := ⟨u3.heap.size, 0, none⟩) z9).trans c9
      replace z9 := Nat.lt_of_lt_of_le z9 hb.size
      replace HA := Lib.hid (HA.out.below hb)
      replace HBB := Lib.hid (HBB.out.below hb)
      replace HC := Lib.hid (HC.out.below hb)
      replace HJ := Lib.hid (HJ.out.below hb)
      replace HB := Lib.hid (below_step HB.out HB.out.size hb)
      clear hb
      go_wp2_with fail
      refine (KOB.out _ HBB.out).mono ?_
      rintro e u8 ⟨rfl, hb⟩
      replace c5 := (hb.cell (p := ⟨u1.heap.size, 0, none⟩) z5).trans c5
      replace z5 := Nat.lt_of_lt_of_le z5 hb.size
      replace c6 := (hb.cell (p := ⟨u1.heap.size + 1, 0, none⟩) z6).trans c6
      replace z6 := Nat.lt_of_lt_of_le z6 hb.size
      replace c7 := (hb.cell (p := ⟨u2.heap.size, 0, none⟩) z7).trans c7
      replace z7 := Nat.lt_of_lt_of_le z7 hb.size
      replace c9 := (hb.cell (p := ⟨u3.heap.size, 0, none⟩) z9).trans c9
      replace z9 := Nat.lt_of_lt_of_le z9 hb.size
      replace HA := Lib.hid (HA.out.below hb)
      replace HBB := Lib.hid (HBB.out.below hb)
      replace HC := Lib.hid (HC.out.below hb)
      replace HJ := Lib.hid (HJ.out.below hb)
      replace HB := Lib.hid (below_step HB.out HB.out.size hb)
      clear hb
      go_wp2
      go_ret
      exact ⟨rfl, HB.out⟩
    · skip
      have hvA : vecB A = true := POA.out.symm
      have hvB : vecB B = true := POB.out.symm
      obtain ⟨hp1, hp2, hp3⟩ := cmpV_told hvA hvB
      rw [← PX.out, ← PJ.out] at hp1
      rw [← PX.out, ← PY.out] at hp2 hp3
      have KJ2 : Hid (∀ W, IsIs W aa A → IsIs W ab B → Calls Try.prog 8 #[vecV ab B.length cb, vecV aa A.length ca] W fun e w' => ∃ g cp, e = .returned (vecV g J.length cp) ∧ OwnI w' W.heap.size w'.heap.size g J ∧ Below W.heap.size W w') := fun W h1 h2 => by
        rw [PJ.out, joinV_comm]
        exact implVecJoin_any _ _ _ _ _ _ B A W rfl hmB h2 rfl hmA h1
      obtain ⟨b0, hb0⟩ : ∃ b, (x == 0) = b := ⟨_, rfl⟩
      obtain ⟨b1, hb1⟩ : ∃ b, (x == -1) = b := ⟨_, rfl⟩
      obtain ⟨b2, hb2⟩ : ∃ b, (x == 2) = b := ⟨_, rfl⟩
      rw [hb0, hb1] at hp1
      rw [hb1] at hp2
      rw [hb2] at hp3
      have hy1 := hp2.symm
      have hy2 := hp3.symm
      clear hp2 hp3
      have KD : Hid (∀ W, IsIs W aj J → IsIs W ab B → Calls Try.prog 10 #[.slice aj J.length cj, .slice ab B.length cb] W fun e w' => e = .returned (.bool (b0 || b1)) ∧ Below W.heap.size W w') := fun W h1 h2 => by
        rw [← hp1]
        exact same_dec aj ab cj cb J B W (by omega) (by omega) h1 h2
      clear hp1
      have HVA := Lib.hid hvA
      have HVB := Lib.hid hvB
      clear hvA hvB
      go_wp2_with fail
      refine (KOA.out _ HA.out).mono ?_
      rintro e u9 ⟨rfl, hb⟩
      replace c5 := (hb.cell (p := ⟨u1.heap.size, 0, none⟩) z5).trans c5
      replace z5 := Nat.lt_of_lt_of_le z5 hb.size
      replace c6 := (hb.cell (p := ⟨u1.heap.size + 1, 0, none⟩) z6).trans c6
      replace z6 := Nat.lt_of_lt_of_le z6 hb.size
      replace c7 := (hb.cell (p := ⟨u2.heap.size, 0, none⟩) z7).trans c7
      replace z7 := Nat.lt_of_lt_of_le z7 hb.size
      replace c9 := (hb.cell (p := ⟨u3.heap.size, 0, none⟩) z9).trans c9
      replace z9 := Nat.lt_of_lt_of_le z9 hb.size
      replace HA := Lib.hid (HA.out.below hb)
      replace HBB := Lib.hid (HBB.out.below hb)
      replace HC := Lib.hid (HC.out.below hb)
      replace HJ := Lib.hid (HJ.out.below hb)
      replace HB := Lib.hid (below_step HB.out HB.out.size hb)
      clear hb
      go_wp2_with fail
      refine (KOB.out _ HBB.out).mono ?_
      rintro e u10 ⟨rfl, hb⟩
      replace c5 := (hb.cell (p := ⟨u1.heap.size, 0, none⟩) z5).trans c5
      replace z5 := Nat.lt_of_lt_of_le z5 hb.size
      replace c6 := (hb.cell (p := ⟨u1.heap.size + 1, 0, none⟩) z6).trans c6
      replace z6 := Nat.lt_of_lt_of_le z6 hb.size
      replace c7 := (hb.cell (p := ⟨u2.heap.size, 0, none⟩) z7).trans c7
      replace z7 := Nat.lt_of_lt_of_le z7 hb.size
      replace c9 := (hb.cell (p := ⟨u3.heap.size, 0, none⟩) z9).trans c9
      replace z9 := Nat.lt_of_lt_of_le z9 hb.size
      replace HA := Lib.hid (HA.out.below hb)
      replace HBB := Lib.hid (HBB.out.below hb)
      replace HC := Lib.hid (HC.out.below hb)
      replace HJ := Lib.hid (HJ.out.below hb)
      replace HB := Lib.hid (below_step HB.out HB.out.size hb)
      clear hb
      go_wp2_with fail
      cases b0
      · skip
        have KD' : Hid (∀ W, IsIs W aj J → IsIs W ab B → Calls Try.prog 10 #[.slice aj J.length cj, .slice ab B.length cb] W fun e w' => e = .returned (.bool b1) ∧ Below W.heap.size W w') := KD
        clear KD
        refine wp_region_slotsH 36 [[(9, false)], [(74, true)], [(6, false)], [(5, false)], [(76, true), (77, true)], [(78, true)], [(75, true), (79, true)], [(80, true)], [(81, true)], [(10, false), (82, true)], [(83, true), (82, true)], [(84, true), (82, true)], [(10, false), (85, true)], [(86, true), (85, true)], [(85, true), (87, true), (82, true)], [(9, false), (82, true)], [(89, true), (82, true)], [(6, false), (82, true)], [(91, true), (82, true)], [(90, true), (92, true), (82, true)], [(88, true), (93, true), (82, true)], [(82, true), (94, true)], [(95, true)], [(10, false), (96, true)], [(97, true), (96, true)], [(11, false), (96, true)], [(99, true), (96, true)], [(98, true), (100, true), (96, true)], [(96, true), (101, true)], [(102, true)], [(10, false), (103, true)], [(104, true), (103, true)], [(11, false), (103, true)], [(106, true), (103, true)], [(105, true), (107, true), (103, true)], [(103, true), (108, true)]] (fun w' => Below u10.heap.size u10 w') (fun w w' => Below w.heap.size w w') (by kernel_rfl) (by kernel_rfl) (by rfl) (Below.refl _ _).drew (fun _ _ h hb => below_step h h.size hb) ?_
        apply slot_eq_h
        · intro ρ w' ⟨p1, p2, p3⟩ hS hn
          have d0 := (hS.cell (p := ⟨u1.heap.size, 0, none⟩) z5).trans c5; have d1 := (hS.cell (p := ⟨u1.heap.size + 1, 0, none⟩) z6).trans c6; have d2 := (hS.cell (p := ⟨u2.heap.size, 0, none⟩) z7).trans c7; have d3 := (hS.cell (p := ⟨u3.heap.size, 0, none⟩) z9).trans c9
          simp at hn
          go_simp
          exact ⟨Below.refl _ _, rfl⟩
        apply slot_eq_h
        · intro ρ w' ⟨p1, p2, p3⟩ hS hn
          have d0 := (hS.cell (p := ⟨u1.heap.size, 0, none⟩) z5).trans c5; have d1 := (hS.cell (p := ⟨u1.heap.size + 1, 0, none⟩) z6).trans c6; have d2 := (hS.cell (p := ⟨u2.heap.size, 0, none⟩) z7).trans c7; have d3 := (hS.cell (p := ⟨u3.heap.size, 0, none⟩) z9).trans c9
          simp at hn
          go_simp
          exact ⟨Below.refl _ _, rfl⟩
        apply slot_eq_h
        · intro ρ w' ⟨p1, p2, p3⟩ hS hn
          have d0 := (hS.cell (p := ⟨u1.heap.size, 0, none⟩) z5).trans c5; have d1 := (hS.cell (p := ⟨u1.heap.size + 1, 0, none⟩) z6).trans c6; have d2 := (hS.cell (p := ⟨u2.heap.size, 0, none⟩) z7).trans c7; have d3 := (hS.cell (p := ⟨u3.heap.size, 0, none⟩) z9).trans c9
          simp at hn
          go_simp
          exact ⟨Below.refl _ _, rfl⟩
        apply slot_eq_h
        · intro ρ w' ⟨p1, p2, p3⟩ hS hn
          have d0 := (hS.cell (p := ⟨u1.heap.size, 0, none⟩) z5).trans c5; have d1 := (hS.cell (p := ⟨u1.heap.size + 1, 0, none⟩) z6).trans c6; have d2 := (hS.cell (p := ⟨u2.heap.size, 0, none⟩) z7).trans c7; have d3 := (hS.cell (p := ⟨u3.heap.size, 0, none⟩) z9).trans c9
          simp at hn
          go_simp
          exact ⟨Below.refl _ _, rfl⟩
        refine slot_fact_h (AnsC (J)) (lasts_ansC _) ?_ ?_
        · intro ρ w' ⟨p1, p2, p3⟩ hS hn
          simp at hn
          go_simp
          exact got_call (KJ2.out _ (HA.out.below hS) (HBB.out.below hS)) fun e w'' ⟨g, cp, he, ho, hb⟩ => ⟨_, he, hb, g, cp, rfl, ho.isIs⟩
        refine slot_fact_h (FldC J) (lasts_fldC _) ?_ ?_
        · intro ρ w' ⟨p1, p2, p3⟩ hS hn
          simp at hn
          obtain ⟨g, cp, e1, h1⟩ := hn
          go_simp
          exact ⟨Below.refl _ _, g, cp, rfl, h1⟩
        apply slot_eq_h
        · intro ρ w' ⟨p1, p2, p3⟩ hS hn
          have d0 := (hS.cell (p := ⟨u1.heap.size, 0, none⟩) z5).trans c5; have d1 := (hS.cell (p := ⟨u1.heap.size + 1, 0, none⟩) z6).trans c6; have d2 := (hS.cell (p := ⟨u2.heap.size, 0, none⟩) z7).trans c7; have d3 := (hS.cell (p := ⟨u3.heap.size, 0, none⟩) z9).trans c9
          simp at hn
          obtain ⟨e0, g, cp, e1, h1⟩ := hn
          go_simp
          exact got_call (KE.out J _ _ _ _ _ hJ4 (HJ.out.below hS) h1) fun e w'' ⟨he, hb⟩ => ⟨_, he, hb, rfl⟩
        apply slot_eq_h
        · intro ρ w' ⟨p1, p2, p3⟩ hS hn
          have d0 := (hS.cell (p := ⟨u1.heap.size, 0, none⟩) z5).trans c5; have d1 := (hS.cell (p := ⟨u1.heap.size + 1, 0, none⟩) z6).trans c6; have d2 := (hS.cell (p := ⟨u2.heap.size, 0, none⟩) z7).trans c7; have d3 := (hS.cell (p := ⟨u3.heap.size, 0, none⟩) z9).trans c9
          simp at hn
          go_simp
          exact ⟨Below.refl _ _, rfl⟩
        apply slot_eq_h
        · intro ρ w' ⟨p1, p2, p3⟩ hS hn
          have d0 := (hS.cell (p := ⟨u1.heap.size, 0, none⟩) z5).trans c5; have d1 := (hS.cell (p := ⟨u1.heap.size + 1, 0, none⟩) z6).trans c6; have d2 := (hS.cell (p := ⟨u2.heap.size, 0, none⟩) z7).trans c7; have d3 := (hS.cell (p := ⟨u3.heap.size, 0, none⟩) z9).trans c9
          simp at hn
          go_simp
          exact ⟨Below.refl _ _, rfl⟩
        apply slot_eq_h
        · intro ρ w' ⟨p1, p2, p3⟩ hS hn
          have d0 := (hS.cell (p := ⟨u1.heap.size, 0, none⟩) z5).trans c5; have d1 := (hS.cell (p := ⟨u1.heap.size + 1, 0, none⟩) z6).trans c6; have d2 := (hS.cell (p := ⟨u2.heap.size, 0, none⟩) z7).trans c7; have d3 := (hS.cell (p := ⟨u3.heap.size, 0, none⟩) z9).trans c9
          simp at hn
          refine ⟨82, false, rfl, hn.2, ?_⟩
          rw [if_pos rfl]
          go_simp
          exact ⟨Below.refl _ _, rfl⟩
        apply slot_eq_h
        · intro ρ w' ⟨p1, p2, p3⟩ hS hn
          have d0 := (hS.cell (p := ⟨u1.heap.size, 0, none⟩) z5).trans c5; have d1 := (hS.cell (p := ⟨u1.heap.size + 1, 0, none⟩) z6).trans c6; have d2 := (hS.cell (p := ⟨u2.heap.size, 0, none⟩) z7).trans c7; have d3 := (hS.cell (p := ⟨u3.heap.size, 0, none⟩) z9).trans c9
          simp at hn
          refine ⟨82, false, rfl, hn.2, ?_⟩
          rw [if_pos rfl]
          go_simp
          exact ⟨Below.refl _ _, rfl⟩
        apply slot_eq_h
        · intro ρ w' ⟨p1, p2, p3⟩ hS hn
          have d0 := (hS.cell (p := ⟨u1.heap.size, 0, none⟩) z5).trans c5; have d1 := (hS.cell (p := ⟨u1.heap.size + 1, 0, none⟩) z6).trans c6; have d2 := (hS.cell (p := ⟨u2.heap.size, 0, none⟩) z7).trans c7; have d3 := (hS.cell (p := ⟨u3.heap.size, 0, none⟩) z9).trans c9
          simp at hn
          refine ⟨82, false, rfl, hn.2, ?_⟩
          rw [if_pos rfl]
          go_simp
          exact ⟨Below.refl _ _, rfl⟩
        apply slot_eq_h
        · intro ρ w' ⟨p1, p2, p3⟩ hS hn
          have d0 := (hS.cell (p := ⟨u1.heap.size, 0, none⟩) z5).trans c5; have d1 := (hS.cell (p := ⟨u1.heap.size + 1, 0, none⟩) z6).trans c6; have d2 := (hS.cell (p := ⟨u2.heap.size, 0, none⟩) z7).trans c7; have d3 := (hS.cell (p := ⟨u3.heap.size, 0, none⟩) z9).trans c9
          simp at hn
          refine ⟨85, false, rfl, hn.2, ?_⟩
          rw [if_pos rfl]
          go_simp
          exact ⟨Below.refl _ _, rfl⟩
        apply slot_eq_h
        · intro ρ w' ⟨p1, p2, p3⟩ hS hn
          have d0 := (hS.cell (p := ⟨u1.heap.size, 0, none⟩) z5).trans c5; have d1 := (hS.cell (p := ⟨u1.heap.size + 1, 0, none⟩) z6).trans c6; have d2 := (hS.cell (p := ⟨u2.heap.size, 0, none⟩) z7).trans c7; have d3 := (hS.cell (p := ⟨u3.heap.size, 0, none⟩) z9).trans c9
          simp at hn
          refine ⟨85, false, rfl, hn.2, ?_⟩
          rw [if_pos rfl]
          go_simp
          exact ⟨Below.refl _ _, rfl⟩
        apply slot_eq_h
        · intro ρ w' ⟨p1, p2, p3⟩ hS hn
          have d0 := (hS.cell (p := ⟨u1.heap.size, 0, none⟩) z5).trans c5; have d1 := (hS.cell (p := ⟨u1.heap.size + 1, 0, none⟩) z6).trans c6; have d2 := (hS.cell (p := ⟨u2.heap.size, 0, none⟩) z7).trans c7; have d3 := (hS.cell (p := ⟨u3.heap.size, 0, none⟩) z9).trans c9
          simp at hn
          refine ⟨82, false, rfl, hn.2.2, ?_⟩
          rw [if_pos rfl]
          go_simp
          exact ⟨Below.refl _ _, rfl⟩
        apply slot_eq_h
        · intro ρ w' ⟨p1, p2, p3⟩ hS hn
          have d0 := (hS.cell (p := ⟨u1.heap.size, 0, none⟩) z5).trans c5; have d1 := (hS.cell (p := ⟨u1.heap.size + 1, 0, none⟩) z6).trans c6; have d2 := (hS.cell (p := ⟨u2.heap.size, 0, none⟩) z7).trans c7; have d3 := (hS.cell (p := ⟨u3.heap.size, 0, none⟩) z9).trans c9
          simp at hn
          refine ⟨82, false, rfl, hn.2, ?_⟩
          rw [if_pos rfl]
          go_simp
          exact ⟨Below.refl _ _, rfl⟩
        apply slot_eq_h
        · intro ρ w' ⟨p1, p2, p3⟩ hS hn
          have d0 := (hS.cell (p := ⟨u1.heap.size, 0, none⟩) z5).trans c5; have d1 := (hS.cell (p := ⟨u1.heap.size + 1, 0, none⟩) z6).trans c6; have d2 := (hS.cell (p := ⟨u2.heap.size, 0, none⟩) z7).trans c7; have d3 := (hS.cell (p := ⟨u3.heap.size, 0, none⟩) z9).trans c9
          simp at hn
          refine ⟨82, false, rfl, hn.2, ?_⟩
          rw [if_pos rfl]
          go_simp
          exact ⟨Below.refl _ _, rfl⟩
        apply slot_eq_h
        · intro ρ w' ⟨p1, p2, p3⟩ hS hn
          have d0 := (hS.cell (p := ⟨u1.heap.size, 0, none⟩) z5).trans c5; have d1 := (hS.cell (p := ⟨u1.heap.size + 1, 0, none⟩) z6).trans c6; have d2 := (hS.cell (p := ⟨u2.heap.size, 0, none⟩) z7).trans c7; have d3 := (hS.cell (p := ⟨u3.heap.size, 0, none⟩) z9).trans c9
          simp at hn
          refine ⟨82, false, rfl, hn.2, ?_⟩
          rw [if_pos rfl]
          go_simp
          exact ⟨Below.refl _ _, rfl⟩
        apply slot_eq_h
        · intro ρ w' ⟨p1, p2, p3⟩ hS hn
          have d0 := (hS.cell (p := ⟨u1.heap.size, 0, none⟩) z5).trans c5; have d1 := (hS.cell (p := ⟨u1.heap.size + 1, 0, none⟩) z6).trans c6; have d2 := (hS.cell (p := ⟨u2.heap.size, 0, none⟩) z7).trans c7; have d3 := (hS.cell (p := ⟨u3.heap.size, 0, none⟩) z9).trans c9
          simp at hn
          refine ⟨82, false, rfl, hn.2, ?_⟩
          rw [if_pos rfl]
          go_simp
          exact ⟨Below.refl _ _, rfl⟩
        apply slot_eq_h
        · intro ρ w' ⟨p1, p2, p3⟩ hS hn
          have d0 := (hS.cell (p := ⟨u1.heap.size, 0, none⟩) z5).trans c5; have d1 := (hS.cell (p := ⟨u1.heap.size + 1, 0, none⟩) z6).trans c6; have d2 := (hS.cell (p := ⟨u2.heap.size, 0, none⟩) z7).trans c7; have d3 := (hS.cell (p := ⟨u3.heap.size, 0, none⟩) z9).trans c9
          simp at hn
          refine ⟨82, false, rfl, hn.2.2, ?_⟩
          rw [if_pos rfl]
          go_simp
          exact got_call (KD'.out _ (HJ.out.below hS) (HBB.out.below hS)) fun e w'' ⟨he, hb⟩ => ⟨_, he, hb, rfl⟩
        apply slot_eq_h
        · intro ρ w' ⟨p1, p2, p3⟩ hS hn
          have d0 := (hS.cell (p := ⟨u1.heap.size, 0, none⟩) z5).trans c5; have d1 := (hS.cell (p := ⟨u1.heap.size + 1, 0, none⟩) z6).trans c6; have d2 := (hS.cell (p := ⟨u2.heap.size, 0, none⟩) z7).trans c7; have d3 := (hS.cell (p := ⟨u3.heap.size, 0, none⟩) z9).trans c9
          simp at hn
          refine ⟨82, false, rfl, hn.2.2, ?_⟩
          rw [if_pos rfl]
          go_simp
          exact ⟨Below.refl _ _, rfl⟩
        apply slot_eq_h
        · intro ρ w' ⟨p1, p2, p3⟩ hS hn
          have d0 := (hS.cell (p := ⟨u1.heap.size, 0, none⟩) z5).trans c5; have d1 := (hS.cell (p := ⟨u1.heap.size + 1, 0, none⟩) z6).trans c6; have d2 := (hS.cell (p := ⟨u2.heap.size, 0, none⟩) z7).trans c7; have d3 := (hS.cell (p := ⟨u3.heap.size, 0, none⟩) z9).trans c9
          simp at hn
          go_simp
          exact ⟨Below.refl _ _, rfl⟩
        apply slot_eq_h
        · intro ρ w' ⟨p1, p2, p3⟩ hS hn
          have d0 := (hS.cell (p := ⟨u1.heap.size, 0, none⟩) z5).trans c5; have d1 := (hS.cell (p := ⟨u1.heap.size + 1, 0, none⟩) z6).trans c6; have d2 := (hS.cell (p := ⟨u2.heap.size, 0, none⟩) z7).trans c7; have d3 := (hS.cell (p := ⟨u3.heap.size, 0, none⟩) z9).trans c9
          simp at hn
          go_simp
          exact ⟨Below.refl _ _, rfl⟩
        apply slot_eq_h
        · intro ρ w' ⟨p1, p2, p3⟩ hS hn
          have d0 := (hS.cell (p := ⟨u1.heap.size, 0, none⟩) z5).trans c5; have d1 := (hS.cell (p := ⟨u1.heap.size + 1, 0, none⟩) z6).trans c6; have d2 := (hS.cell (p := ⟨u2.heap.size, 0, none⟩) z7).trans c7; have d3 := (hS.cell (p := ⟨u3.heap.size, 0, none⟩) z9).trans c9
          simp at hn
          refine ⟨96, false, rfl, hn.2, ?_⟩
          rw [if_pos rfl]
          go_simp
          exact ⟨Below.refl _ _, rfl⟩
        apply slot_eq_h
        · intro ρ w' ⟨p1, p2, p3⟩ hS hn
          have d0 := (hS.cell (p := ⟨u1.heap.size, 0, none⟩) z5).trans c5; have d1 := (hS.cell (p := ⟨u1.heap.size + 1, 0, none⟩) z6).trans c6; have d2 := (hS.cell (p := ⟨u2.heap.size, 0, none⟩) z7).trans c7; have d3 := (hS.cell (p := ⟨u3.heap.size, 0, none⟩) z9).trans c9
          simp at hn
          refine ⟨96, false, rfl, hn.2, ?_⟩
          rw [if_pos rfl]
          go_simp
          exact ⟨Below.refl _ _, rfl⟩
        apply slot_eq_h
        · intro ρ w' ⟨p1, p2, p3⟩ hS hn
          have d0 := (hS.cell (p := ⟨u1.heap.size, 0, none⟩) z5).trans c5; have d1 := (hS.cell (p := ⟨u1.heap.size + 1, 0, none⟩) z6).trans c6; have d2 := (hS.cell (p := ⟨u2.heap.size, 0, none⟩) z7).trans c7; have d3 := (hS.cell (p := ⟨u3.heap.size, 0, none⟩) z9).trans c9
          simp at hn
          refine ⟨96, false, rfl, hn.2, ?_⟩
          rw [if_pos rfl]
          go_simp
          exact ⟨Below.refl _ _, rfl⟩
        apply slot_eq_h
        · intro ρ w' ⟨p1, p2, p3⟩ hS hn
          have d0 := (hS.cell (p := ⟨u1.heap.size, 0, none⟩) z5).trans c5; have d1 := (hS.cell (p := ⟨u1.heap.size + 1, 0, none⟩) z6).trans c6; have d2 := (hS.cell (p := ⟨u2.heap.size, 0, none⟩) z7).trans c7; have d3 := (hS.cell (p := ⟨u3.heap.size, 0, none⟩) z9).trans c9
          simp at hn
          refine ⟨96, false, rfl, hn.2, ?_⟩
          rw [if_pos rfl]
          go_simp
          exact ⟨Below.refl _ _, rfl⟩
        apply slot_eq_h
        · intro ρ w' ⟨p1, p2, p3⟩ hS hn
          have d0 := (hS.cell (p := ⟨u1.heap.size, 0, none⟩) z5).trans c5; have d1 := (hS.cell (p := ⟨u1.heap.size + 1, 0, none⟩) z6).trans c6; have d2 := (hS.cell (p := ⟨u2.heap.size, 0, none⟩) z7).trans c7; have d3 := (hS.cell (p := ⟨u3.heap.size, 0, none⟩) z9).trans c9
          simp at hn
          refine ⟨96, false, rfl, hn.2.2, ?_⟩
          rw [if_pos rfl]
          go_simp
          exact ⟨Below.refl _ _, rfl⟩
        apply slot_eq_h
        · intro ρ w' ⟨p1, p2, p3⟩ hS hn
          have d0 := (hS.cell (p := ⟨u1.heap.size, 0, none⟩) z5).trans c5; have d1 := (hS.cell (p := ⟨u1.heap.size + 1, 0, none⟩) z6).trans c6; have d2 := (hS.cell (p := ⟨u2.heap.size, 0, none⟩) z7).trans c7; have d3 := (hS.cell (p := ⟨u3.heap.size, 0, none⟩) z9).trans c9
          simp at hn
          go_simp
          exact ⟨Below.refl _ _, rfl⟩
        apply slot_eq_h
        · intro ρ w' ⟨p1, p2, p3⟩ hS hn
          have d0 := (hS.cell (p := ⟨u1.heap.size, 0, none⟩) z5).trans c5; have d1 := (hS.cell (p := ⟨u1.heap.size + 1, 0, none⟩) z6).trans c6; have d2 := (hS.cell (p := ⟨u2.heap.size, 0, none⟩) z7).trans c7; have d3 := (hS.cell (p := ⟨u3.heap.size, 0, none⟩) z9).trans c9
          simp at hn
          go_simp
          exact ⟨Below.refl _ _, rfl⟩
        apply slot_eq_h
        · intro ρ w' ⟨p1, p2, p3⟩ hS hn
          have d0 := (hS.cell (p := ⟨u1.heap.size, 0, none⟩) z5).trans c5; have d1 := (hS.cell (p := ⟨u1.heap.size + 1, 0, none⟩) z6).trans c6; have d2 := (hS.cell (p := ⟨u2.heap.size, 0, none⟩) z7).trans c7; have d3 := (hS.cell (p := ⟨u3.heap.size, 0, none⟩) z9).trans c9
          simp at hn
          refine ⟨103, false, rfl, hn.2, ?_⟩
          rw [if_pos rfl]
          go_simp
          exact ⟨Below.refl _ _, rfl⟩
        apply slot_eq_h
        · intro ρ w' ⟨p1, p2, p3⟩ hS hn
          have d0 := (hS.cell (p := ⟨u1.heap.size, 0, none⟩) z5).trans c5; have d1 := (hS.cell (p := ⟨u1.heap.size + 1, 0, none⟩) z6).trans c6; have d2 := (hS.cell (p := ⟨u2.heap.size, 0, none⟩) z7).trans c7; have d3 := (hS.cell (p := ⟨u3.heap.size, 0, none⟩) z9).trans c9
          simp at hn
          refine ⟨103, false, rfl, hn.2, ?_⟩
          rw [if_pos rfl]
          go_simp
          exact ⟨Below.refl _ _, rfl⟩
        apply slot_eq_h
        · intro ρ w' ⟨p1, p2, p3⟩ hS hn
          have d0 := (hS.cell (p := ⟨u1.heap.size, 0, none⟩) z5).trans c5; have d1 := (hS.cell (p := ⟨u1.heap.size + 1, 0, none⟩) z6).trans c6; have d2 := (hS.cell (p := ⟨u2.heap.size, 0, none⟩) z7).trans c7; have d3 := (hS.cell (p := ⟨u3.heap.size, 0, none⟩) z9).trans c9
          simp at hn
          refine ⟨103, false, rfl, hn.2, ?_⟩
          rw [if_pos rfl]
          go_simp
          exact ⟨Below.refl _ _, rfl⟩
        apply slot_eq_h
        · intro ρ w' ⟨p1, p2, p3⟩ hS hn
          have d0 := (hS.cell (p := ⟨u1.heap.size, 0, none⟩) z5).trans c5; have d1 := (hS.cell (p := ⟨u1.heap.size + 1, 0, none⟩) z6).trans c6; have d2 := (hS.cell (p := ⟨u2.heap.size, 0, none⟩) z7).trans c7; have d3 := (hS.cell (p := ⟨u3.heap.size, 0, none⟩) z9).trans c9
          simp at hn
          refine ⟨103, false, rfl, hn.2, ?_⟩
          rw [if_pos rfl]
          go_simp
          exact ⟨Below.refl _ _, rfl⟩
        apply slot_eq_h
        · intro ρ w' ⟨p1, p2, p3⟩ hS hn
          have d0 := (hS.cell (p := ⟨u1.heap.size, 0, none⟩) z5).trans c5; have d1 := (hS.cell (p := ⟨u1.heap.size + 1, 0, none⟩) z6).trans c6; have d2 := (hS.cell (p := ⟨u2.heap.size, 0, none⟩) z7).trans c7; have d3 := (hS.cell (p := ⟨u3.heap.size, 0, none⟩) z9).trans c9
          simp at hn
          refine ⟨103, false, rfl, hn.2.2, ?_⟩
          rw [if_pos rfl]
          go_simp
          exact ⟨Below.refl _ _, rfl⟩
        apply slot_eq_h
        · intro ρ w' ⟨p1, p2, p3⟩ hS hn
          have d0 := (hS.cell (p := ⟨u1.heap.size, 0, none⟩) z5).trans c5; have d1 := (hS.cell (p := ⟨u1.heap.size + 1, 0, none⟩) z6).trans c6; have d2 := (hS.cell (p := ⟨u2.heap.size, 0, none⟩) z7).trans c7; have d3 := (hS.cell (p := ⟨u3.heap.size, 0, none⟩) z9).trans c9
          simp at hn
          go_simp
          exact ⟨Below.refl _ _, rfl⟩
        refine slot_end_h ?_
        rintro vs u11 hS hF
        simp at hF
        obtain ⟨f109, f108, f107, f106, f105, f104, f103, f102, f101, f100, f99, f98, f97, f96, f95, f94, f93, f92, f91, f90, f89, f88, f87, f86, f85, f84, f83, f82, f81, f80, ⟨g79, q79, f79, -⟩, ⟨g78, q78, f78, -⟩, f77, f76, f75, f74⟩ := hF
        simp only [List.take_succ_cons, List.take_zero, List.drop_succ_cons, List.drop_zero, putAll, f109, f108, f107, f106, f105, f104, f103, f102, f101, f100, f99, f98, f97, f96, f95, f94, f93, f92, f91, f90, f89, f88, f87, f86, f85, f84, f83, f82, f81, f80, f79, f78, f77, f76, f75, f74]
        clear f109 f108 f107 f106 f105 f104 f103 f102 f101 f100 f99 f98 f97 f96 f95 f94 f93 f92 f91 f90 f89 f88 f87 f86 f85 f84 f83 f82 f81 f80 f79 f78 f77 f76 f75 f74
        simp only [Act.put, List.setIfInBounds_toArray, List.set_cons_succ, List.set_cons_zero]
        replace c5 := (hS.cell (p := ⟨u1.heap.size, 0, none⟩) z5).trans c5
        replace z5 := Nat.lt_of_lt_of_le z5 hS.size
        replace c6 := (hS.cell (p := ⟨u1.heap.size + 1, 0, none⟩) z6).trans c6
        replace z6 := Nat.lt_of_lt_of_le z6 hS.size
        replace c7 := (hS.cell (p := ⟨u2.heap.size, 0, none⟩) z7).trans c7
        replace z7 := Nat.lt_of_lt_of_le z7 hS.size
        replace c9 := (hS.cell (p := ⟨u3.heap.size, 0, none⟩) z9).trans c9
        replace z9 := Nat.lt_of_lt_of_le z9 hS.size
        replace HA := Lib.hid (HA.out.below hS)
        replace HBB := Lib.hid (HBB.out.below hS)
        replace HC := Lib.hid (HC.out.below hS)
        replace HJ := Lib.hid (HJ.out.below hS)
        replace HB := Lib.hid (below_step HB.out HB.out.size hS)
        clear hS
        clear KD' KJ2 hb0 hb1 hb2 hy1 hy2 KOA KOB
        obtain ⟨K, hK⟩ : ∃ K, K = tickV C si := ⟨_, rfl⟩
        obtain ⟨oK, hoK⟩ : ∃ o, o = tickOk C si := ⟨_, rfl⟩
        have hK4 : K.length ≤ 4 := by rw [hK]; exact tickV_few _ _
        have PK := Lib.hid hK
        have POK := Lib.hid hoK
        clear hK hoK
        have KT : Hid (∀ W, IsIs W ac C → Calls Try.prog 14 #[vecV ac C.length cc, .int .i64 si] W fun e w' => ∃ g cp, e = .returned (.tuple #[vecV g K.length cp, .bool oK]) ∧ OwnI w' W.heap.size w'.heap.size g K ∧ Below W.heap.size W w') := fun W h1 => by
          rw [PK.out, POK.out]
          exact implVecTick_any _ _ _ C si W rfl hmC h1
        go_wp2_with fail
        refine (KT.out _ HC.out).mono ?_
        rintro e u12 ⟨ak, ck, rfl, ho, hb⟩
        replace c5 := (hb.cell (p := ⟨u1.heap.size, 0, none⟩) z5).trans c5
        replace z5 := Nat.lt_of_lt_of_le z5 hb.size
        replace c6 := (hb.cell (p := ⟨u1.heap.size + 1, 0, none⟩) z6).trans c6
        replace z6 := Nat.lt_of_lt_of_le z6 hb.size
        replace c7 := (hb.cell (p := ⟨u2.heap.size, 0, none⟩) z7).trans c7
        replace z7 := Nat.lt_of_lt_of_le z7 hb.size
        replace c9 := (hb.cell (p := ⟨u3.heap.size, 0, none⟩) z9).trans c9
        replace z9 := Nat.lt_of_lt_of_le z9 hb.size
        replace HA := Lib.hid (HA.out.below hb)
        replace HBB := Lib.hid (HBB.out.below hb)
        replace HC := Lib.hid (HC.out.below hb)
        replace HJ := Lib.hid (HJ.out.below hb)
        replace HB := Lib.hid (below_step HB.out HB.out.size hb)
        have HK := Lib.hid ho.isIs
        clear ho KT
        clear hb
        go_wp2_with fail
        have hA : Below u12.heap.size u12 (u12.alloc (.cells #[.slice ak K.length ck] 26)) := (Below.refl _ _).alloc (Nat.le_refl _) _
        replace c5 := (hA.cell (p := ⟨u1.heap.size, 0, none⟩) z5).trans c5
        replace z5 := Nat.lt_of_lt_of_le z5 hA.size
        replace c6 := (hA.cell (p := ⟨u1.heap.size + 1, 0, none⟩) z6).trans c6
        replace z6 := Nat.lt_of_lt_of_le z6 hA.size
        replace c7 := (hA.cell (p := ⟨u2.heap.size, 0, none⟩) z7).trans c7
        replace z7 := Nat.lt_of_lt_of_le z7 hA.size
        replace c9 := (hA.cell (p := ⟨u3.heap.size, 0, none⟩) z9).trans c9
        replace z9 := Nat.lt_of_lt_of_le z9 hA.size
        replace HA := Lib.hid (HA.out.below hA)
        replace HBB := Lib.hid (HBB.out.below hA)
        replace HC := Lib.hid (HC.out.below hA)
        replace HJ := Lib.hid (HJ.out.below hA)
        replace HK := Lib.hid (HK.out.below hA)
        replace HB := Lib.hid (below_step HB.out HB.out.size hA)
        clear hA
        have c12 : (u12.alloc (.cells #[.slice ak K.length ck] 26)).cell? ⟨u12.heap.size, 0, none⟩ = some (.slice ak K.length ck) := by go_simp
        have z12 : u12.heap.size < (u12.alloc (.cells #[.slice ak K.length ck] 26)).heap.size := by simp
        generalize (u12.alloc (.cells #[.slice ak K.length ck] 26)) = V4 at *
        cases oK
        · skip
          have g0 := aft_cell z5 c5
          have g1 := aft_cell z6 c6
          have g2 := aft_cell z7 c7
          have g3 := aft_cell z9 c9
          have g4 := aft_cell z12 c12
          have ne := aft_some V4
          refine wp_region_aft (by kernel_rfl) (by kernel_rfl) ?_
          repeat (first | go_big_quiet_step (fail))
          refine wpQuiet_nil ?_
          intro u13 hq
          clear ne g0 g1 g2 g3 g4
          replace c5 := (hq.cell (p := ⟨u1.heap.size, 0, none⟩) z5).trans c5
          replace z5 := Nat.lt_of_lt_of_le z5 hq.size
          replace c6 := (hq.cell (p := ⟨u1.heap.size + 1, 0, none⟩) z6).trans c6
          replace z6 := Nat.lt_of_lt_of_le z6 hq.size
          replace c7 := (hq.cell (p := ⟨u2.heap.size, 0, none⟩) z7).trans c7
          replace z7 := Nat.lt_of_lt_of_le z7 hq.size
          replace c9 := (hq.cell (p := ⟨u3.heap.size, 0, none⟩) z9).trans c9
          replace z9 := Nat.lt_of_lt_of_le z9 hq.size
          replace c12 := (hq.cell (p := ⟨u12.heap.size, 0, none⟩) z12).trans c12
          replace z12 := Nat.lt_of_lt_of_le z12 hq.size
          replace HA := Lib.hid (HA.out.below hq)
          replace HBB := Lib.hid (HBB.out.below hq)
          replace HC := Lib.hid (HC.out.below hq)
          replace HJ := Lib.hid (HJ.out.below hq)
          replace HK := Lib.hid (HK.out.below hq)
          replace HB := Lib.hid (below_step HB.out HB.out.size hq)
          clear hq
          go_wp2_with fail
          cases oC
          · skip
            refine wp_region_slotsH 16 [[(7, false)], [(137, true)], [(138, true)], [(139, true)], [(140, true)], [(140, true)], [(140, true)], [(140, true)], [(140, true)], [(140, true)], [(140, true)], [(140, true)], [(140, true)], [(140, true)], [(140, true)], [(140, true), (151, true)]] (fun w' => Below u13.heap.size u13 w') (fun w w' => Below w.heap.size w w') (by kernel_rfl) (by kernel_rfl) (by rfl) (Below.refl _ _).drew (fun _ _ h hb => below_step h h.size hb) ?_
            apply slot_eq_h
            · intro ρ w' ⟨p1, p2, p3⟩ hS hn
              have d0 := (hS.cell (p := ⟨u1.heap.size, 0, none⟩) z5).trans c5; have d1 := (hS.cell (p := ⟨u1.heap.size + 1, 0, none⟩) z6).trans c6; have d2 := (hS.cell (p := ⟨u2.heap.size, 0, none⟩) z7).trans c7; have d3 := (hS.cell (p := ⟨u3.heap.size, 0, none⟩) z9).trans c9; have d4 := (hS.cell (p := ⟨u12.heap.size, 0, none⟩) z12).trans c12
              simp at hn
              go_simp
              exact ⟨Below.refl _ _, rfl⟩
            apply slot_eq_h
            · intro ρ w' ⟨p1, p2, p3⟩ hS hn
              have d0 := (hS.cell (p := ⟨u1.heap.size, 0, none⟩) z5).trans c5; have d1 := (hS.cell (p := ⟨u1.heap.size + 1, 0, none⟩) z6).trans c6; have d2 := (hS.cell (p := ⟨u2.heap.size, 0, none⟩) z7).trans c7; have d3 := (hS.cell (p := ⟨u3.heap.size, 0, none⟩) z9).trans c9; have d4 := (hS.cell (p := ⟨u12.heap.size, 0, none⟩) z12).trans c12
              simp at hn
              go_simp
              exact got_call (KOC.out _ (HC.out.below hS)) fun e w'' ⟨he, hb⟩ => ⟨_, he, hb, rfl⟩
            apply slot_eq_h
            · intro ρ w' ⟨p1, p2, p3⟩ hS hn
              have d0 := (hS.cell (p := ⟨u1.heap.size, 0, none⟩) z5).trans c5; have d1 := (hS.cell (p := ⟨u1.heap.size + 1, 0, none⟩) z6).trans c6; have d2 := (hS.cell (p := ⟨u2.heap.size, 0, none⟩) z7).trans c7; have d3 := (hS.cell (p := ⟨u3.heap.size, 0, none⟩) z9).trans c9; have d4 := (hS.cell (p := ⟨u12.heap.size, 0, none⟩) z12).trans c12
              simp at hn
              go_simp
              exact ⟨Below.refl _ _, rfl⟩
            apply slot_eq_h
            · intro ρ w' ⟨p1, p2, p3⟩ hS hn
              have d0 := (hS.cell (p := ⟨u1.heap.size, 0, none⟩) z5).trans c5; have d1 := (hS.cell (p := ⟨u1.heap.size + 1, 0, none⟩) z6).trans c6; have d2 := (hS.cell (p := ⟨u2.heap.size, 0, none⟩) z7).trans c7; have d3 := (hS.cell (p := ⟨u3.heap.size, 0, none⟩) z9).trans c9; have d4 := (hS.cell (p := ⟨u12.heap.size, 0, none⟩) z12).trans c12
              simp at hn
              go_simp
              exact ⟨Below.refl _ _, rfl⟩
            apply slot_eq_h
            · intro ρ w' ⟨p1, p2, p3⟩ hS hn
              simp at hn
              exact ⟨140, true, rfl, hn, by rw [if_neg (by simp)]; exact ⟨Below.refl _ _, rfl⟩⟩
            apply slot_eq_h
            · intro ρ w' ⟨p1, p2, p3⟩ hS hn
              simp at hn
              exact ⟨140, true, rfl, hn, by rw [if_neg (by simp)]; exact ⟨Below.refl _ _, rfl⟩⟩
            apply slot_eq_h
            · intro ρ w' ⟨p1, p2, p3⟩ hS hn
              simp at hn
              exact ⟨140, true, rfl, hn, by rw [if_neg (by simp)]; exact ⟨Below.refl _ _, rfl⟩⟩
            apply slot_eq_h
            · intro ρ w' ⟨p1, p2, p3⟩ hS hn
              simp at hn
              exact ⟨140, true, rfl, hn, by rw [if_neg (by simp)]; exact ⟨Below.refl _ _, rfl⟩⟩
            apply slot_eq_h
            · intro ρ w' ⟨p1, p2, p3⟩ hS hn
              simp at hn
              exact ⟨140, true, rfl, hn, by rw [if_neg (by simp)]; exact ⟨Below.refl _ _, rfl⟩⟩
            apply slot_eq_h
            · intro ρ w' ⟨p1, p2, p3⟩ hS hn
              simp at hn
              exact ⟨140, true, rfl, hn, by rw [if_neg (by simp)]; exact ⟨Below.refl _ _, rfl⟩⟩
            apply slot_eq_h
            · intro ρ w' ⟨p1, p2, p3⟩ hS hn
              simp at hn
              exact ⟨140, true, rfl, hn, by rw [if_neg (by simp)]; exact ⟨Below.refl _ _, rfl⟩⟩
            apply slot_eq_h
            · intro ρ w' ⟨p1, p2, p3⟩ hS hn
              simp at hn
              exact ⟨140, true, rfl, hn, by rw [if_neg (by simp)]; exact ⟨Below.refl _ _, rfl⟩⟩
            apply slot_eq_h
            · intro ρ w' ⟨p1, p2, p3⟩ hS hn
              simp at hn
              exact ⟨140, true, rfl, hn, by rw [if_neg (by simp)]; exact ⟨Below.refl _ _, rfl⟩⟩
            apply slot_eq_h
            · intro ρ w' ⟨p1, p2, p3⟩ hS hn
              simp at hn
              exact ⟨140, true, rfl, hn, by rw [if_neg (by simp)]; exact ⟨Below.refl _ _, rfl⟩⟩
            apply slot_eq_h
            · intro ρ w' ⟨p1, p2, p3⟩ hS hn
              simp at hn
              exact ⟨140, true, rfl, hn, by rw [if_neg (by simp)]; exact ⟨Below.refl _ _, rfl⟩⟩
            apply slot_eq_h
            · intro ρ w' ⟨p1, p2, p3⟩ hS hn
              have d0 := (hS.cell (p := ⟨u1.heap.size, 0, none⟩) z5).trans c5; have d1 := (hS.cell (p := ⟨u1.heap.size + 1, 0, none⟩) z6).trans c6; have d2 := (hS.cell (p := ⟨u2.heap.size, 0, none⟩) z7).trans c7; have d3 := (hS.cell (p := ⟨u3.heap.size, 0, none⟩) z9).trans c9; have d4 := (hS.cell (p := ⟨u12.heap.size, 0, none⟩) z12).trans c12
              simp at hn
              go_simp
              exact ⟨Below.refl _ _, rfl⟩
            refine slot_end_h ?_
            rintro vs u14 hS hF
            simp at hF
            obtain ⟨f152, f151, f150, f149, f148, f147, f146, f145, f144, f143, f142, f141, f140, f139, f138, f137⟩ := hF
            simp only [List.take_succ_cons, List.take_zero, List.drop_succ_cons, List.drop_zero, putAll, f152, f151, f150, f149, f148, f147, f146, f145, f144, f143, f142, f141, f140, f139, f138, f137]
            clear f152 f151 f150 f149 f148 f147 f146 f145 f144 f143 f142 f141 f140 f139 f138 f137
            simp only [Act.put, List.setIfInBounds_toArray, List.set_cons_succ, List.set_cons_zero]
            replace c5 := (hS.cell (p := ⟨u1.heap.size, 0, none⟩) z5).trans c5
            replace z5 := Nat.lt_of_lt_of_le z5 hS.size
            replace c6 := (hS.cell (p := ⟨u1.heap.size + 1, 0, none⟩) z6).trans c6
            replace z6 := Nat.lt_of_lt_of_le z6 hS.size
            replace c7 := (hS.cell (p := ⟨u2.heap.size, 0, none⟩) z7).trans c7
            replace z7 := Nat.lt_of_lt_of_le z7 hS.size
            replace c9 := (hS.cell (p := ⟨u3.heap.size, 0, none⟩) z9).trans c9
            replace z9 := Nat.lt_of_lt_of_le z9 hS.size
            replace c12 := (hS.cell (p := ⟨u12.heap.size, 0, none⟩) z12).trans c12
            replace z12 := Nat.lt_of_lt_of_le z12 hS.size
            replace HA := Lib.hid (HA.out.below hS)
            replace HBB := Lib.hid (HBB.out.below hS)
            replace HC := Lib.hid (HC.out.below hS)
            replace HJ := Lib.hid (HJ.out.below hS)
            replace HK := Lib.hid (HK.out.below hS)
            replace HB := Lib.hid (below_step HB.out HB.out.size hS)
            clear hS
            go_wp2
            go_ret
            exact ⟨rfl, HB.out⟩
          · skip
            obtain ⟨M, hM⟩ : ∃ M, M = joinV J C := ⟨_, rfl⟩
            obtain ⟨G, hG⟩ : ∃ G, G = joinV B C := ⟨_, rfl⟩
            have hM4 : M.length ≤ 4 := by rw [hM]; exact joinV_few _ _
            have hG4 : G.length ≤ 4 := by rw [hG]; exact joinV_few _ _
            have hAG : M = joinV A G := by
              rw [hM, hG, PJ.out]
              exact joinV_assoc HVA.out HVB.out POC.out.symm
            have K1 : Hid (∀ W a1 c1 a2 c2, IsIs W a1 J → IsIs W a2 C → Calls Try.prog 8 #[vecV a1 J.length c1, vecV a2 C.length c2] W fun e w' => ∃ g cp, e = .returned (vecV g M.length cp) ∧ OwnI w' W.heap.size w'.heap.size g M ∧ Below W.heap.size W w') := fun W a1 c1 a2 c2 h1 h2 => by
              rw [hM]
              exact implVecJoin_any _ _ _ _ _ _ J C W rfl (by unfold maxLen; omega) h1 rfl hmC h2
            have K2 : Hid (∀ W a1 c1 a2 c2, IsIs W a1 B → IsIs W a2 C → Calls Try.prog 8 #[vecV a1 B.length c1, vecV a2 C.length c2] W fun e w' => ∃ g cp, e = .returned (vecV g G.length cp) ∧ OwnI w' W.heap.size w'.heap.size g G ∧ Below W.heap.size W w') := fun W a1 c1 a2 c2 h1 h2 => by
              rw [hG]
              exact implVecJoin_any _ _ _ _ _ _ B C W rfl hmB h1 rfl hmC h2
            have K3 : Hid (∀ W a1 c1 a2 c2, IsIs W a1 A → IsIs W a2 G → Calls Try.prog 8 #[vecV a1 A.length c1, vecV a2 G.length c2] W fun e w' => ∃ g cp, e = .returned (vecV g M.length cp) ∧ OwnI w' W.heap.size w'.heap.size g M ∧ Below W.heap.size W w') := fun W a1 c1 a2 c2 h1 h2 => by
              rw [hAG]
              exact implVecJoin_any _ _ _ _ _ _ A G W rfl hmA h1 rfl (by unfold maxLen; omega) h2
            clear hM hG hAG
            refine wp_region_slotsH 16 [[(7, false)], [(137, true)], [(138, true)], [(139, true)], [(9, false), (140, true)], [(7, false), (140, true)], [(141, true), (142, true), (140, true)], [(143, true), (140, true)], [(5, false), (140, true)], [(6, false), (140, true)], [(7, false), (140, true)], [(146, true), (147, true), (140, true)], [(145, true), (148, true), (140, true)], [(149, true), (140, true)], [(144, true), (150, true), (140, true)], [(140, true), (151, true)]] (fun w' => Below u13.heap.size u13 w') (fun w w' => Below w.heap.size w w') (by kernel_rfl) (by kernel_rfl) (by rfl) (Below.refl _ _).drew (fun _ _ h hb => below_step h h.size hb) ?_
            apply slot_eq_h
            · intro ρ w' ⟨p1, p2, p3⟩ hS hn
              have d0 := (hS.cell (p := ⟨u1.heap.size, 0, none⟩) z5).trans c5; have d1 := (hS.cell (p := ⟨u1.heap.size + 1, 0, none⟩) z6).trans c6; have d2 := (hS.cell (p := ⟨u2.heap.size, 0, none⟩) z7).trans c7; have d3 := (hS.cell (p := ⟨u3.heap.size, 0, none⟩) z9).trans c9; have d4 := (hS.cell (p := ⟨u12.heap.size, 0, none⟩) z12).trans c12
              simp at hn
              go_simp
              exact ⟨Below.refl _ _, rfl⟩
            apply slot_eq_h
            · intro ρ w' ⟨p1, p2, p3⟩ hS hn
              have d0 := (hS.cell (p := ⟨u1.heap.size, 0, none⟩) z5).trans c5; have d1 := (hS.cell (p := ⟨u1.heap.size + 1, 0, none⟩) z6).trans c6; have d2 := (hS.cell (p := ⟨u2.heap.size, 0, none⟩) z7).trans c7; have d3 := (hS.cell (p := ⟨u3.heap.size, 0, none⟩) z9).trans c9; have d4 := (hS.cell (p := ⟨u12.heap.size, 0, none⟩) z12).trans c12
              simp at hn
              go_simp
              exact got_call (KOC.out _ (HC.out.below hS)) fun e w'' ⟨he, hb⟩ => ⟨_, he, hb, rfl⟩
            apply slot_eq_h
            · intro ρ w' ⟨p1, p2, p3⟩ hS hn
              have d0 := (hS.cell (p := ⟨u1.heap.size, 0, none⟩) z5).trans c5; have d1 := (hS.cell (p := ⟨u1.heap.size + 1, 0, none⟩) z6).trans c6; have d2 := (hS.cell (p := ⟨u2.heap.size, 0, none⟩) z7).trans c7; have d3 := (hS.cell (p := ⟨u3.heap.size, 0, none⟩) z9).trans c9; have d4 := (hS.cell (p := ⟨u12.heap.size, 0, none⟩) z12).trans c12
              simp at hn
              go_simp
              exact ⟨Below.refl _ _, rfl⟩
            apply slot_eq_h
            · intro ρ w' ⟨p1, p2, p3⟩ hS hn
              have d0 := (hS.cell (p := ⟨u1.heap.size, 0, none⟩) z5).trans c5; have d1 := (hS.cell (p := ⟨u1.heap.size + 1, 0, none⟩) z6).trans c6; have d2 := (hS.cell (p := ⟨u2.heap.size, 0, none⟩) z7).trans c7; have d3 := (hS.cell (p := ⟨u3.heap.size, 0, none⟩) z9).trans c9; have d4 := (hS.cell (p := ⟨u12.heap.size, 0, none⟩) z12).trans c12
              simp at hn
              go_simp
              exact ⟨Below.refl _ _, rfl⟩
            apply slot_eq_h
            · intro ρ w' ⟨p1, p2, p3⟩ hS hn
              have d0 := (hS.cell (p := ⟨u1.heap.size, 0, none⟩) z5).trans c5; have d1 := (hS.cell (p := ⟨u1.heap.size + 1, 0, none⟩) z6).trans c6; have d2 := (hS.cell (p := ⟨u2.heap.size, 0, none⟩) z7).trans c7; have d3 := (hS.cell (p := ⟨u3.heap.size, 0, none⟩) z9).trans c9; have d4 := (hS.cell (p := ⟨u12.heap.size, 0, none⟩) z12).trans c12
              simp at hn
              refine ⟨140, false, rfl, hn.2, ?_⟩
              rw [if_pos rfl]
              go_simp
              exact ⟨Below.refl _ _, rfl⟩
            apply slot_eq_h
            · intro ρ w' ⟨p1, p2, p3⟩ hS hn
              have d0 := (hS.cell (p := ⟨u1.heap.size, 0, none⟩) z5).trans c5; have d1 := (hS.cell (p := ⟨u1.heap.size + 1, 0, none⟩) z6).trans c6; have d2 := (hS.cell (p := ⟨u2.heap.size, 0, none⟩) z7).trans c7; have d3 := (hS.cell (p := ⟨u3.heap.size, 0, none⟩) z9).trans c9; have d4 := (hS.cell (p := ⟨u12.heap.size, 0, none⟩) z12).trans c12
              simp at hn
              refine ⟨140, false, rfl, hn.2, ?_⟩
              rw [if_pos rfl]
              go_simp
              exact ⟨Below.refl _ _, rfl⟩
            refine slot_fact_h (AnsC (M)) (lasts_ansC _) ?_ ?_
            · intro ρ w' ⟨p1, p2, p3⟩ hS hn
              simp at hn
              refine ⟨140, false, rfl, hn.2.2, ?_⟩
              rw [if_pos rfl]
              go_simp
              exact got_call (K1.out _ _ _ _ _ (HJ.out.below hS) (HC.out.below hS)) fun e w'' ⟨g, cp, he, ho, hb⟩ => ⟨_, he, hb, g, cp, rfl, ho.isIs⟩
            refine slot_fact_h (FldC M) (lasts_fldC _) ?_ ?_
            · intro ρ w' ⟨p1, p2, p3⟩ hS hn
              simp at hn
              refine ⟨140, false, rfl, hn.2, ?_⟩
              rw [if_pos rfl]
              obtain ⟨⟨g, cp, e1, h1⟩, e2⟩ := hn
              go_simp
              exact ⟨Below.refl _ _, g, cp, rfl, h1⟩
            apply slot_eq_h
            · intro ρ w' ⟨p1, p2, p3⟩ hS hn
              have d0 := (hS.cell (p := ⟨u1.heap.size, 0, none⟩) z5).trans c5; have d1 := (hS.cell (p := ⟨u1.heap.size + 1, 0, none⟩) z6).trans c6; have d2 := (hS.cell (p := ⟨u2.heap.size, 0, none⟩) z7).trans c7; have d3 := (hS.cell (p := ⟨u3.heap.size, 0, none⟩) z9).trans c9; have d4 := (hS.cell (p := ⟨u12.heap.size, 0, none⟩) z12).trans c12
              simp at hn
              refine ⟨140, false, rfl, hn.2, ?_⟩
              rw [if_pos rfl]
              go_simp
              exact ⟨Below.refl _ _, rfl⟩
            apply slot_eq_h
            · intro ρ w' ⟨p1, p2, p3⟩ hS hn
              have d0 := (hS.cell (p := ⟨u1.heap.size, 0, none⟩) z5).trans c5; have d1 := (hS.cell (p := ⟨u1.heap.size + 1, 0, none⟩) z6).trans c6; have d2 := (hS.cell (p := ⟨u2.heap.size, 0, none⟩) z7).trans c7; have d3 := (hS.cell (p := ⟨u3.heap.size, 0, none⟩) z9).trans c9; have d4 := (hS.cell (p := ⟨u12.heap.size, 0, none⟩) z12).trans c12
              simp at hn
              refine ⟨140, false, rfl, hn.2, ?_⟩
              rw [if_pos rfl]
              go_simp
              exact ⟨Below.refl _ _, rfl⟩
            apply slot_eq_h
            · intro ρ w' ⟨p1, p2, p3⟩ hS hn
              have d0 := (hS.cell (p := ⟨u1.heap.size, 0, none⟩) z5).trans c5; have d1 := (hS.cell (p := ⟨u1.heap.size + 1, 0, none⟩) z6).trans c6; have d2 := (hS.cell (p := ⟨u2.heap.size, 0, none⟩) z7).trans c7; have d3 := (hS.cell (p := ⟨u3.heap.size, 0, none⟩) z9).trans c9; have d4 := (hS.cell (p := ⟨u12.heap.size, 0, none⟩) z12).trans c12
              simp at hn
              refine ⟨140, false, rfl, hn.2, ?_⟩
              rw [if_pos rfl]
              go_simp
              exact ⟨Below.refl _ _, rfl⟩
            refine slot_fact_h (AnsC (G)) (lasts_ansC _) ?_ ?_
            · intro ρ w' ⟨p1, p2, p3⟩ hS hn
              simp at hn
              refine ⟨140, false, rfl, hn.2.2, ?_⟩
              rw [if_pos rfl]
              go_simp
              exact got_call (K2.out _ _ _ _ _ (HBB.out.below hS) (HC.out.below hS)) fun e w'' ⟨g, cp, he, ho, hb⟩ => ⟨_, he, hb, g, cp, rfl, ho.isIs⟩
            refine slot_fact_h (AnsC (M)) (lasts_ansC _) ?_ ?_
            · intro ρ w' ⟨p1, p2, p3⟩ hS hn
              simp at hn
              refine ⟨140, false, rfl, hn.2.2, ?_⟩
              rw [if_pos rfl]
              obtain ⟨e0, ⟨g, cp, e1, h1⟩, e2⟩ := hn
              go_simp
              exact got_call (K3.out _ _ _ _ _ (HA.out.below hS) h1) fun e w'' ⟨g, cp, he, ho, hb⟩ => ⟨_, he, hb, g, cp, rfl, ho.isIs⟩
            refine slot_fact_h (FldC M) (lasts_fldC _) ?_ ?_
            · intro ρ w' ⟨p1, p2, p3⟩ hS hn
              simp at hn
              refine ⟨140, false, rfl, hn.2, ?_⟩
              rw [if_pos rfl]
              obtain ⟨⟨g, cp, e1, h1⟩, e2⟩ := hn
              go_simp
              exact ⟨Below.refl _ _, g, cp, rfl, h1⟩
            apply slot_eq_h
            · intro ρ w' ⟨p1, p2, p3⟩ hS hn
              have d0 := (hS.cell (p := ⟨u1.heap.size, 0, none⟩) z5).trans c5; have d1 := (hS.cell (p := ⟨u1.heap.size + 1, 0, none⟩) z6).trans c6; have d2 := (hS.cell (p := ⟨u2.heap.size, 0, none⟩) z7).trans c7; have d3 := (hS.cell (p := ⟨u3.heap.size, 0, none⟩) z9).trans c9; have d4 := (hS.cell (p := ⟨u12.heap.size, 0, none⟩) z12).trans c12
              simp at hn
              refine ⟨140, false, rfl, hn.2.2, ?_⟩
              rw [if_pos rfl]
              obtain ⟨⟨g0, cp0, e0, h0⟩, ⟨g, cp, e1, h1⟩, e2⟩ := hn
              go_simp
              exact got_call (KE.out M _ _ _ _ _ hM4 h0 h1) fun e w'' ⟨he, hb⟩ => ⟨_, he, hb, rfl⟩
            apply slot_eq_h
            · intro ρ w' ⟨p1, p2, p3⟩ hS hn
              have d0 := (hS.cell (p := ⟨u1.heap.size, 0, none⟩) z5).trans c5; have d1 := (hS.cell (p := ⟨u1.heap.size + 1, 0, none⟩) z6).trans c6; have d2 := (hS.cell (p := ⟨u2.heap.size, 0, none⟩) z7).trans c7; have d3 := (hS.cell (p := ⟨u3.heap.size, 0, none⟩) z9).trans c9; have d4 := (hS.cell (p := ⟨u12.heap.size, 0, none⟩) z12).trans c12
              simp at hn
              go_simp
              exact ⟨Below.refl _ _, rfl⟩
            refine slot_end_h ?_
            rintro vs u15 hS hF
            simp at hF
            obtain ⟨f152, f151, ⟨g150, q150, f150, -⟩, ⟨g149, q149, f149, -⟩, ⟨g148, q148, f148, -⟩, f147, f146, f145, ⟨g144, q144, f144, -⟩, ⟨g143, q143, f143, -⟩, f142, f141, f140, f139, f138, f137⟩ := hF
            simp only [List.take_succ_cons, List.take_zero, List.drop_succ_cons, List.drop_zero, putAll, f152, f151, f150, f149, f148, f147, f146, f145, f144, f143, f142, f141, f140, f139, f138, f137]
            clear f152 f151 f150 f149 f148 f147 f146 f145 f144 f143 f142 f141 f140 f139 f138 f137
            simp only [Act.put, List.setIfInBounds_toArray, List.set_cons_succ, List.set_cons_zero]
            replace c5 := (hS.cell (p := ⟨u1.heap.size, 0, none⟩) z5).trans c5
            replace z5 := Nat.lt_of_lt_of_le z5 hS.size
            replace c6 := (hS.cell (p := ⟨u1.heap.size + 1, 0, none⟩) z6).trans c6
            replace z6 := Nat.lt_of_lt_of_le z6 hS.size
            replace c7 := (hS.cell (p := ⟨u2.heap.size, 0, none⟩) z7).trans c7
            replace z7 := Nat.lt_of_lt_of_le z7 hS.size
            replace c9 := (hS.cell (p := ⟨u3.heap.size, 0, none⟩) z9).trans c9
            replace z9 := Nat.lt_of_lt_of_le z9 hS.size
            replace c12 := (hS.cell (p := ⟨u12.heap.size, 0, none⟩) z12).trans c12
            replace z12 := Nat.lt_of_lt_of_le z12 hS.size
            replace HA := Lib.hid (HA.out.below hS)
            replace HBB := Lib.hid (HBB.out.below hS)
            replace HC := Lib.hid (HC.out.below hS)
            replace HJ := Lib.hid (HJ.out.below hS)
            replace HK := Lib.hid (HK.out.below hS)
            replace HB := Lib.hid (below_step HB.out HB.out.size hS)
            clear hS
            go_wp2
            go_ret
            exact ⟨rfl, HB.out⟩
        · skip
          obtain ⟨q, hq, hsi, hC4, hKl, hKq, hq0, hq1, hcmp⟩ := tickV_told POK.out.symm
          rw [← PK.out] at hKl hKq hcmp
          subst hsi
          have KV : Hid (∀ p : Aft V4.heap.size V4, Calls Try.prog 9 #[vecV ac C.length cc, vecV ak K.length ck] p.now fun e w' => e = .returned (.int .i64 (-1)) ∧ Below p.now.heap.size p.now w') := fun p => by
            rw [← hcmp]
            exact implVecCmp_any _ _ _ _ _ _ C K p.now rfl hmC (HC.out.below p.below) rfl (by unfold maxLen; omega) (HK.out.below p.below)
          obtain ⟨bc, oc, hae, hzc, ec⟩ := HC.out.at (Below.refl _ _) (show q < C.length by omega)
          obtain ⟨bk, ok, hke, hzk, ek⟩ := HK.out.at (Below.refl _ _) (show q < K.length by omega)
          rw [hKq] at ek
          generalize C.getD q 0 = X at *
          have i1 : (0 : Int) ≤ (q : Int) := by omega
          have i2 : (q : Int) < (C.length : Int) := by omega
          have i3 : (q : Int) < (K.length : Int) := by omega
          subst hae hke
          have gc := aft_cell hzc ec
          have gk := aft_cell hzk ek
          clear ec ek hzc hzk hC4 hKl hKq hcmp hq
          have g0 := aft_cell z5 c5
          have g1 := aft_cell z6 c6
          have g2 := aft_cell z7 c7
          have g3 := aft_cell z9 c9
          have g4 := aft_cell z12 c12
          have ne := aft_some V4
          refine wp_region_aft (by kernel_rfl) (by kernel_rfl) ?_
          repeat (first | go_big_quiet_step (first | (go_at_call 9; exact aft_of (KV.out _))))
          refine wpQuiet_nil ?_
          intro u16 hq
          clear ne g0 g1 g2 g3 g4 KV gc gk
          replace c5 := (hq.cell (p := ⟨u1.heap.size, 0, none⟩) z5).trans c5
          replace z5 := Nat.lt_of_lt_of_le z5 hq.size
          replace c6 := (hq.cell (p := ⟨u1.heap.size + 1, 0, none⟩) z6).trans c6
          replace z6 := Nat.lt_of_lt_of_le z6 hq.size
          replace c7 := (hq.cell (p := ⟨u2.heap.size, 0, none⟩) z7).trans c7
          replace z7 := Nat.lt_of_lt_of_le z7 hq.size
          replace c9 := (hq.cell (p := ⟨u3.heap.size, 0, none⟩) z9).trans c9
          replace z9 := Nat.lt_of_lt_of_le z9 hq.size
          replace c12 := (hq.cell (p := ⟨u12.heap.size, 0, none⟩) z12).trans c12
          replace z12 := Nat.lt_of_lt_of_le z12 hq.size
          replace HA := Lib.hid (HA.out.below hq)
          replace HBB := Lib.hid (HBB.out.below hq)
          replace HC := Lib.hid (HC.out.below hq)
          replace HJ := Lib.hid (HJ.out.below hq)
          replace HK := Lib.hid (HK.out.below hq)
          replace HB := Lib.hid (below_step HB.out HB.out.size hq)
          clear hq
          go_wp2_with fail
          cases oC
          · skip
            refine wp_region_slotsH 16 [[(7, false)], [(137, true)], [(138, true)], [(139, true)], [(140, true)], [(140, true)], [(140, true)], [(140, true)], [(140, true)], [(140, true)], [(140, true)], [(140, true)], [(140, true)], [(140, true)], [(140, true)], [(140, true), (151, true)]] (fun w' => Below u16.heap.size u16 w') (fun w w' => Below w.heap.size w w') (by kernel_rfl) (by kernel_rfl) (by rfl) (Below.refl _ _).drew (fun _ _ h hb => below_step h h.size hb) ?_
            apply slot_eq_h
            · intro ρ w' ⟨p1, p2, p3⟩ hS hn
              have d0 := (hS.cell (p := ⟨u1.heap.size, 0, none⟩) z5).trans c5; have d1 := (hS.cell (p := ⟨u1.heap.size + 1, 0, none⟩) z6).trans c6; have d2 := (hS.cell (p := ⟨u2.heap.size, 0, none⟩) z7).trans c7; have d3 := (hS.cell (p := ⟨u3.heap.size, 0, none⟩) z9).trans c9; have d4 := (hS.cell (p := ⟨u12.heap.size, 0, none⟩) z12).trans c12
              simp at hn
              go_simp
              exact ⟨Below.refl _ _, rfl⟩
            apply slot_eq_h
            · intro ρ w' ⟨p1, p2, p3⟩ hS hn
              have d0 := (hS.cell (p := ⟨u1.heap.size, 0, none⟩) z5).trans c5; have d1 := (hS.cell (p := ⟨u1.heap.size + 1, 0, none⟩) z6).trans c6; have d2 := (hS.cell (p := ⟨u2.heap.size, 0, none⟩) z7).trans c7; have d3 := (hS.cell (p := ⟨u3.heap.size, 0, none⟩) z9).trans c9; have d4 := (hS.cell (p := ⟨u12.heap.size, 0, none⟩) z12).trans c12
              simp at hn
              go_simp
              exact got_call (KOC.out _ (HC.out.below hS)) fun e w'' ⟨he, hb⟩ => ⟨_, he, hb, rfl⟩
            apply slot_eq_h
            · intro ρ w' ⟨p1, p2, p3⟩ hS hn
              have d0 := (hS.cell (p := ⟨u1.heap.size, 0, none⟩) z5).trans c5; have d1 := (hS.cell (p := ⟨u1.heap.size + 1, 0, none⟩) z6).trans c6; have d2 := (hS.cell (p := ⟨u2.heap.size, 0, none⟩) z7).trans c7; have d3 := (hS.cell (p := ⟨u3.heap.size, 0, none⟩) z9).trans c9; have d4 := (hS.cell (p := ⟨u12.heap.size, 0, none⟩) z12).trans c12
              simp at hn
              go_simp
              exact ⟨Below.refl _ _, rfl⟩
            apply slot_eq_h
            · intro ρ w' ⟨p1, p2, p3⟩ hS hn
              have d0 := (hS.cell (p := ⟨u1.heap.size, 0, none⟩) z5).trans c5; have d1 := (hS.cell (p := ⟨u1.heap.size + 1, 0, none⟩) z6).trans c6; have d2 := (hS.cell (p := ⟨u2.heap.size, 0, none⟩) z7).trans c7; have d3 := (hS.cell (p := ⟨u3.heap.size, 0, none⟩) z9).trans c9; have d4 := (hS.cell (p := ⟨u12.heap.size, 0, none⟩) z12).trans c12
              simp at hn
              go_simp
              exact ⟨Below.refl _ _, rfl⟩
            apply slot_eq_h
            · intro ρ w' ⟨p1, p2, p3⟩ hS hn
              simp at hn
              exact ⟨140, true, rfl, hn, by rw [if_neg (by simp)]; exact ⟨Below.refl _ _, rfl⟩⟩
            apply slot_eq_h
            · intro ρ w' ⟨p1, p2, p3⟩ hS hn
              simp at hn
              exact ⟨140, true, rfl, hn, by rw [if_neg (by simp)]; exact ⟨Below.refl _ _, rfl⟩⟩
            apply slot_eq_h
            · intro ρ w' ⟨p1, p2, p3⟩ hS hn
              simp at hn
              exact ⟨140, true, rfl, hn, by rw [if_neg (by simp)]; exact ⟨Below.refl _ _, rfl⟩⟩
            apply slot_eq_h
            · intro ρ w' ⟨p1, p2, p3⟩ hS hn
              simp at hn
              exact ⟨140, true, rfl, hn, by rw [if_neg (by simp)]; exact ⟨Below.refl _ _, rfl⟩⟩
            apply slot_eq_h
            · intro ρ w' ⟨p1, p2, p3⟩ hS hn
              simp at hn
              exact ⟨140, true, rfl, hn, by rw [if_neg (by simp)]; exact ⟨Below.refl _ _, rfl⟩⟩
            apply slot_eq_h
            · intro ρ w' ⟨p1, p2, p3⟩ hS hn
              simp at hn
              exact ⟨140, true, rfl, hn, by rw [if_neg (by simp)]; exact ⟨Below.refl _ _, rfl⟩⟩
            apply slot_eq_h
            · intro ρ w' ⟨p1, p2, p3⟩ hS hn
              simp at hn
              exact ⟨140, true, rfl, hn, by rw [if_neg (by simp)]; exact ⟨Below.refl _ _, rfl⟩⟩
            apply slot_eq_h
            · intro ρ w' ⟨p1, p2, p3⟩ hS hn
              simp at hn
              exact ⟨140, true, rfl, hn, by rw [if_neg (by simp)]; exact ⟨Below.refl _ _, rfl⟩⟩
            apply slot_eq_h
            · intro ρ w' ⟨p1, p2, p3⟩ hS hn
              simp at hn
              exact ⟨140, true, rfl, hn, by rw [if_neg (by simp)]; exact ⟨Below.refl _ _, rfl⟩⟩
            apply slot_eq_h
            · intro ρ w' ⟨p1, p2, p3⟩ hS hn
              simp at hn
              exact ⟨140, true, rfl, hn, by rw [if_neg (by simp)]; exact ⟨Below.refl _ _, rfl⟩⟩
            apply slot_eq_h
            · intro ρ w' ⟨p1, p2, p3⟩ hS hn
              simp at hn
              exact ⟨140, true, rfl, hn, by rw [if_neg (by simp)]; exact ⟨Below.refl _ _, rfl⟩⟩
            apply slot_eq_h
            · intro ρ w' ⟨p1, p2, p3⟩ hS hn
              have d0 := (hS.cell (p := ⟨u1.heap.size, 0, none⟩) z5).trans c5; have d1 := (hS.cell (p := ⟨u1.heap.size + 1, 0, none⟩) z6).trans c6; have d2 := (hS.cell (p := ⟨u2.heap.size, 0, none⟩) z7).trans c7; have d3 := (hS.cell (p := ⟨u3.heap.size, 0, none⟩) z9).trans c9; have d4 := (hS.cell (p := ⟨u12.heap.size, 0, none⟩) z12).trans c12
              simp at hn
              go_simp
              exact ⟨Below.refl _ _, rfl⟩
            refine slot_end_h ?_
            rintro vs u17 hS hF
            simp at hF
            obtain ⟨f152, f151, f150, f149, f148, f147, f146, f145, f144, f143, f142, f141, f140, f139, f138, f137⟩ := hF
            simp only [List.take_succ_cons, List.take_zero, List.drop_succ_cons, List.drop_zero, putAll, f152, f151, f150, f149, f148, f147, f146, f145, f144, f143, f142, f141, f140, f139, f138, f137]
            clear f152 f151 f150 f149 f148 f147 f146 f145 f144 f143 f142 f141 f140 f139 f138 f137
            simp only [Act.put, List.setIfInBounds_toArray, List.set_cons_succ, List.set_cons_zero]
            replace c5 := (hS.cell (p := ⟨u1.heap.size, 0, none⟩) z5).trans c5
            replace z5 := Nat.lt_of_lt_of_le z5 hS.size
            replace c6 := (hS.cell (p := ⟨u1.heap.size + 1, 0, none⟩) z6).trans c6
            replace z6 := Nat.lt_of_lt_of_le z6 hS.size
            replace c7 := (hS.cell (p := ⟨u2.heap.size, 0, none⟩) z7).trans c7
            replace z7 := Nat.lt_of_lt_of_le z7 hS.size
            replace c9 := (hS.cell (p := ⟨u3.heap.size, 0, none⟩) z9).trans c9
            replace z9 := Nat.lt_of_lt_of_le z9 hS.size
            replace c12 := (hS.cell (p := ⟨u12.heap.size, 0, none⟩) z12).trans c12
            replace z12 := Nat.lt_of_lt_of_le z12 hS.size
            replace HA := Lib.hid (HA.out.below hS)
            replace HBB := Lib.hid (HBB.out.below hS)
            replace HC := Lib.hid (HC.out.below hS)
            replace HJ := Lib.hid (HJ.out.below hS)
            replace HK := Lib.hid (HK.out.below hS)
            replace HB := Lib.hid (below_step HB.out HB.out.size hS)
            clear hS
            go_wp2
            go_ret
            exact ⟨rfl, HB.out⟩
          · skip
            obtain ⟨M, hM⟩ : ∃ M, M = joinV J C := ⟨_, rfl⟩
            obtain ⟨G, hG⟩ : ∃ G, G = joinV B C := ⟨_, rfl⟩
            have hM4 : M.length ≤ 4 := by rw [hM]; exact joinV_few _ _
            have hG4 : G.length ≤ 4 := by rw [hG]; exact joinV_few _ _
            have hAG : M = joinV A G := by
              rw [hM, hG, PJ.out]
              exact joinV_assoc HVA.out HVB.out POC.out.symm
            have K1 : Hid (∀ W a1 c1 a2 c2, IsIs W a1 J → IsIs W a2 C → Calls Try.prog 8 #[vecV a1 J.length c1, vecV a2 C.length c2] W fun e w' => ∃ g cp, e = .returned (vecV g M.length cp) ∧ OwnI w' W.heap.size w'.heap.size g M ∧ Below W.heap.size W w') := fun W a1 c1 a2 c2 h1 h2 => by
              rw [hM]
              exact implVecJoin_any _ _ _ _ _ _ J C W rfl (by unfold maxLen; omega) h1 rfl hmC h2
            have K2 : Hid (∀ W a1 c1 a2 c2, IsIs W a1 B → IsIs W a2 C → Calls Try.prog 8 #[vecV a1 B.length c1, vecV a2 C.length c2] W fun e w' => ∃ g cp, e = .returned (vecV g G.length cp) ∧ OwnI w' W.heap.size w'.heap.size g G ∧ Below W.heap.size W w') := fun W a1 c1 a2 c2 h1 h2 => by
              rw [hG]
              exact implVecJoin_any _ _ _ _ _ _ B C W rfl hmB h1 rfl hmC h2
            have K3 : Hid (∀ W a1 c1 a2 c2, IsIs W a1 A → IsIs W a2 G → Calls Try.prog 8 #[vecV a1 A.length c1, vecV a2 G.length c2] W fun e w' => ∃ g cp, e = .returned (vecV g M.length cp) ∧ OwnI w' W.heap.size w'.heap.size g M ∧ Below W.heap.size W w') := fun W a1 c1 a2 c2 h1 h2 => by
              rw [hAG]
              exact implVecJoin_any _ _ _ _ _ _ A G W rfl hmA h1 rfl (by unfold maxLen; omega) h2
            clear hM hG hAG
            refine wp_region_slotsH 16 [[(7, false)], [(137, true)], [(138, true)], [(139, true)], [(9, false), (140, true)], [(7, false), (140, true)], [(141, true), (142, true), (140, true)], [(143, true), (140, true)], [(5, false), (140, true)], [(6, false), (140, true)], [(7, false), (140, true)], [(146, true), (147, true), (140, true)], [(145, true), (148, true), (140, true)], [(149, true), (140, true)], [(144, true), (150, true), (140, true)], [(140, true), (151, true)]] (fun w' => Below u16.heap.size u16 w') (fun w w' => Below w.heap.size w w') (by kernel_rfl) (by kernel_rfl) (by rfl) (Below.refl _ _).drew (fun _ _ h hb => below_step h h.size hb) ?_
            apply slot_eq_h
            · intro ρ w' ⟨p1, p2, p3⟩ hS hn
              have d0 := (hS.cell (p := ⟨u1.heap.size, 0, none⟩) z5).trans c5; have d1 := (hS.cell (p := ⟨u1.heap.size + 1, 0, none⟩) z6).trans c6; have d2 := (hS.cell (p := ⟨u2.heap.size, 0, none⟩) z7).trans c7; have d3 := (hS.cell (p := ⟨u3.heap.size, 0, none⟩) z9).trans c9; have d4 := (hS.cell (p := ⟨u12.heap.size, 0, none⟩) z12).trans c12
              simp at hn
              go_simp
              exact ⟨Below.refl _ _, rfl⟩
            apply slot_eq_h
            · intro ρ w' ⟨p1, p2, p3⟩ hS hn
              have d0 := (hS.cell (p := ⟨u1.heap.size, 0, none⟩) z5).trans c5; have d1 := (hS.cell (p := ⟨u1.heap.size + 1, 0, none⟩) z6).trans c6; have d2 := (hS.cell (p := ⟨u2.heap.size, 0, none⟩) z7).trans c7; have d3 := (hS.cell (p := ⟨u3.heap.size, 0, none⟩) z9).trans c9; have d4 := (hS.cell (p := ⟨u12.heap.size, 0, none⟩) z12).trans c12
              simp at hn
              go_simp
              exact got_call (KOC.out _ (HC.out.below hS)) fun e w'' ⟨he, hb⟩ => ⟨_, he, hb, rfl⟩
            apply slot_eq_h
            · intro ρ w' ⟨p1, p2, p3⟩ hS hn
              have d0 := (hS.cell (p := ⟨u1.heap.size, 0, none⟩) z5).trans c5; have d1 := (hS.cell (p := ⟨u1.heap.size + 1, 0, none⟩) z6).trans c6; have d2 := (hS.cell (p := ⟨u2.heap.size, 0, none⟩) z7).trans c7; have d3 := (hS.cell (p := ⟨u3.heap.size, 0, none⟩) z9).trans c9; have d4 := (hS.cell (p := ⟨u12.heap.size, 0, none⟩) z12).trans c12
              simp at hn
              go_simp
              exact ⟨Below.refl _ _, rfl⟩
            apply slot_eq_h
            · intro ρ w' ⟨p1, p2, p3⟩ hS hn
              have d0 := (hS.cell (p := ⟨u1.heap.size, 0, none⟩) z5).trans c5; have d1 := (hS.cell (p := ⟨u1.heap.size + 1, 0, none⟩) z6).trans c6; have d2 := (hS.cell (p := ⟨u2.heap.size, 0, none⟩) z7).trans c7; have d3 := (hS.cell (p := ⟨u3.heap.size, 0, none⟩) z9).trans c9; have d4 := (hS.cell (p := ⟨u12.heap.size, 0, none⟩) z12).trans c12
              simp at hn
              go_simp
              exact ⟨Below.refl _ _, rfl⟩
            apply slot_eq_h
            · intro ρ w' ⟨p1, p2, p3⟩ hS hn
              have d0 := (hS.cell (p := ⟨u1.heap.size, 0, none⟩) z5).trans c5; have d1 := (hS.cell (p := ⟨u1.heap.size + 1, 0, none⟩) z6).trans c6; have d2 := (hS.cell (p := ⟨u2.heap.size, 0, none⟩) z7).trans c7; have d3 := (hS.cell (p := ⟨u3.heap.size, 0, none⟩) z9).trans c9; have d4 := (hS.cell (p := ⟨u12.heap.size, 0, none⟩) z12).trans c12
              simp at hn
              refine ⟨140, false, rfl, hn.2, ?_⟩
              rw [if_pos rfl]
              go_simp
              exact ⟨Below.refl _ _, rfl⟩
            apply slot_eq_h
            · intro ρ w' ⟨p1, p2, p3⟩ hS hn
              have d0 := (hS.cell (p := ⟨u1.heap.size, 0, none⟩) z5).trans c5; have d1 := (hS.cell (p := ⟨u1.heap.size + 1, 0, none⟩) z6).trans c6; have d2 := (hS.cell (p := ⟨u2.heap.size, 0, none⟩) z7).trans c7; have d3 := (hS.cell (p := ⟨u3.heap.size, 0, none⟩) z9).trans c9; have d4 := (hS.cell (p := ⟨u12.heap.size, 0, none⟩) z12).trans c12
              simp at hn
              refine ⟨140, false, rfl, hn.2, ?_⟩
              rw [if_pos rfl]
              go_simp
              exact ⟨Below.refl _ _, rfl⟩
            refine slot_fact_h (AnsC (M)) (lasts_ansC _) ?_ ?_
            · intro ρ w' ⟨p1, p2, p3⟩ hS hn
              simp at hn
              refine ⟨140, false, rfl, hn.2.2, ?_⟩
              rw [if_pos rfl]
              go_simp
              exact got_call (K1.out _ _ _ _ _ (HJ.out.below hS) (HC.out.below hS)) fun e w'' ⟨g, cp, he, ho, hb⟩ => ⟨_, he, hb, g, cp, rfl, ho.isIs⟩
            refine slot_fact_h (FldC M) (lasts_fldC _) ?_ ?_
            · intro ρ w' ⟨p1, p2, p3⟩ hS hn
              simp at hn
              refine ⟨140, false, rfl, hn.2, ?_⟩
              rw [if_pos rfl]
              obtain ⟨⟨g, cp, e1, h1⟩, e2⟩ := hn
              go_simp
              exact ⟨Below.refl _ _, g, cp, rfl, h1⟩
            apply slot_eq_h
            · intro ρ w' ⟨p1, p2, p3⟩ hS hn
              have d0 := (hS.cell (p := ⟨u1.heap.size, 0, none⟩) z5).trans c5; have d1 := (hS.cell (p := ⟨u1.heap.size + 1, 0, none⟩) z6).trans c6; have d2 := (hS.cell (p := ⟨u2.heap.size, 0, none⟩) z7).trans c7; have d3 := (hS.cell (p := ⟨u3.heap.size, 0, none⟩) z9).trans c9; have d4 := (hS.cell (p := ⟨u12.heap.size, 0, none⟩) z12).trans c12
              simp at hn
              refine ⟨140, false, rfl, hn.2, ?_⟩
              rw [if_pos rfl]
              go_simp
              exact ⟨Below.refl _ _, rfl⟩
            apply slot_eq_h
            · intro ρ w' ⟨p1, p2, p3⟩ hS hn
              have d0 := (hS.cell (p := ⟨u1.heap.size, 0, none⟩) z5).trans c5; have d1 := (hS.cell (p := ⟨u1.heap.size + 1, 0, none⟩) z6).trans c6; have d2 := (hS.cell (p := ⟨u2.heap.size, 0, none⟩) z7).trans c7; have d3 := (hS.cell (p := ⟨u3.heap.size, 0, none⟩) z9).trans c9; have d4 := (hS.cell (p := ⟨u12.heap.size, 0, none⟩) z12).trans c12
              simp at hn
              refine ⟨140, false, rfl, hn.2, ?_⟩
              rw [if_pos rfl]
              go_simp
              exact ⟨Below.refl _ _, rfl⟩
            apply slot_eq_h
            · intro ρ w' ⟨p1, p2, p3⟩ hS hn
              have d0 := (hS.cell (p := ⟨u1.heap.size, 0, none⟩) z5).trans c5; have d1 := (hS.cell (p := ⟨u1.heap.size + 1, 0, none⟩) z6).trans c6; have d2 := (hS.cell (p := ⟨u2.heap.size, 0, none⟩) z7).trans c7; have d3 := (hS.cell (p := ⟨u3.heap.size, 0, none⟩) z9).trans c9; have d4 := (hS.cell (p := ⟨u12.heap.size, 0, none⟩) z12).trans c12
              simp at hn
              refine ⟨140, false, rfl, hn.2, ?_⟩
              rw [if_pos rfl]
              go_simp
              exact ⟨Below.refl _ _, rfl⟩
            refine slot_fact_h (AnsC (G)) (lasts_ansC _) ?_ ?_
            · intro ρ w' ⟨p1, p2, p3⟩ hS hn
              simp at hn
              refine ⟨140, false, rfl, hn.2.2, ?_⟩
              rw [if_pos rfl]
              go_simp
              exact got_call (K2.out _ _ _ _ _ (HBB.out.below hS) (HC.out.below hS)) fun e w'' ⟨g, cp, he, ho, hb⟩ => ⟨_, he, hb, g, cp, rfl, ho.isIs⟩
            refine slot_fact_h (AnsC (M)) (lasts_ansC _) ?_ ?_
            · intro ρ w' ⟨p1, p2, p3⟩ hS hn
              simp at hn
              refine ⟨140, false, rfl, hn.2.2, ?_⟩
              rw [if_pos rfl]
              obtain ⟨e0, ⟨g, cp, e1, h1⟩, e2⟩ := hn
              go_simp
              exact got_call (K3.out _ _ _ _ _ (HA.out.below hS) h1) fun e w'' ⟨g, cp, he, ho, hb⟩ => ⟨_, he, hb, g, cp, rfl, ho.isIs⟩
            refine slot_fact_h (FldC M) (lasts_fldC _) ?_ ?_
            · intro ρ w' ⟨p1, p2, p3⟩ hS hn
              simp at hn
              refine ⟨140, false, rfl, hn.2, ?_⟩
              rw [if_pos rfl]
              obtain ⟨⟨g, cp, e1, h1⟩, e2⟩ := hn
              go_simp
              exact ⟨Below.refl _ _, g, cp, rfl, h1⟩
            apply slot_eq_h
            · intro ρ w' ⟨p1, p2, p3⟩ hS hn
              have d0 := (hS.cell (p := ⟨u1.heap.size, 0, none⟩) z5).trans c5; have d1 := (hS.cell (p := ⟨u1.heap.size + 1, 0, none⟩) z6).trans c6; have d2 := (hS.cell (p := ⟨u2.heap.size, 0, none⟩) z7).trans c7; have d3 := (hS.cell (p := ⟨u3.heap.size, 0, none⟩) z9).trans c9; have d4 := (hS.cell (p := ⟨u12.heap.size, 0, none⟩) z12).trans c12
              simp at hn
              refine ⟨140, false, rfl, hn.2.2, ?_⟩
              rw [if_pos rfl]
              obtain ⟨⟨g0, cp0, e0, h0⟩, ⟨g, cp, e1, h1⟩, e2⟩ := hn
              go_simp
              exact got_call (KE.out M _ _ _ _ _ hM4 h0 h1) fun e w'' ⟨he, hb⟩ => ⟨_, he, hb, rfl⟩
            apply slot_eq_h
            · intro ρ w' ⟨p1, p2, p3⟩ hS hn
              have d0 := (hS.cell (p := ⟨u1.heap.size, 0, none⟩) z5).trans c5; have d1 := (hS.cell (p := ⟨u1.heap.size + 1, 0, none⟩) z6).trans c6; have d2 := (hS.cell (p := ⟨u2.heap.size, 0, none⟩) z7).trans c7; have d3 := (hS.cell (p := ⟨u3.heap.size, 0, none⟩) z9).trans c9; have d4 := (hS.cell (p := ⟨u12.heap.size, 0, none⟩) z12).trans c12
              simp at hn
              go_simp
              exact ⟨Below.refl _ _, rfl⟩
            refine slot_end_h ?_
            rintro vs u18 hS hF
            simp at hF
            obtain ⟨f152, f151, ⟨g150, q150, f150, -⟩, ⟨g149, q149, f149, -⟩, ⟨g148, q148, f148, -⟩, f147, f146, f145, ⟨g144, q144, f144, -⟩, ⟨g143, q143, f143, -⟩, f142, f141, f140, f139, f138, f137⟩ := hF
            simp only [List.take_succ_cons, List.take_zero, List.drop_succ_cons, List.drop_zero, putAll, f152, f151, f150, f149, f148, f147, f146, f145, f144, f143, f142, f141, f140, f139, f138, f137]
            clear f152 f151 f150 f149 f148 f147 f146 f145 f144 f143 f142 f141 f140 f139 f138 f137
            simp only [Act.put, List.setIfInBounds_toArray, List.set_cons_succ, List.set_cons_zero]
            replace c5 := (hS.cell (p := ⟨u1.heap.size, 0, none⟩) z5).trans c5
            replace z5 := Nat.lt_of_lt_of_le z5 hS.size
            replace c6 := (hS.cell (p := ⟨u1.heap.size + 1, 0, none⟩) z6).trans c6
            replace z6 := Nat.lt_of_lt_of_le z6 hS.size
            replace c7 := (hS.cell (p := ⟨u2.heap.size, 0, none⟩) z7).trans c7
            replace z7 := Nat.lt_of_lt_of_le z7 hS.size
            replace c9 := (hS.cell (p := ⟨u3.heap.size, 0, none⟩) z9).trans c9
            replace z9 := Nat.lt_of_lt_of_le z9 hS.size
            replace c12 := (hS.cell (p := ⟨u12.heap.size, 0, none⟩) z12).trans c12
            replace z12 := Nat.lt_of_lt_of_le z12 hS.size
            replace HA := Lib.hid (HA.out.below hS)
            replace HBB := Lib.hid (HBB.out.below hS)
            replace HC := Lib.hid (HC.out.below hS)
            replace HJ := Lib.hid (HJ.out.below hS)
            replace HK := Lib.hid (HK.out.below hS)
            replace HB := Lib.hid (below_step HB.out HB.out.size hS)
            clear hS
            go_wp2
            go_ret
            exact ⟨rfl, HB.out⟩
      · skip
        have KD' : Hid (∀ W, IsIs W aj J → IsIs W ab B → Calls Try.prog 10 #[.slice aj J.length cj, .slice ab B.length cb] W fun e w' => e = .returned (.bool true) ∧ Below W.heap.size W w') := KD
        clear KD
        refine wp_region_slotsH 36 [[(9, false)], [(74, true)], [(6, false)], [(5, false)], [(76, true), (77, true)], [(78, true)], [(75, true), (79, true)], [(80, true)], [(81, true)], [(10, false), (82, true)], [(83, true), (82, true)], [(84, true), (82, true)], [(85, true)], [(85, true)], [(85, true), (87, true), (82, true)], [(9, false), (82, true)], [(89, true), (82, true)], [(6, false), (82, true)], [(91, true), (82, true)], [(90, true), (92, true), (82, true)], [(88, true), (93, true), (82, true)], [(82, true), (94, true)], [(95, true)], [(10, false), (96, true)], [(97, true), (96, true)], [(11, false), (96, true)], [(99, true), (96, true)], [(98, true), (100, true), (96, true)], [(96, true), (101, true)], [(102, true)], [(10, false), (103, true)], [(104, true), (103, true)], [(11, false), (103, true)], [(106, true), (103, true)], [(105, true), (107, true), (103, true)], [(103, true), (108, true)]] (fun w' => Below u10.heap.size u10 w') (fun w w' => Below w.heap.size w w') (by kernel_rfl) (by kernel_rfl) (by rfl) (Below.refl _ _).drew (fun _ _ h hb => below_step h h.size hb) ?_
        apply slot_eq_h
        · intro ρ w' ⟨p1, p2, p3⟩ hS hn
          have d0 := (hS.cell (p := ⟨u1.heap.size, 0, none⟩) z5).trans c5; have d1 := (hS.cell (p := ⟨u1.heap.size + 1, 0, none⟩) z6).trans c6; have d2 := (hS.cell (p := ⟨u2.heap.size, 0, none⟩) z7).trans c7; have d3 := (hS.cell (p := ⟨u3.heap.size, 0, none⟩) z9).trans c9
          simp at hn
          go_simp
          exact ⟨Below.refl _ _, rfl⟩
        apply slot_eq_h
        · intro ρ w' ⟨p1, p2, p3⟩ hS hn
          have d0 := (hS.cell (p := ⟨u1.heap.size, 0, none⟩) z5).trans c5; have d1 := (hS.cell (p := ⟨u1.heap.size + 1, 0, none⟩) z6).trans c6; have d2 := (hS.cell (p := ⟨u2.heap.size, 0, none⟩) z7).trans c7; have d3 := (hS.cell (p := ⟨u3.heap.size, 0, none⟩) z9).trans c9
          simp at hn
          go_simp
          exact ⟨Below.refl _ _, rfl⟩
        apply slot_eq_h
        · intro ρ w' ⟨p1, p2, p3⟩ hS hn
          have d0 := (hS.cell (p := ⟨u1.heap.size, 0, none⟩) z5).trans c5; have d1 := (hS.cell (p := ⟨u1.heap.size + 1, 0, none⟩) z6).trans c6; have d2 := (hS.cell (p := ⟨u2.heap.size, 0, none⟩) z7).trans c7; have d3 := (hS.cell (p := ⟨u3.heap.size, 0, none⟩) z9).trans c9
          simp at hn
          go_simp
          exact ⟨Below.refl _ _, rfl⟩
        apply slot_eq_h
        · intro ρ w' ⟨p1, p2, p3⟩ hS hn
          have d0 := (hS.cell (p := ⟨u1.heap.size, 0, none⟩) z5).trans c5; have d1 := (hS.cell (p := ⟨u1.heap.size + 1, 0, none⟩) z6).trans c6; have d2 := (hS.cell (p := ⟨u2.heap.size, 0, none⟩) z7).trans c7; have d3 := (hS.cell (p := ⟨u3.heap.size, 0, none⟩) z9).trans c9
          simp at hn
          go_simp
          exact ⟨Below.refl _ _, rfl⟩
        refine slot_fact_h (AnsC (J)) (lasts_ansC _) ?_ ?_
        · intro ρ w' ⟨p1, p2, p3⟩ hS hn
          simp at hn
          go_simp
          exact got_call (KJ2.out _ (HA.out.below hS) (HBB.out.below hS)) fun e w'' ⟨g, cp, he, ho, hb⟩ => ⟨_, he, hb, g, cp, rfl, ho.isIs⟩
        refine slot_fact_h (FldC J) (lasts_fldC _) ?_ ?_
        · intro ρ w' ⟨p1, p2, p3⟩ hS hn
          simp at hn
          obtain ⟨g, cp, e1, h1⟩ := hn
          go_simp
          exact ⟨Below.refl _ _, g, cp, rfl, h1⟩
        apply slot_eq_h
        · intro ρ w' ⟨p1, p2, p3⟩ hS hn
          have d0 := (hS.cell (p := ⟨u1.heap.size, 0, none⟩) z5).trans c5; have d1 := (hS.cell (p := ⟨u1.heap.size + 1, 0, none⟩) z6).trans c6; have d2 := (hS.cell (p := ⟨u2.heap.size, 0, none⟩) z7).trans c7; have d3 := (hS.cell (p := ⟨u3.heap.size, 0, none⟩) z9).trans c9
          simp at hn
          obtain ⟨e0, g, cp, e1, h1⟩ := hn
          go_simp
          exact got_call (KE.out J _ _ _ _ _ hJ4 (HJ.out.below hS) h1) fun e w'' ⟨he, hb⟩ => ⟨_, he, hb, rfl⟩
        apply slot_eq_h
        · intro ρ w' ⟨p1, p2, p3⟩ hS hn
          have d0 := (hS.cell (p := ⟨u1.heap.size, 0, none⟩) z5).trans c5; have d1 := (hS.cell (p := ⟨u1.heap.size + 1, 0, none⟩) z6).trans c6; have d2 := (hS.cell (p := ⟨u2.heap.size, 0, none⟩) z7).trans c7; have d3 := (hS.cell (p := ⟨u3.heap.size, 0, none⟩) z9).trans c9
          simp at hn
          go_simp
          exact ⟨Below.refl _ _, rfl⟩
        apply slot_eq_h
        · intro ρ w' ⟨p1, p2, p3⟩ hS hn
          have d0 := (hS.cell (p := ⟨u1.heap.size, 0, none⟩) z5).trans c5; have d1 := (hS.cell (p := ⟨u1.heap.size + 1, 0, none⟩) z6).trans c6; have d2 := (hS.cell (p := ⟨u2.heap.size, 0, none⟩) z7).trans c7; have d3 := (hS.cell (p := ⟨u3.heap.size, 0, none⟩) z9).trans c9
          simp at hn
          go_simp
          exact ⟨Below.refl _ _, rfl⟩
        apply slot_eq_h
        · intro ρ w' ⟨p1, p2, p3⟩ hS hn
          have d0 := (hS.cell (p := ⟨u1.heap.size, 0, none⟩) z5).trans c5; have d1 := (hS.cell (p := ⟨u1.heap.size + 1, 0, none⟩) z6).trans c6; have d2 := (hS.cell (p := ⟨u2.heap.size, 0, none⟩) z7).trans c7; have d3 := (hS.cell (p := ⟨u3.heap.size, 0, none⟩) z9).trans c9
          simp at hn
          refine ⟨82, false, rfl, hn.2, ?_⟩
          rw [if_pos rfl]
          go_simp
          exact ⟨Below.refl _ _, rfl⟩
        apply slot_eq_h
        · intro ρ w' ⟨p1, p2, p3⟩ hS hn
          have d0 := (hS.cell (p := ⟨u1.heap.size, 0, none⟩) z5).trans c5; have d1 := (hS.cell (p := ⟨u1.heap.size + 1, 0, none⟩) z6).trans c6; have d2 := (hS.cell (p := ⟨u2.heap.size, 0, none⟩) z7).trans c7; have d3 := (hS.cell (p := ⟨u3.heap.size, 0, none⟩) z9).trans c9
          simp at hn
          refine ⟨82, false, rfl, hn.2, ?_⟩
          rw [if_pos rfl]
          go_simp
          exact ⟨Below.refl _ _, rfl⟩
        apply slot_eq_h
        · intro ρ w' ⟨p1, p2, p3⟩ hS hn
          have d0 := (hS.cell (p := ⟨u1.heap.size, 0, none⟩) z5).trans c5; have d1 := (hS.cell (p := ⟨u1.heap.size + 1, 0, none⟩) z6).trans c6; have d2 := (hS.cell (p := ⟨u2.heap.size, 0, none⟩) z7).trans c7; have d3 := (hS.cell (p := ⟨u3.heap.size, 0, none⟩) z9).trans c9
          simp at hn
          refine ⟨82, false, rfl, hn.2, ?_⟩
          rw [if_pos rfl]
          go_simp
          exact ⟨Below.refl _ _, rfl⟩
        apply slot_eq_h
        · intro ρ w' ⟨p1, p2, p3⟩ hS hn
          simp at hn
          exact ⟨85, true, rfl, hn, by rw [if_neg (by simp)]; exact ⟨Below.refl _ _, rfl⟩⟩
        apply slot_eq_h
        · intro ρ w' ⟨p1, p2, p3⟩ hS hn
          simp at hn
          exact ⟨85, true, rfl, hn, by rw [if_neg (by simp)]; exact ⟨Below.refl _ _, rfl⟩⟩
        apply slot_eq_h
        · intro ρ w' ⟨p1, p2, p3⟩ hS hn
          have d0 := (hS.cell (p := ⟨u1.heap.size, 0, none⟩) z5).trans c5; have d1 := (hS.cell (p := ⟨u1.heap.size + 1, 0, none⟩) z6).trans c6; have d2 := (hS.cell (p := ⟨u2.heap.size, 0, none⟩) z7).trans c7; have d3 := (hS.cell (p := ⟨u3.heap.size, 0, none⟩) z9).trans c9
          simp at hn
          refine ⟨82, false, rfl, hn.2.2, ?_⟩
          rw [if_pos rfl]
          go_simp
          exact ⟨Below.refl _ _, rfl⟩
        apply slot_eq_h
        · intro ρ w' ⟨p1, p2, p3⟩ hS hn
          have d0 := (hS.cell (p := ⟨u1.heap.size, 0, none⟩) z5).trans c5; have d1 := (hS.cell (p := ⟨u1.heap.size + 1, 0, none⟩) z6).trans c6; have d2 := (hS.cell (p := ⟨u2.heap.size, 0, none⟩) z7).trans c7; have d3 := (hS.cell (p := ⟨u3.heap.size, 0, none⟩) z9).trans c9
          simp at hn
          refine ⟨82, false, rfl, hn.2, ?_⟩
          rw [if_pos rfl]
          go_simp
          exact ⟨Below.refl _ _, rfl⟩
        apply slot_eq_h
        · intro ρ w' ⟨p1, p2, p3⟩ hS hn
          have d0 := (hS.cell (p := ⟨u1.heap.size, 0, none⟩) z5).trans c5; have d1 := (hS.cell (p := ⟨u1.heap.size + 1, 0, none⟩) z6).trans c6; have d2 := (hS.cell (p := ⟨u2.heap.size, 0, none⟩) z7).trans c7; have d3 := (hS.cell (p := ⟨u3.heap.size, 0, none⟩) z9).trans c9
          simp at hn
          refine ⟨82, false, rfl, hn.2, ?_⟩
          rw [if_pos rfl]
          go_simp
          exact ⟨Below.refl _ _, rfl⟩
        apply slot_eq_h
        · intro ρ w' ⟨p1, p2, p3⟩ hS hn
          have d0 := (hS.cell (p := ⟨u1.heap.size, 0, none⟩) z5).trans c5; have d1 := (hS.cell (p := ⟨u1.heap.size + 1, 0, none⟩) z6).trans c6; have d2 := (hS.cell (p := ⟨u2.heap.size, 0, none⟩) z7).trans c7; have d3 := (hS.cell (p := ⟨u3.heap.size, 0, none⟩) z9).trans c9
          simp at hn
          refine ⟨82, false, rfl, hn.2, ?_⟩
          rw [if_pos rfl]
          go_simp
          exact ⟨Below.refl _ _, rfl⟩
        apply slot_eq_h
        · intro ρ w' ⟨p1, p2, p3⟩ hS hn
          have d0 := (hS.cell (p := ⟨u1.heap.size, 0, none⟩) z5).trans c5; have d1 := (hS.cell (p := ⟨u1.heap.size + 1, 0, none⟩) z6).trans c6; have d2 := (hS.cell (p := ⟨u2.heap.size, 0, none⟩) z7).trans c7; have d3 := (hS.cell (p := ⟨u3.heap.size, 0, none⟩) z9).trans c9
          simp at hn
          refine ⟨82, false, rfl, hn.2, ?_⟩
          rw [if_pos rfl]
          go_simp
          exact ⟨Below.refl _ _, rfl⟩
        apply slot_eq_h
        · intro ρ w' ⟨p1, p2, p3⟩ hS hn
          have d0 := (hS.cell (p := ⟨u1.heap.size, 0, none⟩) z5).trans c5; have d1 := (hS.cell (p := ⟨u1.heap.size + 1, 0, none⟩) z6).trans c6; have d2 := (hS.cell (p := ⟨u2.heap.size, 0, none⟩) z7).trans c7; have d3 := (hS.cell (p := ⟨u3.heap.size, 0, none⟩) z9).trans c9
          simp at hn
          refine ⟨82, false, rfl, hn.2.2, ?_⟩
          rw [if_pos rfl]
          go_simp
          exact got_call (KD'.out _ (HJ.out.below hS) (HBB.out.below hS)) fun e w'' ⟨he, hb⟩ => ⟨_, he, hb, rfl⟩
        apply slot_eq_h
        · intro ρ w' ⟨p1, p2, p3⟩ hS hn
          have d0 := (hS.cell (p := ⟨u1.heap.size, 0, none⟩) z5).trans c5; have d1 := (hS.cell (p := ⟨u1.heap.size + 1, 0, none⟩) z6).trans c6; have d2 := (hS.cell (p := ⟨u2.heap.size, 0, none⟩) z7).trans c7; have d3 := (hS.cell (p := ⟨u3.heap.size, 0, none⟩) z9).trans c9
          simp at hn
          refine ⟨82, false, rfl, hn.2.2, ?_⟩
          rw [if_pos rfl]
          go_simp
          exact ⟨Below.refl _ _, rfl⟩
        apply slot_eq_h
        · intro ρ w' ⟨p1, p2, p3⟩ hS hn
          have d0 := (hS.cell (p := ⟨u1.heap.size, 0, none⟩) z5).trans c5; have d1 := (hS.cell (p := ⟨u1.heap.size + 1, 0, none⟩) z6).trans c6; have d2 := (hS.cell (p := ⟨u2.heap.size, 0, none⟩) z7).trans c7; have d3 := (hS.cell (p := ⟨u3.heap.size, 0, none⟩) z9).trans c9
          simp at hn
          go_simp
          exact ⟨Below.refl _ _, rfl⟩
        apply slot_eq_h
        · intro ρ w' ⟨p1, p2, p3⟩ hS hn
          have d0 := (hS.cell (p := ⟨u1.heap.size, 0, none⟩) z5).trans c5; have d1 := (hS.cell (p := ⟨u1.heap.size + 1, 0, none⟩) z6).trans c6; have d2 := (hS.cell (p := ⟨u2.heap.size, 0, none⟩) z7).trans c7; have d3 := (hS.cell (p := ⟨u3.heap.size, 0, none⟩) z9).trans c9
          simp at hn
          go_simp
          exact ⟨Below.refl _ _, rfl⟩
        apply slot_eq_h
        · intro ρ w' ⟨p1, p2, p3⟩ hS hn
          have d0 := (hS.cell (p := ⟨u1.heap.size, 0, none⟩) z5).trans c5; have d1 := (hS.cell (p := ⟨u1.heap.size + 1, 0, none⟩) z6).trans c6; have d2 := (hS.cell (p := ⟨u2.heap.size, 0, none⟩) z7).trans c7; have d3 := (hS.cell (p := ⟨u3.heap.size, 0, none⟩) z9).trans c9
          simp at hn
          refine ⟨96, false, rfl, hn.2, ?_⟩
          rw [if_pos rfl]
          go_simp
          exact ⟨Below.refl _ _, rfl⟩
        apply slot_eq_h
        · intro ρ w' ⟨p1, p2, p3⟩ hS hn
          have d0 := (hS.cell (p := ⟨u1.heap.size, 0, none⟩) z5).trans c5; have d1 := (hS.cell (p := ⟨u1.heap.size + 1, 0, none⟩) z6).trans c6; have d2 := (hS.cell (p := ⟨u2.heap.size, 0, none⟩) z7).trans c7; have d3 := (hS.cell (p := ⟨u3.heap.size, 0, none⟩) z9).trans c9
          simp at hn
          refine ⟨96, false, rfl, hn.2, ?_⟩
          rw [if_pos rfl]
          go_simp
          exact ⟨Below.refl _ _, rfl⟩
        apply slot_eq_h
        · intro ρ w' ⟨p1, p2, p3⟩ hS hn
          have d0 := (hS.cell (p := ⟨u1.heap.size, 0, none⟩) z5).trans c5; have d1 := (hS.cell (p := ⟨u1.heap.size + 1, 0, none⟩) z6).trans c6; have d2 := (hS.cell (p := ⟨u2.heap.size, 0, none⟩) z7).trans c7; have d3 := (hS.cell (p := ⟨u3.heap.size, 0, none⟩) z9).trans c9
          simp at hn
          refine ⟨96, false, rfl, hn.2, ?_⟩
          rw [if_pos rfl]
          go_simp
          exact ⟨Below.refl _ _, rfl⟩
        apply slot_eq_h
        · intro ρ w' ⟨p1, p2, p3⟩ hS hn
          have d0 := (hS.cell (p := ⟨u1.heap.size, 0, none⟩) z5).trans c5; have d1 := (hS.cell (p := ⟨u1.heap.size + 1, 0, none⟩) z6).trans c6; have d2 := (hS.cell (p := ⟨u2.heap.size, 0, none⟩) z7).trans c7; have d3 := (hS.cell (p := ⟨u3.heap.size, 0, none⟩) z9).trans c9
          simp at hn
          refine ⟨96, false, rfl, hn.2, ?_⟩
          rw [if_pos rfl]
          go_simp
          exact ⟨Below.refl _ _, rfl⟩
        apply slot_eq_h
        · intro ρ w' ⟨p1, p2, p3⟩ hS hn
          have d0 := (hS.cell (p := ⟨u1.heap.size, 0, none⟩) z5).trans c5; have d1 := (hS.cell (p := ⟨u1.heap.size + 1, 0, none⟩) z6).trans c6; have d2 := (hS.cell (p := ⟨u2.heap.size, 0, none⟩) z7).trans c7; have d3 := (hS.cell (p := ⟨u3.heap.size, 0, none⟩) z9).trans c9
          simp at hn
          refine ⟨96, false, rfl, hn.2.2, ?_⟩
          rw [if_pos rfl]
          go_simp
          exact ⟨Below.refl _ _, rfl⟩
        apply slot_eq_h
        · intro ρ w' ⟨p1, p2, p3⟩ hS hn
          have d0 := (hS.cell (p := ⟨u1.heap.size, 0, none⟩) z5).trans c5; have d1 := (hS.cell (p := ⟨u1.heap.size + 1, 0, none⟩) z6).trans c6; have d2 := (hS.cell (p := ⟨u2.heap.size, 0, none⟩) z7).trans c7; have d3 := (hS.cell (p := ⟨u3.heap.size, 0, none⟩) z9).trans c9
          simp at hn
          go_simp
          exact ⟨Below.refl _ _, rfl⟩
        apply slot_eq_h
        · intro ρ w' ⟨p1, p2, p3⟩ hS hn
          have d0 := (hS.cell (p := ⟨u1.heap.size, 0, none⟩) z5).trans c5; have d1 := (hS.cell (p := ⟨u1.heap.size + 1, 0, none⟩) z6).trans c6; have d2 := (hS.cell (p := ⟨u2.heap.size, 0, none⟩) z7).trans c7; have d3 := (hS.cell (p := ⟨u3.heap.size, 0, none⟩) z9).trans c9
          simp at hn
          go_simp
          exact ⟨Below.refl _ _, rfl⟩
        apply slot_eq_h
        · intro ρ w' ⟨p1, p2, p3⟩ hS hn
          have d0 := (hS.cell (p := ⟨u1.heap.size, 0, none⟩) z5).trans c5; have d1 := (hS.cell (p := ⟨u1.heap.size + 1, 0, none⟩) z6).trans c6; have d2 := (hS.cell (p := ⟨u2.heap.size, 0, none⟩) z7).trans c7; have d3 := (hS.cell (p := ⟨u3.heap.size, 0, none⟩) z9).trans c9
          simp at hn
          refine ⟨103, false, rfl, hn.2, ?_⟩
          rw [if_pos rfl]
          go_simp
          exact ⟨Below.refl _ _, rfl⟩
        apply slot_eq_h
        · intro ρ w' ⟨p1, p2, p3⟩ hS hn
          have d0 := (hS.cell (p := ⟨u1.heap.size, 0, none⟩) z5).trans c5; have d1 := (hS.cell (p := ⟨u1.heap.size + 1, 0, none⟩) z6).trans c6; have d2 := (hS.cell (p := ⟨u2.heap.size, 0, none⟩) z7).trans c7; have d3 := (hS.cell (p := ⟨u3.heap.size, 0, none⟩) z9).trans c9
          simp at hn
          refine ⟨103, false, rfl, hn.2, ?_⟩
          rw [if_pos rfl]
          go_simp
          exact ⟨Below.refl _ _, rfl⟩
        apply slot_eq_h
        · intro ρ w' ⟨p1, p2, p3⟩ hS hn
          have d0 := (hS.cell (p := ⟨u1.heap.size, 0, none⟩) z5).trans c5; have d1 := (hS.cell (p := ⟨u1.heap.size + 1, 0, none⟩) z6).trans c6; have d2 := (hS.cell (p := ⟨u2.heap.size, 0, none⟩) z7).trans c7; have d3 := (hS.cell (p := ⟨u3.heap.size, 0, none⟩) z9).trans c9
          simp at hn
          refine ⟨103, false, rfl, hn.2, ?_⟩
          rw [if_pos rfl]
          go_simp
          exact ⟨Below.refl _ _, rfl⟩
        apply slot_eq_h
        · intro ρ w' ⟨p1, p2, p3⟩ hS hn
          have d0 := (hS.cell (p := ⟨u1.heap.size, 0, none⟩) z5).trans c5; have d1 := (hS.cell (p := ⟨u1.heap.size + 1, 0, none⟩) z6).trans c6; have d2 := (hS.cell (p := ⟨u2.heap.size, 0, none⟩) z7).trans c7; have d3 := (hS.cell (p := ⟨u3.heap.size, 0, none⟩) z9).trans c9
          simp at hn
          refine ⟨103, false, rfl, hn.2, ?_⟩
          rw [if_pos rfl]
          go_simp
          exact ⟨Below.refl _ _, rfl⟩
        apply slot_eq_h
        · intro ρ w' ⟨p1, p2, p3⟩ hS hn
          have d0 := (hS.cell (p := ⟨u1.heap.size, 0, none⟩) z5).trans c5; have d1 := (hS.cell (p := ⟨u1.heap.size + 1, 0, none⟩) z6).trans c6; have d2 := (hS.cell (p := ⟨u2.heap.size, 0, none⟩) z7).trans c7; have d3 := (hS.cell (p := ⟨u3.heap.size, 0, none⟩) z9).trans c9
          simp at hn
          refine ⟨103, false, rfl, hn.2.2, ?_⟩
          rw [if_pos rfl]
          go_simp
          exact ⟨Below.refl _ _, rfl⟩
        apply slot_eq_h
        · intro ρ w' ⟨p1, p2, p3⟩ hS hn
          have d0 := (hS.cell (p := ⟨u1.heap.size, 0, none⟩) z5).trans c5; have d1 := (hS.cell (p := ⟨u1.heap.size + 1, 0, none⟩) z6).trans c6; have d2 := (hS.cell (p := ⟨u2.heap.size, 0, none⟩) z7).trans c7; have d3 := (hS.cell (p := ⟨u3.heap.size, 0, none⟩) z9).trans c9
          simp at hn
          go_simp
          exact ⟨Below.refl _ _, rfl⟩
        refine slot_end_h ?_
        rintro vs u19 hS hF
        simp at hF
        obtain ⟨f109, f108, f107, f106, f105, f104, f103, f102, f101, f100, f99, f98, f97, f96, f95, f94, f93, f92, f91, f90, f89, f88, f87, f86, f85, f84, f83, f82, f81, f80, ⟨g79, q79, f79, -⟩, ⟨g78, q78, f78, -⟩, f77, f76, f75, f74⟩ := hF
        simp only [List.take_succ_cons, List.take_zero, List.drop_succ_cons, List.drop_zero, putAll, f109, f108, f107, f106, f105, f104, f103, f102, f101, f100, f99, f98, f97, f96, f95, f94, f93, f92, f91, f90, f89, f88, f87, f86, f85, f84, f83, f82, f81, f80, f79, f78, f77, f76, f75, f74]
        clear f109 f108 f107 f106 f105 f104 f103 f102 f101 f100 f99 f98 f97 f96 f95 f94 f93 f92 f91 f90 f89 f88 f87 f86 f85 f84 f83 f82 f81 f80 f79 f78 f77 f76 f75 f74
        simp only [Act.put, List.setIfInBounds_toArray, List.set_cons_succ, List.set_cons_zero]
        replace c5 := (hS.cell (p := ⟨u1.heap.size, 0, none⟩) z5).trans c5
        replace z5 := Nat.lt_of_lt_of_le z5 hS.size
        replace c6 := (hS.cell (p := ⟨u1.heap.size + 1, 0, none⟩) z6).trans c6
        replace z6 := Nat.lt_of_lt_of_le z6 hS.size
        replace c7 := (hS.cell (p := ⟨u2.heap.size, 0, none⟩) z7).trans c7
        replace z7 := Nat.lt_of_lt_of_le z7 hS.size
        replace c9 := (hS.cell (p := ⟨u3.heap.size, 0, none⟩) z9).trans c9
        replace z9 := Nat.lt_of_lt_of_le z9 hS.size
        replace HA := Lib.hid (HA.out.below hS)
        replace HBB := Lib.hid (HBB.out.below hS)
        replace HC := Lib.hid (HC.out.below hS)
        replace HJ := Lib.hid (HJ.out.below hS)
        replace HB := Lib.hid (below_step HB.out HB.out.size hS)
        clear hS
        clear KD' KJ2 hb0 hb1 hb2 hy1 hy2 KOA KOB
        obtain ⟨K, hK⟩ : ∃ K, K = tickV C si := ⟨_, rfl⟩
        obtain ⟨oK, hoK⟩ : ∃ o, o = tickOk C si := ⟨_, rfl⟩
        have hK4 : K.length ≤ 4 := by rw [hK]; exact tickV_few _ _
        have PK := Lib.hid hK
        have POK := Lib.hid hoK
        clear hK hoK
        have KT : Hid (∀ W, IsIs W ac C → Calls Try.prog 14 #[vecV ac C.length cc, .int .i64 si] W fun e w' => ∃ g cp, e = .returned (.tuple #[vecV g K.length cp, .bool oK]) ∧ OwnI w' W.heap.size w'.heap.size g K ∧ Below W.heap.size W w') := fun W h1 => by
          rw [PK.out, POK.out]
          exact implVecTick_any _ _ _ C si W rfl hmC h1
        go_wp2_with fail
        refine (KT.out _ HC.out).mono ?_
        rintro e u20 ⟨ak, ck, rfl, ho, hb⟩
        replace c5 := (hb.cell (p := ⟨u1.heap.size, 0, none⟩) z5).trans c5
        replace z5 := Nat.lt_of_lt_of_le z5 hb.size
        replace c6 := (hb.cell (p := ⟨u1.heap.size + 1, 0, none⟩) z6).trans c6
        replace z6 := Nat.lt_of_lt_of_le z6 hb.size
        replace c7 := (hb.cell (p := ⟨u2.heap.size, 0, none⟩) z7).trans c7
        replace z7 := Nat.lt_of_lt_of_le z7 hb.size
        replace c9 := (hb.cell (p := ⟨u3.heap.size, 0, none⟩) z9).trans c9
        replace z9 := Nat.lt_of_lt_of_le z9 hb.size
        replace HA := Lib.hid (HA.out.below hb)
        replace HBB := Lib.hid (HBB.out.below hb)
        replace HC := Lib.hid (HC.out.below hb)
        replace HJ := Lib.hid (HJ.out.below hb)
        replace HB := Lib.hid (below_step HB.out HB.out.size hb)
        have HK := Lib.hid ho.isIs
        clear ho KT
        clear hb
        go_wp2_with fail
        have hA : Below u20.heap.size u20 (u20.alloc (.cells #[.slice ak K.length ck] 26)) := (Below.refl _ _).alloc (Nat.le_refl _) _
        replace c5 := (hA.cell (p := ⟨u1.heap.size, 0, none⟩) z5).trans c5
        replace z5 := Nat.lt_of_lt_of_le z5 hA.size
        replace c6 := (hA.cell (p := ⟨u1.heap.size + 1, 0, none⟩) z6).trans c6
        replace z6 := Nat.lt_of_lt_of_le z6 hA.size
        replace c7 := (hA.cell (p := ⟨u2.heap.size, 0, none⟩) z7).trans c7
        replace z7 := Nat.lt_of_lt_of_le z7 hA.size
        replace c9 := (hA.cell (p := ⟨u3.heap.size, 0, none⟩) z9).trans c9
        replace z9 := Nat.lt_of_lt_of_le z9 hA.size
        replace HA := Lib.hid (HA.out.below hA)
        replace HBB := Lib.hid (HBB.out.below hA)
        replace HC := Lib.hid (HC.out.below hA)
        replace HJ := Lib.hid (HJ.out.below hA)
        replace HK := Lib.hid (HK.out.below hA)
        replace HB := Lib.hid (below_step HB.out HB.out.size hA)
        clear hA
        have c12 : (u20.alloc (.cells #[.slice ak K.length ck] 26)).cell? ⟨u20.heap.size, 0, none⟩ = some (.slice ak K.length ck) := by go_simp
        have z12 : u20.heap.size < (u20.alloc (.cells #[.slice ak K.length ck] 26)).heap.size := by simp
        generalize (u20.alloc (.cells #[.slice ak K.length ck] 26)) = V4 at *
        cases oK
        · skip
          have g0 := aft_cell z5 c5
          have g1 := aft_cell z6 c6
          have g2 := aft_cell z7 c7
          have g3 := aft_cell z9 c9
          have g4 := aft_cell z12 c12
          have ne := aft_some V4
          refine wp_region_aft (by kernel_rfl) (by kernel_rfl) ?_
          repeat (first | go_big_quiet_step (fail))
          refine wpQuiet_nil ?_
          intro u21 hq
          clear ne g0 g1 g2 g3 g4
          replace c5 := (hq.cell (p := ⟨u1.heap.size, 0, none⟩) z5).trans c5
          replace z5 := Nat.lt_of_lt_of_le z5 hq.size
          replace c6 := (hq.cell (p := ⟨u1.heap.size + 1, 0, none⟩) z6).trans c6
          replace z6 := Nat.lt_of_lt_of_le z6 hq.size
          replace c7 := (hq.cell (p := ⟨u2.heap.size, 0, none⟩) z7).trans c7
          replace z7 := Nat.lt_of_lt_of_le z7 hq.size
          replace c9 := (hq.cell (p := ⟨u3.heap.size, 0, none⟩) z9).trans c9
          replace z9 := Nat.lt_of_lt_of_le z9 hq.size
          replace c12 := (hq.cell (p := ⟨u20.heap.size, 0, none⟩) z12).trans c12
          replace z12 := Nat.lt_of_lt_of_le z12 hq.size
          replace HA := Lib.hid (HA.out.below hq)
          replace HBB := Lib.hid (HBB.out.below hq)
          replace HC := Lib.hid (HC.out.below hq)
          replace HJ := Lib.hid (HJ.out.below hq)
          replace HK := Lib.hid (HK.out.below hq)
          replace HB := Lib.hid (below_step HB.out HB.out.size hq)
          clear hq
          go_wp2_with fail
          cases oC
          · skip
            refine wp_region_slotsH 16 [[(7, false)], [(137, true)], [(138, true)], [(139, true)], [(140, true)], [(140, true)], [(140, true)], [(140, true)], [(140, true)], [(140, true)], [(140, true)], [(140, true)], [(140, true)], [(140, true)], [(140, true)], [(140, true), (151, true)]] (fun w' => Below u21.heap.size u21 w') (fun w w' => Below w.heap.size w w') (by kernel_rfl) (by kernel_rfl) (by rfl) (Below.refl _ _).drew (fun _ _ h hb => below_step h h.size hb) ?_
            apply slot_eq_h
            · intro ρ w' ⟨p1, p2, p3⟩ hS hn
              have d0 := (hS.cell (p := ⟨u1.heap.size, 0, none⟩) z5).trans c5; have d1 := (hS.cell (p := ⟨u1.heap.size + 1, 0, none⟩) z6).trans c6; have d2 := (hS.cell (p := ⟨u2.heap.size, 0, none⟩) z7).trans c7; have d3 := (hS.cell (p := ⟨u3.heap.size, 0, none⟩) z9).trans c9; have d4 := (hS.cell (p := ⟨u20.heap.size, 0, none⟩) z12).trans c12
              simp at hn
              go_simp
              exact ⟨Below.refl _ _, rfl⟩
            apply slot_eq_h
            · intro ρ w' ⟨p1, p2, p3⟩ hS hn
              have d0 := (hS.cell (p := ⟨u1.heap.size, 0, none⟩) z5).trans c5; have d1 := (hS.cell (p := ⟨u1.heap.size + 1, 0, none⟩) z6).trans c6; have d2 := (hS.cell (p := ⟨u2.heap.size, 0, none⟩) z7).trans c7; have d3 := (hS.cell (p := ⟨u3.heap.size, 0, none⟩) z9).trans c9; have d4 := (hS.cell (p := ⟨u20.heap.size, 0, none⟩) z12).trans c12
              simp at hn
              go_simp
              exact got_call (KOC.out _ (HC.out.below hS)) fun e w'' ⟨he, hb⟩ => ⟨_, he, hb, rfl⟩
            apply slot_eq_h
            · intro ρ w' ⟨p1, p2, p3⟩ hS hn
              have d0 := (hS.cell (p := ⟨u1.heap.size, 0, none⟩) z5).trans c5; have d1 := (hS.cell (p := ⟨u1.heap.size + 1, 0, none⟩) z6).trans c6; have d2 := (hS.cell (p := ⟨u2.heap.size, 0, none⟩) z7).trans c7; have d3 := (hS.cell (p := ⟨u3.heap.size, 0, none⟩) z9).trans c9; have d4 := (hS.cell (p := ⟨u20.heap.size, 0, none⟩) z12).trans c12
              simp at hn
              go_simp
              exact ⟨Below.refl _ _, rfl⟩
            apply slot_eq_h
            · intro ρ w' ⟨p1, p2, p3⟩ hS hn
              have d0 := (hS.cell (p := ⟨u1.heap.size, 0, none⟩) z5).trans c5; have d1 := (hS.cell (p := ⟨u1.heap.size + 1, 0, none⟩) z6).trans c6; have d2 := (hS.cell (p := ⟨u2.heap.size, 0, none⟩) z7).trans c7; have d3 := (hS.cell (p := ⟨u3.heap.size, 0, none⟩) z9).trans c9; have d4 := (hS.cell (p := ⟨u20.heap.size, 0, none⟩) z12).trans c12
              simp at hn
              go_simp
              exact ⟨Below.refl _ _, rfl⟩
            apply slot_eq_h
            · intro ρ w' ⟨p1, p2, p3⟩ hS hn
              simp at hn
              exact ⟨140, true, rfl, hn, by rw [if_neg (by simp)]; exact ⟨Below.refl _ _, rfl⟩⟩
            apply slot_eq_h
            · intro ρ w' ⟨p1, p2, p3⟩ hS hn
              simp at hn
              exact ⟨140, true, rfl, hn, by rw [if_neg (by simp)]; exact ⟨Below.refl _ _, rfl⟩⟩
            apply slot_eq_h
            · intro ρ w' ⟨p1, p2, p3⟩ hS hn
              simp at hn
              exact ⟨140, true, rfl, hn, by rw [if_neg (by simp)]; exact ⟨Below.refl _ _, rfl⟩⟩
            apply slot_eq_h
            · intro ρ w' ⟨p1, p2, p3⟩ hS hn
              simp at hn
              exact ⟨140, true, rfl, hn, by rw [if_neg (by simp)]; exact ⟨Below.refl _ _, rfl⟩⟩
            apply slot_eq_h
            · intro ρ w' ⟨p1, p2, p3⟩ hS hn
              simp at hn
              exact ⟨140, true, rfl, hn, by rw [if_neg (by simp)]; exact ⟨Below.refl _ _, rfl⟩⟩
            apply slot_eq_h
            · intro ρ w' ⟨p1, p2, p3⟩ hS hn
              simp at hn
              exact ⟨140, true, rfl, hn, by rw [if_neg (by simp)]; exact ⟨Below.refl _ _, rfl⟩⟩
            apply slot_eq_h
            · intro ρ w' ⟨p1, p2, p3⟩ hS hn
              simp at hn
              exact ⟨140, true, rfl, hn, by rw [if_neg (by simp)]; exact ⟨Below.refl _ _, rfl⟩⟩
            apply slot_eq_h
            · intro ρ w' ⟨p1, p2, p3⟩ hS hn
              simp at hn
              exact ⟨140, true, rfl, hn, by rw [if_neg (by simp)]; exact ⟨Below.refl _ _, rfl⟩⟩
            apply slot_eq_h
            · intro ρ w' ⟨p1, p2, p3⟩ hS hn
              simp at hn
              exact ⟨140, true, rfl, hn, by rw [if_neg (by simp)]; exact ⟨Below.refl _ _, rfl⟩⟩
            apply slot_eq_h
            · intro ρ w' ⟨p1, p2, p3⟩ hS hn
              simp at hn
              exact ⟨140, true, rfl, hn, by rw [if_neg (by simp)]; exact ⟨Below.refl _ _, rfl⟩⟩
            apply slot_eq_h
            · intro ρ w' ⟨p1, p2, p3⟩ hS hn
              simp at hn
              exact ⟨140, true, rfl, hn, by rw [if_neg (by simp)]; exact ⟨Below.refl _ _, rfl⟩⟩
            apply slot_eq_h
            · intro ρ w' ⟨p1, p2, p3⟩ hS hn
              have d0 := (hS.cell (p := ⟨u1.heap.size, 0, none⟩) z5).trans c5; have d1 := (hS.cell (p := ⟨u1.heap.size + 1, 0, none⟩) z6).trans c6; have d2 := (hS.cell (p := ⟨u2.heap.size, 0, none⟩) z7).trans c7; have d3 := (hS.cell (p := ⟨u3.heap.size, 0, none⟩) z9).trans c9; have d4 := (hS.cell (p := ⟨u20.heap.size, 0, none⟩) z12).trans c12
              simp at hn
              go_simp
              exact ⟨Below.refl _ _, rfl⟩
            refine slot_end_h ?_
            rintro vs u22 hS hF
            simp at hF
            obtain ⟨f152, f151, f150, f149, f148, f147, f146, f145, f144, f143, f142, f141, f140, f139, f138, f137⟩ := hF
            simp only [List.take_succ_cons, List.take_zero, List.drop_succ_cons, List.drop_zero, putAll, f152, f151, f150, f149, f148, f147, f146, f145, f144, f143, f142, f141, f140, f139, f138, f137]
            clear f152 f151 f150 f149 f148 f147 f146 f145 f144 f143 f142 f141 f140 f139 f138 f137
            simp only [Act.put, List.setIfInBounds_toArray, List.set_cons_succ, List.set_cons_zero]
            replace c5 := (hS.cell (p := ⟨u1.heap.size, 0, none⟩) z5).trans c5
            replace z5 := Nat.lt_of_lt_of_le z5 hS.size
            replace c6 := (hS.cell (p := ⟨u1.heap.size + 1, 0, none⟩) z6).trans c6
            replace z6 := Nat.lt_of_lt_of_le z6 hS.size
            replace c7 := (hS.cell (p := ⟨u2.heap.size, 0, none⟩) z7).trans c7
            replace z7 := Nat.lt_of_lt_of_le z7 hS.size
            replace c9 := (hS.cell (p := ⟨u3.heap.size, 0, none⟩) z9).trans c9
            replace z9 := Nat.lt_of_lt_of_le z9 hS.size
            replace c12 := (hS.cell (p := ⟨u20.heap.size, 0, none⟩) z12).trans c12
            replace z12 := Nat.lt_of_lt_of_le z12 hS.size
            replace HA := Lib.hid (HA.out.below hS)
            replace HBB := Lib.hid (HBB.out.below hS)
            replace HC := Lib.hid (HC.out.below hS)
            replace HJ := Lib.hid (HJ.out.below hS)
            replace HK := Lib.hid (HK.out.below hS)
            replace HB := Lib.hid (below_step HB.out HB.out.size hS)
            clear hS
            go_wp2
            go_ret
            exact ⟨rfl, HB.out⟩
          · skip
            obtain ⟨M, hM⟩ : ∃ M, M = joinV J C := ⟨_, rfl⟩
            obtain ⟨G, hG⟩ : ∃ G, G = joinV B C := ⟨_, rfl⟩
            have hM4 : M.length ≤ 4 := by rw [hM]; exact joinV_few _ _
            have hG4 : G.length ≤ 4 := by rw [hG]; exact joinV_few _ _
            have hAG : M = joinV A G := by
              rw [hM, hG, PJ.out]
              exact joinV_assoc HVA.out HVB.out POC.out.symm
            have K1 : Hid (∀ W a1 c1 a2 c2, IsIs W a1 J → IsIs W a2 C → Calls Try.prog 8 #[vecV a1 J.length c1, vecV a2 C.length c2] W fun e w' => ∃ g cp, e = .returned (vecV g M.length cp) ∧ OwnI w' W.heap.size w'.heap.size g M ∧ Below W.heap.size W w') := fun W a1 c1 a2 c2 h1 h2 => by
              rw [hM]
              exact implVecJoin_any _ _ _ _ _ _ J C W rfl (by unfold maxLen; omega) h1 rfl hmC h2
            have K2 : Hid (∀ W a1 c1 a2 c2, IsIs W a1 B → IsIs W a2 C → Calls Try.prog 8 #[vecV a1 B.length c1, vecV a2 C.length c2] W fun e w' => ∃ g cp, e = .returned (vecV g G.length cp) ∧ OwnI w' W.heap.size w'.heap.size g G ∧ Below W.heap.size W w') := fun W a1 c1 a2 c2 h1 h2 => by
              rw [hG]
              exact implVecJoin_any _ _ _ _ _ _ B C W rfl hmB h1 rfl hmC h2
            have K3 : Hid (∀ W a1 c1 a2 c2, IsIs W a1 A → IsIs W a2 G → Calls Try.prog 8 #[vecV a1 A.length c1, vecV a2 G.length c2] W fun e w' => ∃ g cp, e = .returned (vecV g M.length cp) ∧ OwnI w' W.heap.size w'.heap.size g M ∧ Below W.heap.size W w') := fun W a1 c1 a2 c2 h1 h2 => by
              rw [hAG]
              exact implVecJoin_any _ _ _ _ _ _ A G W rfl hmA h1 rfl (by unfold maxLen; omega) h2
            clear hM hG hAG
            refine wp_region_slotsH 16 [[(7, false)], [(137, true)], [(138, true)], [(139, true)], [(9, false), (140, true)], [(7, false), (140, true)], [(141, true), (142, true), (140, true)], [(143, true), (140, true)], [(5, false), (140, true)], [(6, false), (140, true)], [(7, false), (140, true)], [(146, true), (147, true), (140, true)], [(145, true), (148, true), (140, true)], [(149, true), (140, true)], [(144, true), (150, true), (140, true)], [(140, true), (151, true)]] (fun w' => Below u21.heap.size u21 w') (fun w w' => Below w.heap.size w w') (by kernel_rfl) (by kernel_rfl) (by rfl) (Below.refl _ _).drew (fun _ _ h hb => below_step h h.size hb) ?_
            apply slot_eq_h
            · intro ρ w' ⟨p1, p2, p3⟩ hS hn
              have d0 := (hS.cell (p := ⟨u1.heap.size, 0, none⟩) z5).trans c5; have d1 := (hS.cell (p := ⟨u1.heap.size + 1, 0, none⟩) z6).trans c6; have d2 := (hS.cell (p := ⟨u2.heap.size, 0, none⟩) z7).trans c7; have d3 := (hS.cell (p := ⟨u3.heap.size, 0, none⟩) z9).trans c9; have d4 := (hS.cell (p := ⟨u20.heap.size, 0, none⟩) z12).trans c12
              simp at hn
              go_simp
              exact ⟨Below.refl _ _, rfl⟩
            apply slot_eq_h
            · intro ρ w' ⟨p1, p2, p3⟩ hS hn
              have d0 := (hS.cell (p := ⟨u1.heap.size, 0, none⟩) z5).trans c5; have d1 := (hS.cell (p := ⟨u1.heap.size + 1, 0, none⟩) z6).trans c6; have d2 := (hS.cell (p := ⟨u2.heap.size, 0, none⟩) z7).trans c7; have d3 := (hS.cell (p := ⟨u3.heap.size, 0, none⟩) z9).trans c9; have d4 := (hS.cell (p := ⟨u20.heap.size, 0, none⟩) z12).trans c12
              simp at hn
              go_simp
              exact got_call (KOC.out _ (HC.out.below hS)) fun e w'' ⟨he, hb⟩ => ⟨_, he, hb, rfl⟩
            apply slot_eq_h
            · intro ρ w' ⟨p1, p2, p3⟩ hS hn
              have d0 := (hS.cell (p := ⟨u1.heap.size, 0, none⟩) z5).trans c5; have d1 := (hS.cell (p := ⟨u1.heap.size + 1, 0, none⟩) z6).trans c6; have d2 := (hS.cell (p := ⟨u2.heap.size, 0, none⟩) z7).trans c7; have d3 := (hS.cell (p := ⟨u3.heap.size, 0, none⟩) z9).trans c9; have d4 := (hS.cell (p := ⟨u20.heap.size, 0, none⟩) z12).trans c12
              simp at hn
              go_simp
              exact ⟨Below.refl _ _, rfl⟩
            apply slot_eq_h
            · intro ρ w' ⟨p1, p2, p3⟩ hS hn
              have d0 := (hS.cell (p := ⟨u1.heap.size, 0, none⟩) z5).trans c5; have d1 := (hS.cell (p := ⟨u1.heap.size + 1, 0, none⟩) z6).trans c6; have d2 := (hS.cell (p := ⟨u2.heap.size, 0, none⟩) z7).trans c7; have d3 := (hS.cell (p := ⟨u3.heap.size, 0, none⟩) z9).trans c9; have d4 := (hS.cell (p := ⟨u20.heap.size, 0, none⟩) z12).trans c12
              simp at hn
              go_simp
              exact ⟨Below.refl _ _, rfl⟩
            apply slot_eq_h
            · intro ρ w' ⟨p1, p2, p3⟩ hS hn
              have d0 := (hS.cell (p := ⟨u1.heap.size, 0, none⟩) z5).trans c5; have d1 := (hS.cell (p := ⟨u1.heap.size + 1, 0, none⟩) z6).trans c6; have d2 := (hS.cell (p := ⟨u2.heap.size, 0, none⟩) z7).trans c7; have d3 := (hS.cell (p := ⟨u3.heap.size, 0, none⟩) z9).trans c9; have d4 := (hS.cell (p := ⟨u20.heap.size, 0, none⟩) z12).trans c12
              simp at hn
              refine ⟨140, false, rfl, hn.2, ?_⟩
              rw [if_pos rfl]
              go_simp
              exact ⟨Below.refl _ _, rfl⟩
            apply slot_eq_h
            · intro ρ w' ⟨p1, p2, p3⟩ hS hn
              have d0 := (hS.cell (p := ⟨u1.heap.size, 0, none⟩) z5).trans c5; have d1 := (hS.cell (p := ⟨u1.heap.size + 1, 0, none⟩) z6).trans c6; have d2 := (hS.cell (p := ⟨u2.heap.size, 0, none⟩) z7).trans c7; have d3 := (hS.cell (p := ⟨u3.heap.size, 0, none⟩) z9).trans c9; have d4 := (hS.cell (p := ⟨u20.heap.size, 0, none⟩) z12).trans c12
              simp at hn
              refine ⟨140, false, rfl, hn.2, ?_⟩
              rw [if_pos rfl]
              go_simp
              exact ⟨Below.refl _ _, rfl⟩
            refine slot_fact_h (AnsC (M)) (lasts_ansC _) ?_ ?_
            · intro ρ w' ⟨p1, p2, p3⟩ hS hn
              simp at hn
              refine ⟨140, false, rfl, hn.2.2, ?_⟩
              rw [if_pos rfl]
              go_simp
              exact got_call (K1.out _ _ _ _ _ (HJ.out.below hS) (HC.out.below hS)) fun e w'' ⟨g, cp, he, ho, hb⟩ => ⟨_, he, hb, g, cp, rfl, ho.isIs⟩
            refine slot_fact_h (FldC M) (lasts_fldC _) ?_ ?_
            · intro ρ w' ⟨p1, p2, p3⟩ hS hn
              simp at hn
              refine ⟨140, false, rfl, hn.2, ?_⟩
              rw [if_pos rfl]
              obtain ⟨⟨g, cp, e1, h1⟩, e2⟩ := hn
              go_simp
              exact ⟨Below.refl _ _, g, cp, rfl, h1⟩
            apply slot_eq_h
            · intro ρ w' ⟨p1, p2, p3⟩ hS hn
              have d0 := (hS.cell (p := ⟨u1.heap.size, 0, none⟩) z5).trans c5; have d1 := (hS.cell (p := ⟨u1.heap.size + 1, 0, none⟩) z6).trans c6; have d2 := (hS.cell (p := ⟨u2.heap.size, 0, none⟩) z7).trans c7; have d3 := (hS.cell (p := ⟨u3.heap.size, 0, none⟩) z9).trans c9; have d4 := (hS.cell (p := ⟨u20.heap.size, 0, none⟩) z12).trans c12
              simp at hn
              refine ⟨140, false, rfl, hn.2, ?_⟩
              rw [if_pos rfl]
              go_simp
              exact ⟨Below.refl _ _, rfl⟩
            apply slot_eq_h
            · intro ρ w' ⟨p1, p2, p3⟩ hS hn
              have d0 := (hS.cell (p := ⟨u1.heap.size, 0, none⟩) z5).trans c5; have d1 := (hS.cell (p := ⟨u1.heap.size + 1, 0, none⟩) z6).trans c6; have d2 := (hS.cell (p := ⟨u2.heap.size, 0, none⟩) z7).trans c7; have d3 := (hS.cell (p := ⟨u3.heap.size, 0, none⟩) z9).trans c9; have d4 := (hS.cell (p := ⟨u20.heap.size, 0, none⟩) z12).trans c12
              simp at hn
              refine ⟨140, false, rfl, hn.2, ?_⟩
              rw [if_pos rfl]
              go_simp
              exact ⟨Below.refl _ _, rfl⟩
            apply slot_eq_h
            · intro ρ w' ⟨p1, p2, p3⟩ hS hn
              have d0 := (hS.cell (p := ⟨u1.heap.size, 0, none⟩) z5).trans c5; have d1 := (hS.cell (p := ⟨u1.heap.size + 1, 0, none⟩) z6).trans c6; have d2 := (hS.cell (p := ⟨u2.heap.size, 0, none⟩) z7).trans c7; have d3 := (hS.cell (p := ⟨u3.heap.size, 0, none⟩) z9).trans c9; have d4 := (hS.cell (p := ⟨u20.heap.size, 0, none⟩) z12).trans c12
              simp at hn
              refine ⟨140, false, rfl, hn.2, ?_⟩
              rw [if_pos rfl]
              go_simp
              exact ⟨Below.refl _ _, rfl⟩
            refine slot_fact_h (AnsC (G)) (lasts_ansC _) ?_ ?_
            · intro ρ w' ⟨p1, p2, p3⟩ hS hn
              simp at hn
              refine ⟨140, false, rfl, hn.2.2, ?_⟩
              rw [if_pos rfl]
              go_simp
              exact got_call (K2.out _ _ _ _ _ (HBB.out.below hS) (HC.out.below hS)) fun e w'' ⟨g, cp, he, ho, hb⟩ => ⟨_, he, hb, g, cp, rfl, ho.isIs⟩
            refine slot_fact_h (AnsC (M)) (lasts_ansC _) ?_ ?_
            · intro ρ w' ⟨p1, p2, p3⟩ hS hn
              simp at hn
              refine ⟨140, false, rfl, hn.2.2, ?_⟩
              rw [if_pos rfl]
              obtain ⟨e0, ⟨g, cp, e1, h1⟩, e2⟩ := hn
              go_simp
              exact got_call (K3.out _ _ _ _ _ (HA.out.below hS) h1) fun e w'' ⟨g, cp, he, ho, hb⟩ => ⟨_, he, hb, g, cp, rfl, ho.isIs⟩
            refine slot_fact_h (FldC M) (lasts_fldC _) ?_ ?_
            · intro ρ w' ⟨p1, p2, p3⟩ hS hn
              simp at hn
              refine ⟨140, false, rfl, hn.2, ?_⟩
              rw [if_pos rfl]
              obtain ⟨⟨g, cp, e1, h1⟩, e2⟩ := hn
              go_simp
              exact ⟨Below.refl _ _, g, cp, rfl, h1⟩
            apply slot_eq_h
            · intro ρ w' ⟨p1, p2, p3⟩ hS hn
              have d0 := (hS.cell (p := ⟨u1.heap.size, 0, none⟩) z5).trans c5; have d1 := (hS.cell (p := ⟨u1.heap.size + 1, 0, none⟩) z6).trans c6; have d2 := (hS.cell (p := ⟨u2.heap.size, 0, none⟩) z7).trans c7; have d3 := (hS.cell (p := ⟨u3.heap.size, 0, none⟩) z9).trans c9; have d4 := (hS.cell (p := ⟨u20.heap.size, 0, none⟩) z12).trans c12
              simp at hn
              refine ⟨140, false, rfl, hn.2.2, ?_⟩
              rw [if_pos rfl]
              obtain ⟨⟨g0, cp0, e0, h0⟩, ⟨g, cp, e1, h1⟩, e2⟩ := hn
              go_simp
              exact got_call (KE.out M _ _ _ _ _ hM4 h0 h1) fun e w'' ⟨he, hb⟩ => ⟨_, he, hb, rfl⟩
            apply slot_eq_h
            · intro ρ w' ⟨p1, p2, p3⟩ hS hn
              have d0 := (hS.cell (p := ⟨u1.heap.size, 0, none⟩) z5).trans c5; have d1 := (hS.cell (p := ⟨u1.heap.size + 1, 0, none⟩) z6).trans c6; have d2 := (hS.cell (p := ⟨u2.heap.size, 0, none⟩) z7).trans c7; have d3 := (hS.cell (p := ⟨u3.heap.size, 0, none⟩) z9).trans c9; have d4 := (hS.cell (p := ⟨u20.heap.size, 0, none⟩) z12).trans c12
              simp at hn
              go_simp
              exact ⟨Below.refl _ _, rfl⟩
            refine slot_end_h ?_
            rintro vs u23 hS hF
            simp at hF
            obtain ⟨f152, f151, ⟨g150, q150, f150, -⟩, ⟨g149, q149, f149, -⟩, ⟨g148, q148, f148, -⟩, f147, f146, f145, ⟨g144, q144, f144, -⟩, ⟨g143, q143, f143, -⟩, f142, f141, f140, f139, f138, f137⟩ := hF
            simp only [List.take_succ_cons, List.take_zero, List.drop_succ_cons, List.drop_zero, putAll, f152, f151, f150, f149, f148, f147, f146, f145, f144, f143, f142, f141, f140, f139, f138, f137]
            clear f152 f151 f150 f149 f148 f147 f146 f145 f144 f143 f142 f141 f140 f139 f138 f137
            simp only [Act.put, List.setIfInBounds_toArray, List.set_cons_succ, List.set_cons_zero]
            replace c5 := (hS.cell (p := ⟨u1.heap.size, 0, none⟩) z5).trans c5
            replace z5 := Nat.lt_of_lt_of_le z5 hS.size
            replace c6 := (hS.cell (p := ⟨u1.heap.size + 1, 0, none⟩) z6).trans c6
            replace z6 := Nat.lt_of_lt_of_le z6 hS.size
            replace c7 := (hS.cell (p := ⟨u2.heap.size, 0, none⟩) z7).trans c7
            replace z7 := Nat.lt_of_lt_of_le z7 hS.size
            replace c9 := (hS.cell (p := ⟨u3.heap.size, 0, none⟩) z9).trans c9
            replace z9 := Nat.lt_of_lt_of_le z9 hS.size
            replace c12 := (hS.cell (p := ⟨u20.heap.size, 0, none⟩) z12).trans c12
            replace z12 := Nat.lt_of_lt_of_le z12 hS.size
            replace HA := Lib.hid (HA.out.below hS)
            replace HBB := Lib.hid (HBB.out.below hS)
            replace HC := Lib.hid (HC.out.below hS)
            replace HJ := Lib.hid (HJ.out.below hS)
            replace HK := Lib.hid (HK.out.below hS)
            replace HB := Lib.hid (below_step HB.out HB.out.size hS)
            clear hS
            go_wp2
            go_ret
            exact ⟨rfl, HB.out⟩
        · skip
          obtain ⟨q, hq, hsi, hC4, hKl, hKq, hq0, hq1, hcmp⟩ := tickV_told POK.out.symm
          rw [← PK.out] at hKl hKq hcmp
          subst hsi
          have KV : Hid (∀ p : Aft V4.heap.size V4, Calls Try.prog 9 #[vecV ac C.length cc, vecV ak K.length ck] p.now fun e w' => e = .returned (.int .i64 (-1)) ∧ Below p.now.heap.size p.now w') := fun p => by
            rw [← hcmp]
            exact implVecCmp_any _ _ _ _ _ _ C K p.now rfl hmC (HC.out.below p.below) rfl (by unfold maxLen; omega) (HK.out.below p.below)
          obtain ⟨bc, oc, hae, hzc, ec⟩ := HC.out.at (Below.refl _ _) (show q < C.length by omega)
          obtain ⟨bk, ok, hke, hzk, ek⟩ := HK.out.at (Below.refl _ _) (show q < K.length by omega)
          rw [hKq] at ek
          generalize C.getD q 0 = X at *
          have i1 : (0 : Int) ≤ (q : Int) := by omega
          have i2 : (q : Int) < (C.length : Int) := by omega
          have i3 : (q : Int) < (K.length : Int) := by omega
          subst hae hke
          have gc := aft_cell hzc ec
          have gk := aft_cell hzk ek
          clear ec ek hzc hzk hC4 hKl hKq hcmp hq
          have g0 := aft_cell z5 c5
          have g1 := aft_cell z6 c6
          have g2 := aft_cell z7 c7
          have g3 := aft_cell z9 c9
          have g4 := aft_cell z12 c12
          have ne := aft_some V4
          refine wp_region_aft (by kernel_rfl) (by kernel_rfl) ?_
          repeat (first | go_big_quiet_step (first | (go_at_call 9; exact aft_of (KV.out _))))
          refine wpQuiet_nil ?_
          intro u24 hq
          clear ne g0 g1 g2 g3 g4 KV gc gk
          replace c5 := (hq.cell (p := ⟨u1.heap.size, 0, none⟩) z5).trans c5
          replace z5 := Nat.lt_of_lt_of_le z5 hq.size
          replace c6 := (hq.cell (p := ⟨u1.heap.size + 1, 0, none⟩) z6).trans c6
          replace z6 := Nat.lt_of_lt_of_le z6 hq.size
          replace c7 := (hq.cell (p := ⟨u2.heap.size, 0, none⟩) z7).trans c7
          replace z7 := Nat.lt_of_lt_of_le z7 hq.size
          replace c9 := (hq.cell (p := ⟨u3.heap.size, 0, none⟩) z9).trans c9
          replace z9 := Nat.lt_of_lt_of_le z9 hq.size
          replace c12 := (hq.cell (p := ⟨u20.heap.size, 0, none⟩) z12).trans c12
          replace z12 := Nat.lt_of_lt_of_le z12 hq.size
          replace HA := Lib.hid (HA.out.below hq)
          replace HBB := Lib.hid (HBB.out.below hq)
          replace HC := Lib.hid (HC.out.below hq)
          replace HJ := Lib.hid (HJ.out.below hq)
          replace HK := Lib.hid (HK.out.below hq)
          replace HB := Lib.hid (below_step HB.out HB.out.size hq)
          clear hq
          go_wp2_with fail
          cases oC
          · skip
            refine wp_region_slotsH 16 [[(7, false)], [(137, true)], [(138, true)], [(139, true)], [(140, true)], [(140, true)], [(140, true)], [(140, true)], [(140, true)], [(140, true)], [(140, true)], [(140, true)], [(140, true)], [(140, true)], [(140, true)], [(140, true), (151, true)]] (fun w' => Below u24.heap.size u24 w') (fun w w' => Below w.heap.size w w') (by kernel_rfl) (by kernel_rfl) (by rfl) (Below.refl _ _).drew (fun _ _ h hb => below_step h h.size hb) ?_
            apply slot_eq_h
            · intro ρ w' ⟨p1, p2, p3⟩ hS hn
              have d0 := (hS.cell (p := ⟨u1.heap.size, 0, none⟩) z5).trans c5; have d1 := (hS.cell (p := ⟨u1.heap.size + 1, 0, none⟩) z6).trans c6; have d2 := (hS.cell (p := ⟨u2.heap.size, 0, none⟩) z7).trans c7; have d3 := (hS.cell (p := ⟨u3.heap.size, 0, none⟩) z9).trans c9; have d4 := (hS.cell (p := ⟨u20.heap.size, 0, none⟩) z12).trans c12
              simp at hn
              go_simp
              exact ⟨Below.refl _ _, rfl⟩
            apply slot_eq_h
            · intro ρ w' ⟨p1, p2, p3⟩ hS hn
              have d0 := (hS.cell (p := ⟨u1.heap.size, 0, none⟩) z5).trans c5; have d1 := (hS.cell (p := ⟨u1.heap.size + 1, 0, none⟩) z6).trans c6; have d2 := (hS.cell (p := ⟨u2.heap.size, 0, none⟩) z7).trans c7; have d3 := (hS.cell (p := ⟨u3.heap.size, 0, none⟩) z9).trans c9; have d4 := (hS.cell (p := ⟨u20.heap.size, 0, none⟩) z12).trans c12
              simp at hn
              go_simp
              exact got_call (KOC.out _ (HC.out.below hS)) fun e w'' ⟨he, hb⟩ => ⟨_, he, hb, rfl⟩
            apply slot_eq_h
            · intro ρ w' ⟨p1, p2, p3⟩ hS hn
              have d0 := (hS.cell (p := ⟨u1.heap.size, 0, none⟩) z5).trans c5; have d1 := (hS.cell (p := ⟨u1.heap.size + 1, 0, none⟩) z6).trans c6; have d2 := (hS.cell (p := ⟨u2.heap.size, 0, none⟩) z7).trans c7; have d3 := (hS.cell (p := ⟨u3.heap.size, 0, none⟩) z9).trans c9; have d4 := (hS.cell (p := ⟨u20.heap.size, 0, none⟩) z12).trans c12
              simp at hn
              go_simp
              exact ⟨Below.refl _ _, rfl⟩
            apply slot_eq_h
            · intro ρ w' ⟨p1, p2, p3⟩ hS hn
              have d0 := (hS.cell (p := ⟨u1.heap.size, 0, none⟩) z5).trans c5; have d1 := (hS.cell (p := ⟨u1.heap.size + 1, 0, none⟩) z6).trans c6; have d2 := (hS.cell (p := ⟨u2.heap.size, 0, none⟩) z7).trans c7; have d3 := (hS.cell (p := ⟨u3.heap.size, 0, none⟩) z9).trans c9; have d4 := (hS.cell (p := ⟨u20.heap.size, 0, none⟩) z12).trans c12
              simp at hn
              go_simp
              exact ⟨Below.refl _ _, rfl⟩
            apply slot_eq_h
            · intro ρ w' ⟨p1, p2, p3⟩ hS hn
              simp at hn
              exact ⟨140, true, rfl, hn, by rw [if_neg (by simp)]; exact ⟨Below.refl _ _, rfl⟩⟩
            apply slot_eq_h
            · intro ρ w' ⟨p1, p2, p3⟩ hS hn
              simp at hn
              exact ⟨140, true, rfl, hn, by rw [if_neg (by simp)]; exact ⟨Below.refl _ _, rfl⟩⟩
            apply slot_eq_h
            · intro ρ w' ⟨p1, p2, p3⟩ hS hn
              simp at hn
              exact ⟨140, true, rfl, hn, by rw [if_neg (by simp)]; exact ⟨Below.refl _ _, rfl⟩⟩
            apply slot_eq_h
            · intro ρ w' ⟨p1, p2, p3⟩ hS hn
              simp at hn
              exact ⟨140, true, rfl, hn, by rw [if_neg (by simp)]; exact ⟨Below.refl _ _, rfl⟩⟩
            apply slot_eq_h
            · intro ρ w' ⟨p1, p2, p3⟩ hS hn
              simp at hn
              exact ⟨140, true, rfl, hn, by rw [if_neg (by simp)]; exact ⟨Below.refl _ _, rfl⟩⟩
            apply slot_eq_h
            · intro ρ w' ⟨p1, p2, p3⟩ hS hn
              simp at hn
              exact ⟨140, true, rfl, hn, by rw [if_neg (by simp)]; exact ⟨Below.refl _ _, rfl⟩⟩
            apply slot_eq_h
            · intro ρ w' ⟨p1, p2, p3⟩ hS hn
              simp at hn
              exact ⟨140, true, rfl, hn, by rw [if_neg (by simp)]; exact ⟨Below.refl _ _, rfl⟩⟩
            apply slot_eq_h
            · intro ρ w' ⟨p1, p2, p3⟩ hS hn
              simp at hn
              exact ⟨140, true, rfl, hn, by rw [if_neg (by simp)]; exact ⟨Below.refl _ _, rfl⟩⟩
            apply slot_eq_h
            · intro ρ w' ⟨p1, p2, p3⟩ hS hn
              simp at hn
              exact ⟨140, true, rfl, hn, by rw [if_neg (by simp)]; exact ⟨Below.refl _ _, rfl⟩⟩
            apply slot_eq_h
            · intro ρ w' ⟨p1, p2, p3⟩ hS hn
              simp at hn
              exact ⟨140, true, rfl, hn, by rw [if_neg (by simp)]; exact ⟨Below.refl _ _, rfl⟩⟩
            apply slot_eq_h
            · intro ρ w' ⟨p1, p2, p3⟩ hS hn
              simp at hn
              exact ⟨140, true, rfl, hn, by rw [if_neg (by simp)]; exact ⟨Below.refl _ _, rfl⟩⟩
            apply slot_eq_h
            · intro ρ w' ⟨p1, p2, p3⟩ hS hn
              have d0 := (hS.cell (p := ⟨u1.heap.size, 0, none⟩) z5).trans c5; have d1 := (hS.cell (p := ⟨u1.heap.size + 1, 0, none⟩) z6).trans c6; have d2 := (hS.cell (p := ⟨u2.heap.size, 0, none⟩) z7).trans c7; have d3 := (hS.cell (p := ⟨u3.heap.size, 0, none⟩) z9).trans c9; have d4 := (hS.cell (p := ⟨u20.heap.size, 0, none⟩) z12).trans c12
              simp at hn
              go_simp
              exact ⟨Below.refl _ _, rfl⟩
            refine slot_end_h ?_
            rintro vs u25 hS hF
            simp at hF
            obtain ⟨f152, f151, f150, f149, f148, f147, f146, f145, f144, f143, f142, f141, f140, f139, f138, f137⟩ := hF
            simp only [List.take_succ_cons, List.take_zero, List.drop_succ_cons, List.drop_zero, putAll, f152, f151, f150, f149, f148, f147, f146, f145, f144, f143, f142, f141, f140, f139, f138, f137]
            clear f152 f151 f150 f149 f148 f147 f146 f145 f144 f143 f142 f141 f140 f139 f138 f137
            simp only [Act.put, List.setIfInBounds_toArray, List.set_cons_succ, List.set_cons_zero]
            replace c5 := (hS.cell (p := ⟨u1.heap.size, 0, none⟩) z5).trans c5
            replace z5 := Nat.lt_of_lt_of_le z5 hS.size
            replace c6 := (hS.cell (p := ⟨u1.heap.size + 1, 0, none⟩) z6).trans c6
            replace z6 := Nat.lt_of_lt_of_le z6 hS.size
            replace c7 := (hS.cell (p := ⟨u2.heap.size, 0, none⟩) z7).trans c7
            replace z7 := Nat.lt_of_lt_of_le z7 hS.size
            replace c9 := (hS.cell (p := ⟨u3.heap.size, 0, none⟩) z9).trans c9
            replace z9 := Nat.lt_of_lt_of_le z9 hS.size
            replace c12 := (hS.cell (p := ⟨u20.heap.size, 0, none⟩) z12).trans c12
            replace z12 := Nat.lt_of_lt_of_le z12 hS.size
            replace HA := Lib.hid (HA.out.below hS)
            replace HBB := Lib.hid (HBB.out.below hS)
            replace HC := Lib.hid (HC.out.below hS)
            replace HJ := Lib.hid (HJ.out.below hS)
            replace HK := Lib.hid (HK.out.below hS)
            replace HB := Lib.hid (below_step HB.out HB.out.size hS)
            clear hS
            go_wp2
            go_ret
            exact ⟨rfl, HB.out⟩
          · skip
            obtain ⟨M, hM⟩ : ∃ M, M = joinV J C := ⟨_, rfl⟩
            obtain ⟨G, hG⟩ : ∃ G, G = joinV B C := ⟨_, rfl⟩
            have hM4 : M.length ≤ 4 := by rw [hM]; exact joinV_few _ _
            have hG4 : G.length ≤ 4 := by rw [hG]; exact joinV_few _ _
            have hAG : M = joinV A G := by
              rw [hM, hG, PJ.out]
              exact joinV_assoc HVA.out HVB.out POC.out.symm
            have K1 : Hid (∀ W a1 c1 a2 c2, IsIs W a1 J → IsIs W a2 C → Calls Try.prog 8 #[vecV a1 J.length c1, vecV a2 C.length c2] W fun e w' => ∃ g cp, e = .returned (vecV g M.length cp) ∧ OwnI w' W.heap.size w'.heap.size g M ∧ Below W.heap.size W w') := fun W a1 c1 a2 c2 h1 h2 => by
              rw [hM]
              exact implVecJoin_any _ _ _ _ _ _ J C W rfl (by unfold maxLen; omega) h1 rfl hmC h2
            have K2 : Hid (∀ W a1 c1 a2 c2, IsIs W a1 B → IsIs W a2 C → Calls Try.prog 8 #[vecV a1 B.length c1, vecV a2 C.length c2] W fun e w' => ∃ g cp, e = .returned (vecV g G.length cp) ∧ OwnI w' W.heap.size w'.heap.size g G ∧ Below W.heap.size W w') := fun W a1 c1 a2 c2 h1 h2 => by
              rw [hG]
              exact implVecJoin_any _ _ _ _ _ _ B C W rfl hmB h1 rfl hmC h2
            have K3 : Hid (∀ W a1 c1 a2 c2, IsIs W a1 A → IsIs W a2 G → Calls Try.prog 8 #[vecV a1 A.length c1, vecV a2 G.length c2] W fun e w' => ∃ g cp, e = .returned (vecV g M.length cp) ∧ OwnI w' W.heap.size w'.heap.size g M ∧ Below W.heap.size W w') := fun W a1 c1 a2 c2 h1 h2 => by
              rw [hAG]
              exact implVecJoin_any _ _ _ _ _ _ A G W rfl hmA h1 rfl (by unfold maxLen; omega) h2
            clear hM hG hAG
            refine wp_region_slotsH 16 [[(7, false)], [(137, true)], [(138, true)], [(139, true)], [(9, false), (140, true)], [(7, false), (140, true)], [(141, true), (142, true), (140, true)], [(143, true), (140, true)], [(5, false), (140, true)], [(6, false), (140, true)], [(7, false), (140, true)], [(146, true), (147, true), (140, true)], [(145, true), (148, true), (140, true)], [(149, true), (140, true)], [(144, true), (150, true), (140, true)], [(140, true), (151, true)]] (fun w' => Below u24.heap.size u24 w') (fun w w' => Below w.heap.size w w') (by kernel_rfl) (by kernel_rfl) (by rfl) (Below.refl _ _).drew (fun _ _ h hb => below_step h h.size hb) ?_
            apply slot_eq_h
            · intro ρ w' ⟨p1, p2, p3⟩ hS hn
              have d0 := (hS.cell (p := ⟨u1.heap.size, 0, none⟩) z5).trans c5; have d1 := (hS.cell (p := ⟨u1.heap.size + 1, 0, none⟩) z6).trans c6; have d2 := (hS.cell (p := ⟨u2.heap.size, 0, none⟩) z7).trans c7; have d3 := (hS.cell (p := ⟨u3.heap.size, 0, none⟩) z9).trans c9; have d4 := (hS.cell (p := ⟨u20.heap.size, 0, none⟩) z12).trans c12
              simp at hn
              go_simp
              exact ⟨Below.refl _ _, rfl⟩
            apply slot_eq_h
            · intro ρ w' ⟨p1, p2, p3⟩ hS hn
              have d0 := (hS.cell (p := ⟨u1.heap.size, 0, none⟩) z5).trans c5; have d1 := (hS.cell (p := ⟨u1.heap.size + 1, 0, none⟩) z6).trans c6; have d2 := (hS.cell (p := ⟨u2.heap.size, 0, none⟩) z7).trans c7; have d3 := (hS.cell (p := ⟨u3.heap.size, 0, none⟩) z9).trans c9; have d4 := (hS.cell (p := ⟨u20.heap.size, 0, none⟩) z12).trans c12
              simp at hn
              go_simp
              exact got_call (KOC.out _ (HC.out.below hS)) fun e w'' ⟨he, hb⟩ => ⟨_, he, hb, rfl⟩
            apply slot_eq_h
            · intro ρ w' ⟨p1, p2, p3⟩ hS hn
              have d0 := (hS.cell (p := ⟨u1.heap.size, 0, none⟩) z5).trans c5; have d1 := (hS.cell (p := ⟨u1.heap.size + 1, 0, none⟩) z6).trans c6; have d2 := (hS.cell (p := ⟨u2.heap.size, 0, none⟩) z7).trans c7; have d3 := (hS.cell (p := ⟨u3.heap.size, 0, none⟩) z9).trans c9; have d4 := (hS.cell (p := ⟨u20.heap.size, 0, none⟩) z12).trans c12
              simp at hn
              go_simp
              exact ⟨Below.refl _ _, rfl⟩
            apply slot_eq_h
            · intro ρ w' ⟨p1, p2, p3⟩ hS hn
              have d0 := (hS.cell (p := ⟨u1.heap.size, 0, none⟩) z5).trans c5; have d1 := (hS.cell (p := ⟨u1.heap.size + 1, 0, none⟩) z6).trans c6; have d2 := (hS.cell (p := ⟨u2.heap.size, 0, none⟩) z7).trans c7; have d3 := (hS.cell (p := ⟨u3.heap.size, 0, none⟩) z9).trans c9; have d4 := (hS.cell (p := ⟨u20.heap.size, 0, none⟩) z12).trans c12
              simp at hn
              go_simp
              exact ⟨Below.refl _ _, rfl⟩
            apply slot_eq_h
            · intro ρ w' ⟨p1, p2, p3⟩ hS hn
              have d0 := (hS.cell (p := ⟨u1.heap.size, 0, none⟩) z5).trans c5; have d1 := (hS.cell (p := ⟨u1.heap.size + 1, 0, none⟩) z6).trans c6; have d2 := (hS.cell (p := ⟨u2.heap.size, 0, none⟩) z7).trans c7; have d3 := (hS.cell (p := ⟨u3.heap.size, 0, none⟩) z9).trans c9; have d4 := (hS.cell (p := ⟨u20.heap.size, 0, none⟩) z12).trans c12
              simp at hn
              refine ⟨140, false, rfl, hn.2, ?_⟩
              rw [if_pos rfl]
              go_simp
              exact ⟨Below.refl _ _, rfl⟩
            apply slot_eq_h
            · intro ρ w' ⟨p1, p2, p3⟩ hS hn
              have d0 := (hS.cell (p := ⟨u1.heap.size, 0, none⟩) z5).trans c5; have d1 := (hS.cell (p := ⟨u1.heap.size + 1, 0, none⟩) z6).trans c6; have d2 := (hS.cell (p := ⟨u2.heap.size, 0, none⟩) z7).trans c7; have d3 := (hS.cell (p := ⟨u3.heap.size, 0, none⟩) z9).trans c9; have d4 := (hS.cell (p := ⟨u20.heap.size, 0, none⟩) z12).trans c12
              simp at hn
              refine ⟨140, false, rfl, hn.2, ?_⟩
              rw [if_pos rfl]
              go_simp
              exact ⟨Below.refl _ _, rfl⟩
            refine slot_fact_h (AnsC (M)) (lasts_ansC _) ?_ ?_
            · intro ρ w' ⟨p1, p2, p3⟩ hS hn
              simp at hn
              refine ⟨140, false, rfl, hn.2.2, ?_⟩
              rw [if_pos rfl]
              go_simp
              exact got_call (K1.out _ _ _ _ _ (HJ.out.below hS) (HC.out.below hS)) fun e w'' ⟨g, cp, he, ho, hb⟩ => ⟨_, he, hb, g, cp, rfl, ho.isIs⟩
            refine slot_fact_h (FldC M) (lasts_fldC _) ?_ ?_
            · intro ρ w' ⟨p1, p2, p3⟩ hS hn
              simp at hn
              refine ⟨140, false, rfl, hn.2, ?_⟩
              rw [if_pos rfl]
              obtain ⟨⟨g, cp, e1, h1⟩, e2⟩ := hn
              go_simp
              exact ⟨Below.refl _ _, g, cp, rfl, h1⟩
            apply slot_eq_h
            · intro ρ w' ⟨p1, p2, p3⟩ hS hn
              have d0 := (hS.cell (p := ⟨u1.heap.size, 0, none⟩) z5).trans c5; have d1 := (hS.cell (p := ⟨u1.heap.size + 1, 0, none⟩) z6).trans c6; have d2 := (hS.cell (p := ⟨u2.heap.size, 0, none⟩) z7).trans c7; have d3 := (hS.cell (p := ⟨u3.heap.size, 0, none⟩) z9).trans c9; have d4 := (hS.cell (p := ⟨u20.heap.size, 0, none⟩) z12).trans c12
              simp at hn
              refine ⟨140, false, rfl, hn.2, ?_⟩
              rw [if_pos rfl]
              go_simp
              exact ⟨Below.refl _ _, rfl⟩
            apply slot_eq_h
            · intro ρ w' ⟨p1, p2, p3⟩ hS hn
              have d0 := (hS.cell (p := ⟨u1.heap.size, 0, none⟩) z5).trans c5; have d1 := (hS.cell (p := ⟨u1.heap.size + 1, 0, none⟩) z6).trans c6; have d2 := (hS.cell (p := ⟨u2.heap.size, 0, none⟩) z7).trans c7; have d3 := (hS.cell (p := ⟨u3.heap.size, 0, none⟩) z9).trans c9; have d4 := (hS.cell (p := ⟨u20.heap.size, 0, none⟩) z12).trans c12
              simp at hn
              refine ⟨140, false, rfl, hn.2, ?_⟩
              rw [if_pos rfl]
              go_simp
              exact ⟨Below.refl _ _, rfl⟩
            apply slot_eq_h
            · intro ρ w' ⟨p1, p2, p3⟩ hS hn
              have d0 := (hS.cell (p := ⟨u1.heap.size, 0, none⟩) z5).trans c5; have d1 := (hS.cell (p := ⟨u1.heap.size + 1, 0, none⟩) z6).trans c6; have d2 := (hS.cell (p := ⟨u2.heap.size, 0, none⟩) z7).trans c7; have d3 := (hS.cell (p := ⟨u3.heap.size, 0, none⟩) z9).trans c9; have d4 := (hS.cell (p := ⟨u20.heap.size, 0, none⟩) z12).trans c12
              simp at hn
              refine ⟨140, false, rfl, hn.2, ?_⟩
              rw [if_pos rfl]
              go_simp
              exact ⟨Below.refl _ _, rfl⟩
            refine slot_fact_h (AnsC (G)) (lasts_ansC _) ?_ ?_
            · intro ρ w' ⟨p1, p2, p3⟩ hS hn
              simp at hn
              refine ⟨140, false, rfl, hn.2.2, ?_⟩
              rw [if_pos rfl]
              go_simp
              exact got_call (K2.out _ _ _ _ _ (HBB.out.below hS) (HC.out.below hS)) fun e w'' ⟨g, cp, he, ho, hb⟩ => ⟨_, he, hb, g, cp, rfl, ho.isIs⟩
            refine slot_fact_h (AnsC (M)) (lasts_ansC _) ?_ ?_
            · intro ρ w' ⟨p1, p2, p3⟩ hS hn
              simp at hn
              refine ⟨140, false, rfl, hn.2.2, ?_⟩
              rw [if_pos rfl]
              obtain ⟨e0, ⟨g, cp, e1, h1⟩, e2⟩ := hn
              go_simp
              exact got_call (K3.out _ _ _ _ _ (HA.out.below hS) h1) fun e w'' ⟨g, cp, he, ho, hb⟩ => ⟨_, he, hb, g, cp, rfl, ho.isIs⟩
            refine slot_fact_h (FldC M) (lasts_fldC _) ?_ ?_
            · intro ρ w' ⟨p1, p2, p3⟩ hS hn
              simp at hn
              refine ⟨140, false, rfl, hn.2, ?_⟩
              rw [if_pos rfl]
              obtain ⟨⟨g, cp, e1, h1⟩, e2⟩ := hn
              go_simp
              exact ⟨Below.refl _ _, g, cp, rfl, h1⟩
            apply slot_eq_h
            · intro ρ w' ⟨p1, p2, p3⟩ hS hn
              have d0 := (hS.cell (p := ⟨u1.heap.size, 0, none⟩) z5).trans c5; have d1 := (hS.cell (p := ⟨u1.heap.size + 1, 0, none⟩) z6).trans c6; have d2 := (hS.cell (p := ⟨u2.heap.size, 0, none⟩) z7).trans c7; have d3 := (hS.cell (p := ⟨u3.heap.size, 0, none⟩) z9).trans c9; have d4 := (hS.cell (p := ⟨u20.heap.size, 0, none⟩) z12).trans c12
              simp at hn
              refine ⟨140, false, rfl, hn.2.2, ?_⟩
              rw [if_pos rfl]
              obtain ⟨⟨g0, cp0, e0, h0⟩, ⟨g, cp, e1, h1⟩, e2⟩ := hn
              go_simp
              exact got_call (KE.out M _ _ _ _ _ hM4 h0 h1) fun e w'' ⟨he, hb⟩ => ⟨_, he, hb, rfl⟩
            apply slot_eq_h
            · intro ρ w' ⟨p1, p2, p3⟩ hS hn
              have d0 := (hS.cell (p := ⟨u1.heap.size, 0, none⟩) z5).trans c5; have d1 := (hS.cell (p := ⟨u1.heap.size + 1, 0, none⟩) z6).trans c6; have d2 := (hS.cell (p := ⟨u2.heap.size, 0, none⟩) z7).trans c7; have d3 := (hS.cell (p := ⟨u3.heap.size, 0, none⟩) z9).trans c9; have d4 := (hS.cell (p := ⟨u20.heap.size, 0, none⟩) z12).trans c12
              simp at hn
              go_simp
              exact ⟨Below.refl _ _, rfl⟩
            refine slot_end_h ?_
            rintro vs u26 hS hF
            simp at hF
            obtain ⟨f152, f151, ⟨g150, q150, f150, -⟩, ⟨g149, q149, f149, -⟩, ⟨g148, q148, f148, -⟩, f147, f146, f145, ⟨g144, q144, f144, -⟩, ⟨g143, q143, f143, -⟩, f142, f141, f140, f139, f138, f137⟩ := hF
            simp only [List.take_succ_cons, List.take_zero, List.drop_succ_cons, List.drop_zero, putAll, f152, f151, f150, f149, f148, f147, f146, f145, f144, f143, f142, f141, f140, f139, f138, f137]
            clear f152 f151 f150 f149 f148 f147 f146 f145 f144 f143 f142 f141 f140 f139 f138 f137
            simp only [Act.put, List.setIfInBounds_toArray, List.set_cons_succ, List.set_cons_zero]
            replace c5 := (hS.cell (p := ⟨u1.heap.size, 0, none⟩) z5).trans c5
            replace z5 := Nat.lt_of_lt_of_le z5 hS.size
            replace c6 := (hS.cell (p := ⟨u1.heap.size + 1, 0, none⟩) z6).trans c6
            replace z6 := Nat.lt_of_lt_of_le z6 hS.size
            replace c7 := (hS.cell (p := ⟨u2.heap.size, 0, none⟩) z7).trans c7
            replace z7 := Nat.lt_of_lt_of_le z7 hS.size
            replace c9 := (hS.cell (p := ⟨u3.heap.size, 0, none⟩) z9).trans c9
            replace z9 := Nat.lt_of_lt_of_le z9 hS.size
            replace c12 := (hS.cell (p := ⟨u20.heap.size, 0, none⟩) z12).trans c12
            replace z12 := Nat.lt_of_lt_of_le z12 hS.size
            replace HA := Lib.hid (HA.out.below hS)
            replace HBB := Lib.hid (HBB.out.below hS)
            replace HC := Lib.hid (HC.out.below hS)
            replace HJ := Lib.hid (HJ.out.below hS)
            replace HK := Lib.hid (HK.out.below hS)
            replace HB := Lib.hid (below_step HB.out HB.out.size hS)
            clear hS
            go_wp2
            go_ret
            exact ⟨rfl, HB.out⟩

theorem walk (a : Option Addr) (len cap : Nat) (a' : Option Addr) (len' cap' : Nat) (w : World) (hr : len ≤ maxLen ∧ Bytes w a len) (hr' : len' ≤ maxLen ∧ Bytes w a' len') :
    Calls Try.prog 3 #[.slice a len cap, .slice a' len' cap'] w fun e w' => e = .returned (.bool true) ∧ Below w.heap.size w w' := by
  by_cases h : 1048576 < len
  · exact walk_big1 a len cap _ w hr.1 h
  · by_cases h' : 1048576 < len'
    · exact walk_big2 a len cap a' len' cap' w (by omega) hr'.1 h'
    · exact walk_small a len cap a' len' cap' w hr.2 (by omega) hr'.2 (by omega)

set_option maxRecDepth 100000 in
theorem lifted (os : Os) (started : os.Started) (H : Type) (enc : TypeId × Value → H) :
    ReturnsInHanded {} Try.checked os 3 .any (Rows.fnClocksSpec.pre6 enc Try.prog Try.f3 Rows.fnClocksRow.domain false) (Rows.fnClocksSpec.post enc Try.prog Try.f3 false true false false) := by
  refine returnsInHanded_of_change (C := Try.checked) own started (by kernel_rfl) Try.func3
    (ChangeSpec.witness6 (enc := enc) (C := Try.checked) false ⟨#[], #[.slice none 0 0, .slice none 0 0], []⟩ 8 (by kernel_rfl) (by kernel_rfl) (by kernel_rfl) (by kernel_rfl)) ?_
  intro W base args ds gs before hval0 hW hcnd _
  have hval : ∀ (j : Nat) t v, Try.f3.params[j]? = some t → args[j]? = some v → Value.okWide Try.prog W .any base t v := hval0
  have hW' := hW
  obtain ⟨p, q, hA0, hV, rfl, hfz, hnd⟩ := hW
  have hA : DataW.TrodAll enc Try.prog W 0 (fun _ => true) true Try.f3.params.toList args.toList ds p := hA0
  rw [Try.params3] at hA hval
  obtain ⟨v0, v1, d0, d1, p0, p1, rfl, rfl, rfl, h0, h1⟩ := trodAll_two hA
  have k0 := h0
  have lt0 : ∀ x ∈ p0, x.block < W.heap.size := by obtain ⟨m, hm⟩ := k0; exact DataW.trod_lt m _ _ _ hm
  have k1 := h1
  have lt1 : ∀ x ∈ p1, x.block < W.heap.size := by obtain ⟨m, hm⟩ := k1; exact DataW.trod_lt m _ _ _ hm
  obtain ⟨rfl, rfl⟩ := trodVars_none hV
  obtain ⟨a0, len0, cap0, hv0, hr0⟩ := open_bytes (hval 0 22 v0 rfl rfl) h0
  subst hv0
  obtain ⟨a1, len1, cap1, hv1, hr1⟩ := open_bytes (hval 1 22 v1 rfl rfl) h1
  subst hv1
  clear hA0 hval0
  refine (walk a0 len0 cap0 a1 len1 cap1 W hr0 hr1).mono fun e W' ⟨he, bel⟩ => ?_
  subst he
  exact ⟨_, rfl, _, _, _, [], _, [], hW', trodAll_mk1 (shut_bool Try.underlying4 _), (trodAll_mk2 (Below.trod laidOut (by kernel_rfl) (of_decide_eq_true (by kernel_rfl)) k0 bel lt0) (Below.trod laidOut (by kernel_rfl) (of_decide_eq_true (by kernel_rfl)) k1 bel lt1)), rfl, bel.frame _, fun h => by cases h⟩

theorem over : Rows.fnClocksRow.holds Try.pinned (OpenSpec.ofChange Rows.fnClocksSpec) :=
  OpenClaim.holds_of_wide 3 Try.f3 rfl rfl rfl rfl rfl rfl rfl ⟨rfl, rfl, rfl, rfl, rfl⟩ rfl rfl rfl rfl rfl (by kernel_rfl) Try.func3 (by kernel_rfl)
    (of_decide_eq_true (by kernel_rfl)) (by unfold Func.isWrapper; rw [if_neg (by decide +kernel)]; exact ⟨rfl, rfl⟩)
    (fun os started H enc _ => lifted os started H enc)

end Go.Proofs.Ytolmlcbgdihcbab.lawFnClocks
namespace Go.Proofs.Ytolmlcbgdihcbab
theorem fnClocks_holds : Rows.FnClocksSaid := lawFnClocks.over
#print axioms fnClocks_holds
end Go.Proofs.Ytolmlcbgdihcbab
