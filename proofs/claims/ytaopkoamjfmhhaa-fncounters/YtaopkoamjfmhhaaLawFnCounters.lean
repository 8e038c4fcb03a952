/- At every two codes the law FnCounters answers true: counters go together whichever come first; joined with itself one is itself; it is at most what it is joined with. No conditions. -/
import Derived.Test.YtaopkoamjfmhhaaPack10
import Derived.Test.YtaopkoamjfmhhaaPack11
import Derived.Test.YtaopkoamjfmhhaaRows
namespace Go.Proofs.Ytaopkoamjfmhhaa.lawCounters
open Go.ChangeShapes Go.WideShapes Go.ChangeAt Go.RowKit Go.Joins
attribute [local go_sem ↓] Go.wp_at_zero Go.wp_at_succ

set_option maxRecDepth 100000 in
theorem big_is (a : Option Addr) (len cap : Nat) (r : Bool) (h : decide (1048576 < len) = r) (hm : len ≤ maxLen) (w : World) :
    Calls Try.prog 5 #[.slice a len cap] w fun e w' => e = .returned (.bool r) ∧ w' = w := by
  unfold maxLen at hm
  cases r
  · have h' : len ≤ 1048576 := by simpa using h
    clear h
    go_enter Try.func5, Try.ntmps5
    go_wp2
    go_ret
    exact ⟨by simp; omega, rfl⟩
  · have h' : 1048576 < len := by simpa using h
    clear h
    go_enter Try.func5, Try.ntmps5
    go_wp2
    go_ret
    exact ⟨by simp; omega, rfl⟩

set_option maxRecDepth 100000 in
theorem open_bytes {H : Type} {enc : TypeId × Value → H} {w : World} {base b0 : Nat} {held : Bool} {r : Go.Reach} {v : Value} {d : DataW H} {p : List MemPlace} (hv : Value.okWide Try.prog w r b0 22 v) (h : DataW.Trod enc Try.prog w base (fun _ => true) held 22 v d p) :
    ∃ (a : Option Addr) (len cap : Nat), v = .slice a len cap ∧ (len ≤ maxLen ∧ Bytes w a len) := by
  obtain ⟨a, len, cap, rfl⟩ := okWide_slice Try.underlying22 hv
  obtain ⟨fuel, hf⟩ := h
  refine ⟨a, len, cap, rfl, ?_⟩
  rcases open_ints Try.underlying22 Try.underlying5 (by kernel_rfl) hf with ⟨hcs, _⟩ | ⟨x, l, c, zs, hcs, _, hl, hm, hz, _, hcell, hwz⟩
  · simp [Value.cells] at hcs
    obtain ⟨rfl, rfl, rfl⟩ := hcs
    exact ⟨Nat.zero_le _, .inl rfl⟩
  · simp [Value.cells] at hcs
    obtain ⟨rfl, rfl, rfl⟩ := hcs
    refine ⟨by omega, ?_⟩
    by_cases h0 : len = 0
    · exact .inl h0
    · have hzl : zs.length = cap := by simpa using hz
      have hx : x = ⟨x.block, x.off, none⟩ := by
        have h1 := hcell 0 (by omega)
        simp [Addr.add] at h1
        cases x with
        | mk b o s =>
          cases s with
          | none => rfl
          | some s =>
            simp only [World.cell?] at h1
            split at h1 <;> simp at h1
      refine .inr ⟨x.block, x.off, by rw [← hx], ?_, fun i hi => ?_⟩
      · have h1 := hcell 0 (by omega)
        have := World.block_lt_of_cell? w _ h1
        simpa [Addr.add] using this
      · have h1 := hcell i (by omega)
        have hw : (Lit.int .u8 (zs.getD i 0)).wf = true := hwz _ (by rw [List.getD_eq_getElem?_getD, List.getElem?_eq_getElem (by omega)]; exact List.getElem_mem _)
        have hb := bounds_u8 hw
        refine ⟨zs.getD i 0, hb.1, hb.2, ?_⟩
        rw [hx] at h1
        have e : (Addr.mk x.block x.off none).add i = ⟨x.block, x.off + i, none⟩ := by
          unfold Addr.add
          split
          · rename_i h
            rw [h]
            rfl
          · rfl
        rw [e] at h1
        exact h1

set_option maxRecDepth 100000 in
set_option maxHeartbeats 1000000 in
theorem walk_big1 (a : Option Addr) (len cap : Nat) (v : Value) (w : World) (hm : len ≤ maxLen) (h : 1048576 < len) :
    Calls Try.prog 3 #[.slice a len cap, v] w fun e w' => e = .returned (.bool true) ∧ Below w.heap.size w w' := by
  have d1 : decide (1048576 < len) = true := by simpa using h
  clear h
  go_enter Try.func3, Try.ntmps3
  go_wp2_with (go_at_call 5; refine (big_is _ _ _ true d1 hm _).mono ?_; rintro e w1 ⟨rfl, rfl⟩)
  go_ret
  exact ⟨rfl, Below.refl _ _⟩

set_option maxRecDepth 100000 in
set_option maxHeartbeats 1000000 in
theorem walk_big2 (a : Option Addr) (len cap : Nat) (a' : Option Addr) (len' cap' : Nat) (w : World) (h : len ≤ 1048576) (hm' : len' ≤ maxLen) (h' : 1048576 < len') :
    Calls Try.prog 3 #[.slice a len cap, .slice a' len' cap'] w fun e w' => e = .returned (.bool true) ∧ Below w.heap.size w w' := by
  have d1 : decide (1048576 < len) = false := by simp; omega
  have d2 : decide (1048576 < len') = true := by simpa using h'
  have hm : len ≤ maxLen := by unfold maxLen; omega
  clear h h'
  go_enter Try.func3, Try.ntmps3
  go_wp2_with fail
  refine (big_is _ _ _ false d1 hm _).mono ?_
  rintro e w1 ⟨rfl, rfl⟩
  go_wp2_with fail
  refine (big_is _ _ _ true d2 hm' _).mono ?_
  rintro e w2 ⟨rfl, rfl⟩
  go_wp2
  go_ret
  exact ⟨rfl, Below.refl _ _⟩

/-- A counter that is answered. -/
def AnsX (us ds : List Int) : Fact := fun v w => ∃ g c h d, v = cntV g us.length c h ds.length d ∧ IsC w g h us ds

theorem lasts_ansX (us ds : List Int) : lasts (fun w w' => Below w.heap.size w w') (AnsX us ds) := by
  rintro v w w' ⟨g, c, h, d, h1, h2⟩ hr
  exact ⟨g, c, h, d, h1, h2.below hr⟩

set_option maxRecDepth 100000 in
set_option maxHeartbeats 16000000 in
theorem walk_small (a : Option Addr) (len cap : Nat) (a' : Option Addr) (len' cap' : Nat) (w : World) (hy : Bytes w a len) (hl : len ≤ 1048576) (hy' : Bytes w a' len') (hl' : len' ≤ 1048576) :
    Calls Try.prog 3 #[.slice a len cap, .slice a' len' cap'] w fun e w' => e = .returned (.bool true) ∧ Below w.heap.size w w' := by
  have HY : Hid (Bytes w a len) := hy
  have HY' : Hid (Bytes w a' len') := hy'
  have d1 : decide (1048576 < len) = false := by simp; omega
  have d2 : decide (1048576 < len') = false := by simp; omega
  clear hy hy'
  go_enter Try.func3, Try.ntmps3
  go_wp2_with fail
  refine (big_is _ _ _ false d1 (by unfold maxLen; omega) _).mono ?_
  rintro e w0 ⟨rfl, hw⟩
  subst w0
  go_wp2_with fail
  refine (big_is _ _ _ false d2 (by unfold maxLen; omega) _).mono ?_
  rintro e w0 ⟨rfl, hw⟩
  subst w0
  clear d1 d2
  have HB : Hid (Below w.heap.size w w) := Below.refl _ _
  go_wp2_with fail
  refine (drawCounterJoin_any _ _ _ _ HY.out hl).mono ?_
  rintro e u1 ⟨ga, ca, ha, da, A, A', gb, cb, hbx, db, B, B', rfl, hA5, hA6, hB5, hB6, ia, ib, hb⟩
  replace HY' := Lib.hid (HY'.out.below hb)
  replace HB := Lib.hid (below_step HB.out HB.out.size hb)
  have HA := Lib.hid ia
  have HBB := Lib.hid ib
  clear ia ib HY
  clear hb
  go_wp2_with fail
  have hA : Below u1.heap.size u1 ((u1.alloc (.cells #[.slice (some ⟨ga, 0, none⟩) A.length ca, .slice (some ⟨ha, 0, none⟩) A'.length da] 26)).alloc (.cells #[.slice (some ⟨gb, 0, none⟩) B.length cb, .slice (some ⟨hbx, 0, none⟩) B'.length db] 26)) := ((Below.refl _ _).alloc (Nat.le_refl _) _).alloc (by simp) _
  replace HY' := Lib.hid (HY'.out.below hA)
  replace HA := Lib.hid (HA.out.below hA)
  replace HBB := Lib.hid (HBB.out.below hA)
  replace HB := Lib.hid (below_step HB.out HB.out.size hA)
  clear hA
  have c5_0 : ((u1.alloc (.cells #[.slice (some ⟨ga, 0, none⟩) A.length ca, .slice (some ⟨ha, 0, none⟩) A'.length da] 26)).alloc (.cells #[.slice (some ⟨gb, 0, none⟩) B.length cb, .slice (some ⟨hbx, 0, none⟩) B'.length db] 26)).cell? ⟨u1.heap.size, 0, none⟩ = some (.slice (some ⟨ga, 0, none⟩) A.length ca) := by go_simp
  have c5_1 : ((u1.alloc (.cells #[.slice (some ⟨ga, 0, none⟩) A.length ca, .slice (some ⟨ha, 0, none⟩) A'.length da] 26)).alloc (.cells #[.slice (some ⟨gb, 0, none⟩) B.length cb, .slice (some ⟨hbx, 0, none⟩) B'.length db] 26)).cell? ⟨u1.heap.size, 1, none⟩ = some (.slice (some ⟨ha, 0, none⟩) A'.length da) := by go_simp
  have z5 : u1.heap.size < ((u1.alloc (.cells #[.slice (some ⟨ga, 0, none⟩) A.length ca, .slice (some ⟨ha, 0, none⟩) A'.length da] 26)).alloc (.cells #[.slice (some ⟨gb, 0, none⟩) B.length cb, .slice (some ⟨hbx, 0, none⟩) B'.length db] 26)).heap.size := by simp <;> omega
  have c6_0 : ((u1.alloc (.cells #[.slice (some ⟨ga, 0, none⟩) A.length ca, .slice (some ⟨ha, 0, none⟩) A'.length da] 26)).alloc (.cells #[.slice (some ⟨gb, 0, none⟩) B.length cb, .slice (some ⟨hbx, 0, none⟩) B'.length db] 26)).cell? ⟨u1.heap.size + 1, 0, none⟩ = some (.slice (some ⟨gb, 0, none⟩) B.length cb) := by go_simp
  have c6_1 : ((u1.alloc (.cells #[.slice (some ⟨ga, 0, none⟩) A.length ca, .slice (some ⟨ha, 0, none⟩) A'.length da] 26)).alloc (.cells #[.slice (some ⟨gb, 0, none⟩) B.length cb, .slice (some ⟨hbx, 0, none⟩) B'.length db] 26)).cell? ⟨u1.heap.size + 1, 1, none⟩ = some (.slice (some ⟨hbx, 0, none⟩) B'.length db) := by go_simp
  have z6 : u1.heap.size + 1 < ((u1.alloc (.cells #[.slice (some ⟨ga, 0, none⟩) A.length ca, .slice (some ⟨ha, 0, none⟩) A'.length da] 26)).alloc (.cells #[.slice (some ⟨gb, 0, none⟩) B.length cb, .slice (some ⟨hbx, 0, none⟩) B'.length db] 26)).heap.size := by simp
  generalize ((u1.alloc (.cells #[.slice (some ⟨ga, 0, none⟩) A.length ca, .slice (some ⟨ha, 0, none⟩) A'.length da] 26)).alloc (.cells #[.slice (some ⟨gb, 0, none⟩) B.length cb, .slice (some ⟨hbx, 0, none⟩) B'.length db] 26)) = V1 at *
  refine (drawCounterJoin_any _ _ _ _ HY'.out hl').mono ?_
  rintro e u2 ⟨gc, cc, hc, dc, C, C', gd, cd, hd, dd, D, D', rfl, hC5, hC6, hD5, hD6, ic, -, hb⟩
  replace c5_0 := cells_of hb z5 c5_0
  replace c5_1 := cells_of hb z5 c5_1
  replace z5 := Nat.lt_of_lt_of_le z5 hb.size
  replace c6_0 := cells_of hb z6 c6_0
  replace c6_1 := cells_of hb z6 c6_1
  replace z6 := Nat.lt_of_lt_of_le z6 hb.size
  replace HY' := Lib.hid (HY'.out.below hb)
  replace HA := Lib.hid (HA.out.below hb)
  replace HBB := Lib.hid (HBB.out.below hb)
  replace HB := Lib.hid (below_step HB.out HB.out.size hb)
  have HC := Lib.hid ic
  clear ic HY'
  clear hb
  go_wp2_with fail
  have hA : Below u2.heap.size u2 ((u2.alloc (.cells #[.slice (some ⟨gc, 0, none⟩) C.length cc, .slice (some ⟨hc, 0, none⟩) C'.length dc] 26)).alloc (.cells #[.slice (some ⟨gd, 0, none⟩) D.length cd, .slice (some ⟨hd, 0, none⟩) D'.length dd] 26)) := ((Below.refl _ _).alloc (Nat.le_refl _) _).alloc (by simp) _
  replace c5_0 := cells_of hA z5 c5_0
  replace c5_1 := cells_of hA z5 c5_1
  replace z5 := Nat.lt_of_lt_of_le z5 hA.size
  replace c6_0 := cells_of hA z6 c6_0
  replace c6_1 := cells_of hA z6 c6_1
  replace z6 := Nat.lt_of_lt_of_le z6 hA.size
  replace HA := Lib.hid (HA.out.below hA)
  replace HBB := Lib.hid (HBB.out.below hA)
  replace HC := Lib.hid (HC.out.below hA)
  replace HB := Lib.hid (below_step HB.out HB.out.size hA)
  clear hA
  have c7_0 : ((u2.alloc (.cells #[.slice (some ⟨gc, 0, none⟩) C.length cc, .slice (some ⟨hc, 0, none⟩) C'.length dc] 26)).alloc (.cells #[.slice (some ⟨gd, 0, none⟩) D.length cd, .slice (some ⟨hd, 0, none⟩) D'.length dd] 26)).cell? ⟨u2.heap.size, 0, none⟩ = some (.slice (some ⟨gc, 0, none⟩) C.length cc) := by go_simp
  have c7_1 : ((u2.alloc (.cells #[.slice (some ⟨gc, 0, none⟩) C.length cc, .slice (some ⟨hc, 0, none⟩) C'.length dc] 26)).alloc (.cells #[.slice (some ⟨gd, 0, none⟩) D.length cd, .slice (some ⟨hd, 0, none⟩) D'.length dd] 26)).cell? ⟨u2.heap.size, 1, none⟩ = some (.slice (some ⟨hc, 0, none⟩) C'.length dc) := by go_simp
  have z7 : u2.heap.size < ((u2.alloc (.cells #[.slice (some ⟨gc, 0, none⟩) C.length cc, .slice (some ⟨hc, 0, none⟩) C'.length dc] 26)).alloc (.cells #[.slice (some ⟨gd, 0, none⟩) D.length cd, .slice (some ⟨hd, 0, none⟩) D'.length dd] 26)).heap.size := by simp <;> omega
  have c8_0 : ((u2.alloc (.cells #[.slice (some ⟨gc, 0, none⟩) C.length cc, .slice (some ⟨hc, 0, none⟩) C'.length dc] 26)).alloc (.cells #[.slice (some ⟨gd, 0, none⟩) D.length cd, .slice (some ⟨hd, 0, none⟩) D'.length dd] 26)).cell? ⟨u2.heap.size + 1, 0, none⟩ = some (.slice (some ⟨gd, 0, none⟩) D.length cd) := by go_simp
  have c8_1 : ((u2.alloc (.cells #[.slice (some ⟨gc, 0, none⟩) C.length cc, .slice (some ⟨hc, 0, none⟩) C'.length dc] 26)).alloc (.cells #[.slice (some ⟨gd, 0, none⟩) D.length cd, .slice (some ⟨hd, 0, none⟩) D'.length dd] 26)).cell? ⟨u2.heap.size + 1, 1, none⟩ = some (.slice (some ⟨hd, 0, none⟩) D'.length dd) := by go_simp
  have z8 : u2.heap.size + 1 < ((u2.alloc (.cells #[.slice (some ⟨gc, 0, none⟩) C.length cc, .slice (some ⟨hc, 0, none⟩) C'.length dc] 26)).alloc (.cells #[.slice (some ⟨gd, 0, none⟩) D.length cd, .slice (some ⟨hd, 0, none⟩) D'.length dd] 26)).heap.size := by simp
  generalize ((u2.alloc (.cells #[.slice (some ⟨gc, 0, none⟩) C.length cc, .slice (some ⟨hc, 0, none⟩) C'.length dc] 26)).alloc (.cells #[.slice (some ⟨gd, 0, none⟩) D.length cd, .slice (some ⟨hd, 0, none⟩) D'.length dd] 26)) = V2 at *
  have hl : ∀ x : Nat, x ≤ 5 → x ≤ maxLen := fun x hx => by unfold maxLen; omega
  obtain ⟨J, hJ⟩ : ∃ J, J = cjU A A' B B' := ⟨_, rfl⟩
  obtain ⟨J', hJ'⟩ : ∃ J, J = cjD A A' B B' := ⟨_, rfl⟩
  have hJ4 : J.length ≤ 4 ∧ J'.length ≤ 4 := by rw [hJ, hJ']; exact cj_few _ _ _ _
  obtain ⟨hJ5, hJ6⟩ := hJ4
  have PJ := Lib.hid hJ
  have PJ' := Lib.hid hJ'
  clear hJ hJ'
  have KI : Hid (∀ (X X' Y Y' : List Int) W a1 c1 b1 d1 a2 c2 b2 d2, X.length ≤ 5 → X'.length ≤ 5 → Y.length ≤ 5 → Y'.length ≤ 5 → IsC W a1 b1 X X' → IsC W a2 b2 Y Y' → Calls Try.prog 7 #[cntV a1 X.length c1 b1 X'.length d1, cntV a2 Y.length c2 b2 Y'.length d2] W fun e w' => ∃ g c h d, e = .returned (cntV g (cjU X X' Y Y').length c h (cjD X X' Y Y').length d) ∧ IsC w' g h (cjU X X' Y Y') (cjD X X' Y Y') ∧ Below W.heap.size W w') := fun X X' Y Y' W a1 c1 b1 d1 a2 c2 b2 d2 h1 h2 h3 h4 h5 h6 => (implCounterJoin_any a1 _ c1 b1 _ d1 a2 _ c2 b2 _ d2 X X' Y Y' W rfl (hl _ h1) rfl (hl _ h2) h5 rfl (hl _ h3) rfl (hl _ h4) h6).mono fun _ _ ⟨g, c, h, d, he, ho, hb⟩ => ⟨g, c, h, d, he, ho.isC, hb⟩
  have KS : Hid (∀ (X X' Y Y' : List Int) W a1 c1 b1 d1 a2 c2 b2 d2, X.length ≤ 5 → X'.length ≤ 5 → Y.length ≤ 5 → Y'.length ≤ 5 → IsC W a1 b1 X X' → IsC W a2 b2 Y Y' → Calls Try.prog 9 #[cntV a1 X.length c1 b1 X'.length d1, cntV a2 Y.length c2 b2 Y'.length d2] W fun e w' => ∃ g c h d, e = .returned (cntV g (cjU X X' Y Y').length c h (cjD X X' Y Y').length d) ∧ IsC w' g h (cjU X X' Y Y') (cjD X X' Y Y') ∧ Below W.heap.size W w') := fun X X' Y Y' W a1 c1 b1 d1 a2 c2 b2 d2 h1 h2 h3 h4 h5 h6 => (specCounterJoin_any a1 _ c1 b1 _ d1 a2 _ c2 b2 _ d2 X X' Y Y' W rfl (hl _ h1) rfl (hl _ h2) h5 rfl (hl _ h3) rfl (hl _ h4) h6).mono fun _ _ ⟨g, c, h, d, he, ho, hb⟩ => ⟨g, c, h, d, he, ho.isC, hb⟩
  have KE : Hid (∀ (X X' : List Int) W a1 c1 b1 d1 a2 c2 b2 d2, X.length ≤ 5 → X'.length ≤ 5 → IsC W a1 b1 X X' → IsC W a2 b2 X X' → Calls Try.prog 8 #[cntV a1 X.length c1 b1 X'.length d1, cntV a2 X.length c2 b2 X'.length d2] W fun e w' => e = .returned (.bool true) ∧ Below W.heap.size W w') := fun X X' W a1 c1 b1 d1 a2 c2 b2 d2 h1 h2 h3 h4 => by
    have := sameCounter_dec a1 c1 b1 d1 a2 c2 b2 d2 X X' X X' W (by omega) (by omega) (by omega) (by omega) h3 h4
    rw [decide_eq_true rfl, decide_eq_true rfl] at this
    exact this
  have KJ : Hid (∀ W, IsC W (some ⟨ga, 0, none⟩) (some ⟨ha, 0, none⟩) A A' → IsC W (some ⟨gb, 0, none⟩) (some ⟨hbx, 0, none⟩) B B' → Calls Try.prog 7 #[cntV (some ⟨ga, 0, none⟩) A.length ca (some ⟨ha, 0, none⟩) A'.length da, cntV (some ⟨gb, 0, none⟩) B.length cb (some ⟨hbx, 0, none⟩) B'.length db] W fun e w' => ∃ g c h d, e = .returned (cntV g J.length c h J'.length d) ∧ IsC w' g h J J' ∧ Below W.heap.size W w') := fun W h1 h2 => by
    rw [PJ.out, PJ'.out]
    exact KI.out A A' B B' W _ _ _ _ _ _ _ _ hA5 hA6 hB5 hB6 h1 h2
  refine (KJ.out _ HA.out HBB.out).mono ?_
  rintro e u3 ⟨gj, cj, hj, dj, rfl, ho, hb⟩
  replace c5_0 := cells_of hb z5 c5_0
  replace c5_1 := cells_of hb z5 c5_1
  replace z5 := Nat.lt_of_lt_of_le z5 hb.size
  replace c6_0 := cells_of hb z6 c6_0
  replace c6_1 := cells_of hb z6 c6_1
  replace z6 := Nat.lt_of_lt_of_le z6 hb.size
  replace c7_0 := cells_of hb z7 c7_0
  replace c7_1 := cells_of hb z7 c7_1
  replace z7 := Nat.lt_of_lt_of_le z7 hb.size
  replace c8_0 := cells_of hb z8 c8_0
  replace c8_1 := cells_of hb z8 c8_1
  replace z8 := Nat.lt_of_lt_of_le z8 hb.size
  replace HA := Lib.hid (HA.out.below hb)
  replace HBB := Lib.hid (HBB.out.below hb)
  replace HC := Lib.hid (HC.out.below hb)
  replace HB := Lib.hid (below_step HB.out HB.out.size hb)
  have HJ := Lib.hid ho
  clear ho KJ
  clear hb
  go_wp2_with fail
  have hA : Below u3.heap.size u3 (u3.alloc (.cells #[.slice gj J.length cj, .slice hj J'.length dj] 26)) := (Below.refl _ _).alloc (Nat.le_refl _) _
  replace c5_0 := cells_of hA z5 c5_0
  replace c5_1 := cells_of hA z5 c5_1
  replace z5 := Nat.lt_of_lt_of_le z5 hA.size
  replace c6_0 := cells_of hA z6 c6_0
  replace c6_1 := cells_of hA z6 c6_1
  replace z6 := Nat.lt_of_lt_of_le z6 hA.size
  replace c7_0 := cells_of hA z7 c7_0
  replace c7_1 := cells_of hA z7 c7_1
  replace z7 := Nat.lt_of_lt_of_le z7 hA.size
  replace c8_0 := cells_of hA z8 c8_0
  replace c8_1 := cells_of hA z8 c8_1
  replace z8 := Nat.lt_of_lt_of_le z8 hA.size
  replace HA := Lib.hid (HA.out.below hA)
  replace HBB := Lib.hid (HBB.out.below hA)
  replace HC := Lib.hid (HC.out.below hA)
  replace HJ := Lib.hid (HJ.out.below hA)
  replace HB := Lib.hid (below_step HB.out HB.out.size hA)
  clear hA
  have c9_0 : (u3.alloc (.cells #[.slice gj J.length cj, .slice hj J'.length dj] 26)).cell? ⟨u3.heap.size, 0, none⟩ = some (.slice gj J.length cj) := by go_simp
  have c9_1 : (u3.alloc (.cells #[.slice gj J.length cj, .slice hj J'.length dj] 26)).cell? ⟨u3.heap.size, 1, none⟩ = some (.slice hj J'.length dj) := by go_simp
  have z9 : u3.heap.size < (u3.alloc (.cells #[.slice gj J.length cj, .slice hj J'.length dj] 26)).heap.size := by simp
  generalize (u3.alloc (.cells #[.slice gj J.length cj, .slice hj J'.length dj] 26)) = V3 at *
  have KSJ : Hid (∀ W, IsC W (some ⟨ga, 0, none⟩) (some ⟨ha, 0, none⟩) A A' → IsC W (some ⟨gb, 0, none⟩) (some ⟨hbx, 0, none⟩) B B' → Calls Try.prog 9 #[cntV (some ⟨ga, 0, none⟩) A.length ca (some ⟨ha, 0, none⟩) A'.length da, cntV (some ⟨gb, 0, none⟩) B.length cb (some ⟨hbx, 0, none⟩) B'.length db] W fun e w' => ∃ g c h d, e = .returned (cntV g J.length c h J'.length d) ∧ IsC w' g h J J' ∧ Below W.heap.size W w') := fun W h1 h2 => by
    rw [PJ.out, PJ'.out]
    exact KS.out A A' B B' W _ _ _ _ _ _ _ _ hA5 hA6 hB5 hB6 h1 h2
  refine wp_region_slotsH 6 [[(9, false)], [(5, false)], [(6, false)], [(30, true), (31, true)], [(29, true), (32, true)], [(33, true)]] (fun w' => Below V3.heap.size V3 w') (fun w w' => Below w.heap.size w w') (by kernel_rfl) (by kernel_rfl) (by rfl) (Below.refl _ _).drew (fun _ _ h hb => below_step h h.size hb) ?_
  apply slot_eq_h
  · intro ρ w' ⟨p1, p2, p3⟩ hS hn
    have d0 := cells_of hS z9 c9_0; have d1 := cells_of hS z9 c9_1
    simp at hn
    go_simp
    exact ⟨Below.refl _ _, rfl⟩
  apply slot_eq_h
  · intro ρ w' ⟨p1, p2, p3⟩ hS hn
    have d0 := cells_of hS z5 c5_0; have d1 := cells_of hS z5 c5_1
    simp at hn
    go_simp
    exact ⟨Below.refl _ _, rfl⟩
  apply slot_eq_h
  · intro ρ w' ⟨p1, p2, p3⟩ hS hn
    have d0 := cells_of hS z6 c6_0; have d1 := cells_of hS z6 c6_1
    simp at hn
    go_simp
    exact ⟨Below.refl _ _, rfl⟩
  refine slot_fact_h (AnsX (J) (J')) (lasts_ansX _ _) ?_ ?_
  · intro ρ w' ⟨p1, p2, p3⟩ hS hn
    simp at hn
    go_simp
    exact got_call (KSJ.out _ (HA.out.below hS) (HBB.out.below hS)) fun e w'' ⟨g, c, h, d, he, ho, hb⟩ => ⟨_, he, hb, g, c, h, d, rfl, ho⟩
  apply slot_eq_h
  · intro ρ w' ⟨p1, p2, p3⟩ hS hn
    simp at hn
    obtain ⟨e0, g, c, h, d, e1, h1⟩ := hn
    go_simp
    exact got_call (KE.out J J' _ _ _ _ _ _ _ _ _ (by omega) (by omega) (HJ.out.below hS) h1) fun e w'' ⟨he, hb⟩ => ⟨_, he, hb, rfl⟩
  apply slot_eq_h
  · intro ρ w' ⟨p1, p2, p3⟩ hS hn
    simp at hn
    go_simp
    exact ⟨Below.refl _ _, rfl⟩
  refine slot_end_h ?_
  rintro vs u4 hS hF
  simp at hF
  obtain ⟨f34, f33, ⟨_, _, _, _, f32, -⟩, f31, f30, f29⟩ := hF
  simp only [List.take_succ_cons, List.take_zero, List.drop_succ_cons, List.drop_zero, putAll, f34, f33, f32, f31, f30, f29]
  clear f34 f33 f32 f31 f30 f29
  simp only [Act.put, List.setIfInBounds_toArray, List.set_cons_succ, List.set_cons_zero]
  replace c5_0 := cells_of hS z5 c5_0
  replace c5_1 := cells_of hS z5 c5_1
  replace z5 := Nat.lt_of_lt_of_le z5 hS.size
  replace c6_0 := cells_of hS z6 c6_0
  replace c6_1 := cells_of hS z6 c6_1
  replace z6 := Nat.lt_of_lt_of_le z6 hS.size
  replace c7_0 := cells_of hS z7 c7_0
  replace c7_1 := cells_of hS z7 c7_1
  replace z7 := Nat.lt_of_lt_of_le z7 hS.size
  replace c8_0 := cells_of hS z8 c8_0
  replace c8_1 := cells_of hS z8 c8_1
  replace z8 := Nat.lt_of_lt_of_le z8 hS.size
  replace c9_0 := cells_of hS z9 c9_0
  replace c9_1 := cells_of hS z9 c9_1
  replace z9 := Nat.lt_of_lt_of_le z9 hS.size
  replace HA := Lib.hid (HA.out.below hS)
  replace HBB := Lib.hid (HBB.out.below hS)
  replace HC := Lib.hid (HC.out.below hS)
  replace HJ := Lib.hid (HJ.out.below hS)
  replace HB := Lib.hid (below_step HB.out HB.out.size hS)
  clear hS
  clear KSJ KS
  have KO : Hid (∀ (X X' : List Int) (v : Bool) W a1 c1 b1 d1, cntB X X' = v → X.length ≤ 5 → X'.length ≤ 5 → IsC W a1 b1 X X' → Calls Try.prog 10 #[cntV a1 X.length c1 b1 X'.length d1] W fun e w' => e = .returned (.bool v) ∧ Below W.heap.size W w') := fun X X' v W a1 c1 b1 d1 hv h1 h2 h3 => by
    rw [← hv]
    exact specCounterOk_any _ _ _ _ _ _ X X' W rfl (hl _ h1) rfl (hl _ h2) h3
  cases vA : cntB A A'
  · skip
    have hJ0 : J = [] := PJ.out.trans (cj_bad (by rw [vA]; rfl)).1
    have hJ1 : J' = [] := PJ'.out.trans (cj_bad (by rw [vA]; rfl)).2
    clear PJ PJ'
    subst hJ0 hJ1
    have VA := Lib.hid vA
    clear vA
    go_wp2_with fail
    refine (KO.out A A' false _ _ _ _ _ VA.out hA5 hA6 HA.out).mono ?_
    rintro e u5 ⟨rfl, hb⟩
    replace c5_0 := cells_of hb z5 c5_0
    replace c5_1 := cells_of hb z5 c5_1
    replace z5 := Nat.lt_of_lt_of_le z5 hb.size
    replace c6_0 := cells_of hb z6 c6_0
    replace c6_1 := cells_of hb z6 c6_1
    replace z6 := Nat.lt_of_lt_of_le z6 hb.size
    replace c7_0 := cells_of hb z7 c7_0
    replace c7_1 := cells_of hb z7 c7_1
    replace z7 := Nat.lt_of_lt_of_le z7 hb.size
    replace c8_0 := cells_of hb z8 c8_0
    replace c8_1 := cells_of hb z8 c8_1
    replace z8 := Nat.lt_of_lt_of_le z8 hb.size
    replace c9_0 := cells_of hb z9 c9_0
    replace c9_1 := cells_of hb z9 c9_1
    replace z9 := Nat.lt_of_lt_of_le z9 hb.size
    replace HA := Lib.hid (HA.out.below hb)
    replace HBB := Lib.hid (HBB.out.below hb)
    replace HC := Lib.hid (HC.out.below hb)
    replace HJ := Lib.hid (HJ.out.below hb)
    replace HB := Lib.hid (below_step HB.out HB.out.size hb)
    clear hb
    go_wp2
    go_ret
    exact ⟨rfl, HB.out⟩
  cases vB : cntB B B'
  · skip
    have hJ0 : J = [] := PJ.out.trans (cj_bad (by rw [vB, Bool.and_false])).1
    have hJ1 : J' = [] := PJ'.out.trans (cj_bad (by rw [vB, Bool.and_false])).2
    clear PJ PJ'
    subst hJ0 hJ1
    have VA := Lib.hid vA
    have VB := Lib.hid vB
    clear vA vB
    go_wp2_with fail
    refine (KO.out A A' true _ _ _ _ _ VA.out hA5 hA6 HA.out).mono ?_
    rintro e u6 ⟨rfl, hb⟩
    replace c5_0 := cells_of hb z5 c5_0
    replace c5_1 := cells_of hb z5 c5_1
    replace z5 := Nat.lt_of_lt_of_le z5 hb.size
    replace c6_0 := cells_of hb z6 c6_0
    replace c6_1 := cells_of hb z6 c6_1
    replace z6 := Nat.lt_of_lt_of_le z6 hb.size
    replace c7_0 := cells_of hb z7 c7_0
    replace c7_1 := cells_of hb z7 c7_1
    replace z7 := Nat.lt_of_lt_of_le z7 hb.size
    replace c8_0 := cells_of hb z8 c8_0
    replace c8_1 := cells_of hb z8 c8_1
    replace z8 := Nat.lt_of_lt_of_le z8 hb.size
    replace c9_0 := cells_of hb z9 c9_0
    replace c9_1 := cells_of hb z9 c9_1
    replace z9 := Nat.lt_of_lt_of_le z9 hb.size
    replace HA := Lib.hid (HA.out.below hb)
    replace HBB := Lib.hid (HBB.out.below hb)
    replace HC := Lib.hid (HC.out.below hb)
    replace HJ := Lib.hid (HJ.out.below hb)
    replace HB := Lib.hid (below_step HB.out HB.out.size hb)
    clear hb
    go_wp2_with fail
    refine (KO.out B B' false _ _ _ _ _ VB.out hB5 hB6 HBB.out).mono ?_
    rintro e u7 ⟨rfl, hb⟩
    replace c5_0 := cells_of hb z5 c5_0
    replace c5_1 := cells_of hb z5 c5_1
    replace z5 := Nat.lt_of_lt_of_le z5 hb.size
    replace c6_0 := cells_of hb z6 c6_0
    replace c6_1 := cells_of hb z6 c6_1
    replace z6 := Nat.lt_of_lt_of_le z6 hb.size
    replace c7_0 := cells_of hb z7 c7_0
    replace c7_1 := cells_of hb z7 c7_1
    replace z7 := Nat.lt_of_lt_of_le z7 hb.size
    replace c8_0 := cells_of hb z8 c8_0
    replace c8_1 := cells_of hb z8 c8_1
    replace z8 := Nat.lt_of_lt_of_le z8 hb.size
    replace c9_0 := cells_of hb z9 c9_0
    replace c9_1 := cells_of hb z9 c9_1
    replace z9 := Nat.lt_of_lt_of_le z9 hb.size
    replace HA := Lib.hid (HA.out.below hb)
    replace HBB := Lib.hid (HBB.out.below hb)
    replace HC := Lib.hid (HC.out.below hb)
    replace HJ := Lib.hid (HJ.out.below hb)
    replace HB := Lib.hid (below_step HB.out HB.out.size hb)
    clear hb
    go_wp2
    go_ret
    exact ⟨rfl, HB.out⟩
  have hjo : cntB J J' = true := by rw [PJ.out, PJ'.out]; exact cj_ok vA vB
  have KBA : Hid (∀ W, IsC W (some ⟨ga, 0, none⟩) (some ⟨ha, 0, none⟩) A A' → IsC W (some ⟨gb, 0, none⟩) (some ⟨hbx, 0, none⟩) B B' → Calls Try.prog 7 #[cntV (some ⟨gb, 0, none⟩) B.length cb (some ⟨hbx, 0, none⟩) B'.length db, cntV (some ⟨ga, 0, none⟩) A.length ca (some ⟨ha, 0, none⟩) A'.length da] W fun e w' => ∃ g c h d, e = .returned (cntV g J.length c h J'.length d) ∧ IsC w' g h J J' ∧ Below W.heap.size W w') := fun W h1 h2 => by
    rw [PJ.out, PJ'.out, (cj_comm A A' B B').1, (cj_comm A A' B B').2]
    exact KI.out B B' A A' W _ _ _ _ _ _ _ _ hB5 hB6 hA5 hA6 h2 h1
  have KAA : Hid (∀ W, IsC W (some ⟨ga, 0, none⟩) (some ⟨ha, 0, none⟩) A A' → Calls Try.prog 7 #[cntV (some ⟨ga, 0, none⟩) A.length ca (some ⟨ha, 0, none⟩) A'.length da, cntV (some ⟨ga, 0, none⟩) A.length ca (some ⟨ha, 0, none⟩) A'.length da] W fun e w' => ∃ g c h d, e = .returned (cntV g A.length c h A'.length d) ∧ IsC w' g h A A' ∧ Below W.heap.size W w') := fun W h1 => by
    have := KI.out A A' A A' W (some ⟨ga, 0, none⟩) ca (some ⟨ha, 0, none⟩) da (some ⟨ga, 0, none⟩) ca (some ⟨ha, 0, none⟩) da hA5 hA6 hA5 hA6 h1 h1
    rw [(cj_self vA).1, (cj_self vA).2] at this
    exact this
  have KLA : Hid (∀ W, IsC W (some ⟨ga, 0, none⟩) (some ⟨ha, 0, none⟩) A A' → IsC W gj hj J J' → Calls Try.prog 12 #[cntV (some ⟨ga, 0, none⟩) A.length ca (some ⟨ha, 0, none⟩) A'.length da, cntV gj J.length cj hj J'.length dj] W fun e w' => e = .returned (.bool true) ∧ Below W.heap.size W w') := fun W h1 h2 => by
    have := implCounterLeq_any _ _ ca _ _ da gj _ cj hj _ dj A A' J J' W rfl (hl _ hA5) rfl (hl _ hA6) h1 rfl (hl _ (by omega)) rfl (hl _ (by omega)) h2
    rw [show leqC A A' J J' = true by rw [PJ.out, PJ'.out]; exact leq_join vA vB] at this
    exact this
  have KLB : Hid (∀ W, IsC W (some ⟨gb, 0, none⟩) (some ⟨hbx, 0, none⟩) B B' → IsC W gj hj J J' → Calls Try.prog 12 #[cntV (some ⟨gb, 0, none⟩) B.length cb (some ⟨hbx, 0, none⟩) B'.length db, cntV gj J.length cj hj J'.length dj] W fun e w' => e = .returned (.bool true) ∧ Below W.heap.size W w') := fun W h1 h2 => by
    have := implCounterLeq_any _ _ cb _ _ db gj _ cj hj _ dj B B' J J' W rfl (hl _ hB5) rfl (hl _ hB6) h1 rfl (hl _ (by omega)) rfl (hl _ (by omega)) h2
    rw [show leqC B B' J J' = true by rw [PJ.out, PJ'.out, (cj_comm A A' B B').1, (cj_comm A A' B B').2]; exact leq_join vB vA] at this
    exact this
  have KIJ : Hid (∀ W, IsC W gj hj J J' → Calls Try.prog 11 #[cntV gj J.length cj hj J'.length dj] W fun e w' => e = .returned (.bool true) ∧ Below W.heap.size W w') := fun W h1 => by
    have := implCounterOk_any _ _ cj _ _ dj J J' W rfl (hl _ (by omega)) rfl (hl _ (by omega)) h1
    rw [hjo] at this
    exact this
  have VA := Lib.hid vA
  have VB := Lib.hid vB
  have VJ := Lib.hid hjo
  clear vA vB hjo
  go_wp2_with fail
  refine (KO.out A A' true _ _ _ _ _ VA.out hA5 hA6 HA.out).mono ?_
  rintro e u8 ⟨rfl, hb⟩
  replace c5_0 := cells_of hb z5 c5_0
  replace c5_1 := cells_of hb z5 c5_1
  replace z5 := Nat.lt_of_lt_of_le z5 hb.size
  replace c6_0 := cells_of hb z6 c6_0
  replace c6_1 := cells_of hb z6 c6_1
  replace z6 := Nat.lt_of_lt_of_le z6 hb.size
  replace c7_0 := cells_of hb z7 c7_0
  replace c7_1 := cells_of hb z7 c7_1
  replace z7 := Nat.lt_of_lt_of_le z7 hb.size
  replace c8_0 := cells_of hb z8 c8_0
  replace c8_1 := cells_of hb z8 c8_1
  replace z8 := Nat.lt_of_lt_of_le z8 hb.size
  replace c9_0 := cells_of hb z9 c9_0
  replace c9_1 := cells_of hb z9 c9_1
  replace z9 := Nat.lt_of_lt_of_le z9 hb.size
  replace HA := Lib.hid (HA.out.below hb)
  replace HBB := Lib.hid (HBB.out.below hb)
  replace HC := Lib.hid (HC.out.below hb)
  replace HJ := Lib.hid (HJ.out.below hb)
  replace HB := Lib.hid (below_step HB.out HB.out.size hb)
  clear hb
  go_wp2_with fail
  refine (KO.out B B' true _ _ _ _ _ VB.out hB5 hB6 HBB.out).mono ?_
  rintro e u9 ⟨rfl, hb⟩
  replace c5_0 := cells_of hb z5 c5_0
  replace c5_1 := cells_of hb z5 c5_1
  replace z5 := Nat.lt_of_lt_of_le z5 hb.size
  replace c6_0 := cells_of hb z6 c6_0
  replace c6_1 := cells_of hb z6 c6_1
  replace z6 := Nat.lt_of_lt_of_le z6 hb.size
  replace c7_0 := cells_of hb z7 c7_0
  replace c7_1 := cells_of hb z7 c7_1
  replace z7 := Nat.lt_of_lt_of_le z7 hb.size
  replace c8_0 := cells_of hb z8 c8_0
  replace c8_1 := cells_of hb z8 c8_1
  replace z8 := Nat.lt_of_lt_of_le z8 hb.size
  replace c9_0 := cells_of hb z9 c9_0
  replace c9_1 := cells_of hb z9 c9_1
  replace z9 := Nat.lt_of_lt_of_le z9 hb.size
  replace HA := Lib.hid (HA.out.below hb)
  replace HBB := Lib.hid (HBB.out.below hb)
  replace HC := Lib.hid (HC.out.below hb)
  replace HJ := Lib.hid (HJ.out.below hb)
  replace HB := Lib.hid (below_step HB.out HB.out.size hb)
  clear hb
  go_wp2_with fail
  refine wp_region_slotsH 31 [[(9, false)], [(47, true)], [(48, true)], [(49, true)], [(9, false), (50, true)], [(6, false), (50, true)], [(5, false), (50, true)], [(52, true), (53, true), (50, true)], [(51, true), (54, true), (50, true)], [(55, true), (50, true)], [(50, true), (56, true)], [(57, true)], [(5, false), (58, true)], [(5, false), (58, true)], [(59, true), (60, true), (58, true)], [(5, false), (58, true)], [(61, true), (62, true), (58, true)], [(63, true), (58, true)], [(58, true), (64, true)], [(65, true)], [(5, false), (66, true)], [(9, false), (66, true)], [(67, true), (68, true), (66, true)], [(69, true), (66, true)], [(66, true), (70, true)], [(71, true)], [(6, false), (72, true)], [(9, false), (72, true)], [(73, true), (74, true), (72, true)], [(75, true), (72, true)], [(72, true), (76, true)]] (fun w' => Below u9.heap.size u9 w') (fun w w' => Below w.heap.size w w') (by kernel_rfl) (by kernel_rfl) (by rfl) (Below.refl _ _).drew (fun _ _ h hb => below_step h h.size hb) ?_
  apply slot_eq_h
  · intro ρ w' ⟨p1, p2, p3⟩ hS hn
    have d0 := cells_of hS z9 c9_0; have d1 := cells_of hS z9 c9_1
    simp at hn
    go_simp
    exact ⟨Below.refl _ _, rfl⟩
  apply slot_eq_h
  · intro ρ w' ⟨p1, p2, p3⟩ hS hn
    simp at hn
    go_simp
    exact got_call (KIJ.out _ (HJ.out.below hS)) fun e w'' ⟨he, hb⟩ => ⟨_, he, hb, rfl⟩
  apply slot_eq_h
  · intro ρ w' ⟨p1, p2, p3⟩ hS hn
    simp at hn
    go_simp
    exact ⟨Below.refl _ _, rfl⟩
  apply slot_eq_h
  · intro ρ w' ⟨p1, p2, p3⟩ hS hn
    simp at hn
    go_simp
    exact ⟨Below.refl _ _, rfl⟩
  apply slot_eq_h
  · intro ρ w' ⟨p1, p2, p3⟩ hS hn
    have d0 := cells_of hS z9 c9_0; have d1 := cells_of hS z9 c9_1
    simp at hn
    refine ⟨50, false, rfl, hn.2, ?_⟩
    rw [if_pos rfl]
    go_simp
    exact ⟨Below.refl _ _, rfl⟩
  apply slot_eq_h
  · intro ρ w' ⟨p1, p2, p3⟩ hS hn
    have d0 := cells_of hS z6 c6_0; have d1 := cells_of hS z6 c6_1
    simp at hn
    refine ⟨50, false, rfl, hn.2, ?_⟩
    rw [if_pos rfl]
    go_simp
    exact ⟨Below.refl _ _, rfl⟩
  apply slot_eq_h
  · intro ρ w' ⟨p1, p2, p3⟩ hS hn
    have d0 := cells_of hS z5 c5_0; have d1 := cells_of hS z5 c5_1
    simp at hn
    refine ⟨50, false, rfl, hn.2, ?_⟩
    rw [if_pos rfl]
    go_simp
    exact ⟨Below.refl _ _, rfl⟩
  refine slot_fact_h (AnsX (J) (J')) (lasts_ansX _ _) ?_ ?_
  · intro ρ w' ⟨p1, p2, p3⟩ hS hn
    simp at hn
    refine ⟨50, false, rfl, hn.2.2, ?_⟩
    rw [if_pos rfl]
    go_simp
    exact got_call (KBA.out _ (HA.out.below hS) (HBB.out.below hS)) fun e w'' ⟨g, c, h, d, he, ho, hb⟩ => ⟨_, he, hb, g, c, h, d, rfl, ho⟩
  apply slot_eq_h
  · intro ρ w' ⟨p1, p2, p3⟩ hS hn
    simp at hn
    refine ⟨50, false, rfl, hn.2.2, ?_⟩
    rw [if_pos rfl]
    obtain ⟨e0, ⟨g, c, h, d, e1, h1⟩, -⟩ := hn
    go_simp
    exact got_call (KE.out J J' _ _ _ _ _ _ _ _ _ (by omega) (by omega) (HJ.out.below hS) h1) fun e w'' ⟨he, hb⟩ => ⟨_, he, hb, rfl⟩
  apply slot_eq_h
  · intro ρ w' ⟨p1, p2, p3⟩ hS hn
    simp at hn
    refine ⟨50, false, rfl, hn.2, ?_⟩
    rw [if_pos rfl]
    go_simp
    exact ⟨Below.refl _ _, rfl⟩
  apply slot_eq_h
  · intro ρ w' ⟨p1, p2, p3⟩ hS hn
    simp at hn
    go_simp
    exact ⟨Below.refl _ _, rfl⟩
  apply slot_eq_h
  · intro ρ w' ⟨p1, p2, p3⟩ hS hn
    simp at hn
    go_simp
    exact ⟨Below.refl _ _, rfl⟩
  apply slot_eq_h
  · intro ρ w' ⟨p1, p2, p3⟩ hS hn
    have d0 := cells_of hS z5 c5_0; have d1 := cells_of hS z5 c5_1
    simp at hn
    refine ⟨58, false, rfl, hn.2, ?_⟩
    rw [if_pos rfl]
    go_simp
    exact ⟨Below.refl _ _, rfl⟩
  apply slot_eq_h
  · intro ρ w' ⟨p1, p2, p3⟩ hS hn
    have d0 := cells_of hS z5 c5_0; have d1 := cells_of hS z5 c5_1
    simp at hn
    refine ⟨58, false, rfl, hn.2, ?_⟩
    rw [if_pos rfl]
    go_simp
    exact ⟨Below.refl _ _, rfl⟩
  refine slot_fact_h (AnsX (A) (A')) (lasts_ansX _ _) ?_ ?_
  · intro ρ w' ⟨p1, p2, p3⟩ hS hn
    simp at hn
    refine ⟨58, false, rfl, hn.2.2, ?_⟩
    rw [if_pos rfl]
    go_simp
    exact got_call (KAA.out _ (HA.out.below hS)) fun e w'' ⟨g, c, h, d, he, ho, hb⟩ => ⟨_, he, hb, g, c, h, d, rfl, ho⟩
  apply slot_eq_h
  · intro ρ w' ⟨p1, p2, p3⟩ hS hn
    have d0 := cells_of hS z5 c5_0; have d1 := cells_of hS z5 c5_1
    simp at hn
    refine ⟨58, false, rfl, hn.2, ?_⟩
    rw [if_pos rfl]
    go_simp
    exact ⟨Below.refl _ _, rfl⟩
  apply slot_eq_h
  · intro ρ w' ⟨p1, p2, p3⟩ hS hn
    simp at hn
    refine ⟨58, false, rfl, hn.2.2, ?_⟩
    rw [if_pos rfl]
    obtain ⟨⟨g, c, h, d, e1, h1⟩, e0, -⟩ := hn
    go_simp
    exact got_call (KE.out A A' _ _ _ _ _ _ _ _ _ (by omega) (by omega) h1 (HA.out.below hS)) fun e w'' ⟨he, hb⟩ => ⟨_, he, hb, rfl⟩
  apply slot_eq_h
  · intro ρ w' ⟨p1, p2, p3⟩ hS hn
    simp at hn
    refine ⟨58, false, rfl, hn.2, ?_⟩
    rw [if_pos rfl]
    go_simp
    exact ⟨Below.refl _ _, rfl⟩
  apply slot_eq_h
  · intro ρ w' ⟨p1, p2, p3⟩ hS hn
    simp at hn
    go_simp
    exact ⟨Below.refl _ _, rfl⟩
  apply slot_eq_h
  · intro ρ w' ⟨p1, p2, p3⟩ hS hn
    simp at hn
    go_simp
    exact ⟨Below.refl _ _, rfl⟩
  apply slot_eq_h
  · intro ρ w' ⟨p1, p2, p3⟩ hS hn
    have d0 := cells_of hS z5 c5_0; have d1 := cells_of hS z5 c5_1
    simp at hn
    refine ⟨66, false, rfl, hn.2, ?_⟩
    rw [if_pos rfl]
    go_simp
    exact ⟨Below.refl _ _, rfl⟩
  apply slot_eq_h
  · intro ρ w' ⟨p1, p2, p3⟩ hS hn
    have d0 := cells_of hS z9 c9_0; have d1 := cells_of hS z9 c9_1
    simp at hn
    refine ⟨66, false, rfl, hn.2, ?_⟩
    rw [if_pos rfl]
    go_simp
    exact ⟨Below.refl _ _, rfl⟩
  apply slot_eq_h
  · intro ρ w' ⟨p1, p2, p3⟩ hS hn
    simp at hn
    refine ⟨66, false, rfl, hn.2.2, ?_⟩
    rw [if_pos rfl]
    go_simp
    exact got_call (KLA.out _ (HA.out.below hS) (HJ.out.below hS)) fun e w'' ⟨he, hb⟩ => ⟨_, he, hb, rfl⟩
  apply slot_eq_h
  · intro ρ w' ⟨p1, p2, p3⟩ hS hn
    simp at hn
    refine ⟨66, false, rfl, hn.2, ?_⟩
    rw [if_pos rfl]
    go_simp
    exact ⟨Below.refl _ _, rfl⟩
  apply slot_eq_h
  · intro ρ w' ⟨p1, p2, p3⟩ hS hn
    simp at hn
    go_simp
    exact ⟨Below.refl _ _, rfl⟩
  apply slot_eq_h
  · intro ρ w' ⟨p1, p2, p3⟩ hS hn
    simp at hn
    go_simp
    exact ⟨Below.refl _ _, rfl⟩
  apply slot_eq_h
  · intro ρ w' ⟨p1, p2, p3⟩ hS hn
    have d0 := cells_of hS z6 c6_0; have d1 := cells_of hS z6 c6_1
    simp at hn
    refine ⟨72, false, rfl, hn.2, ?_⟩
    rw [if_pos rfl]
    go_simp
    exact ⟨Below.refl _ _, rfl⟩
  apply slot_eq_h
  · intro ρ w' ⟨p1, p2, p3⟩ hS hn
    have d0 := cells_of hS z9 c9_0; have d1 := cells_of hS z9 c9_1
    simp at hn
    refine ⟨72, false, rfl, hn.2, ?_⟩
    rw [if_pos rfl]
    go_simp
    exact ⟨Below.refl _ _, rfl⟩
  apply slot_eq_h
  · intro ρ w' ⟨p1, p2, p3⟩ hS hn
    simp at hn
    refine ⟨72, false, rfl, hn.2.2, ?_⟩
    rw [if_pos rfl]
    go_simp
    exact got_call (KLB.out _ (HBB.out.below hS) (HJ.out.below hS)) fun e w'' ⟨he, hb⟩ => ⟨_, he, hb, rfl⟩
  apply slot_eq_h
  · intro ρ w' ⟨p1, p2, p3⟩ hS hn
    simp at hn
    refine ⟨72, false, rfl, hn.2, ?_⟩
    rw [if_pos rfl]
    go_simp
    exact ⟨Below.refl _ _, rfl⟩
  apply slot_eq_h
  · intro ρ w' ⟨p1, p2, p3⟩ hS hn
    simp at hn
    go_simp
    exact ⟨Below.refl _ _, rfl⟩
  refine slot_end_h ?_
  rintro vs u10 hS hF
  simp at hF
  obtain ⟨f77, f76, f75, f74, f73, f72, f71, f70, f69, f68, f67, f66, f65, f64, f63, f62, ⟨_, _, _, _, f61, -⟩, f60, f59, f58, f57, f56, f55, ⟨_, _, _, _, f54, -⟩, f53, f52, f51, f50, f49, f48, f47⟩ := hF
  simp only [List.take_succ_cons, List.take_zero, List.drop_succ_cons, List.drop_zero, putAll, f77, f76, f75, f74, f73, f72, f71, f70, f69, f68, f67, f66, f65, f64, f63, f62, f61, f60, f59, f58, f57, f56, f55, f54, f53, f52, f51, f50, f49, f48, f47]
  clear f77 f76 f75 f74 f73 f72 f71 f70 f69 f68 f67 f66 f65 f64 f63 f62 f61 f60 f59 f58 f57 f56 f55 f54 f53 f52 f51 f50 f49 f48 f47
  simp only [Act.put, List.setIfInBounds_toArray, List.set_cons_succ, List.set_cons_zero]
  replace c5_0 := cells_of hS z5 c5_0
  replace c5_1 := cells_of hS z5 c5_1
  replace z5 := Nat.lt_of_lt_of_le z5 hS.size
  replace c6_0 := cells_of hS z6 c6_0
  replace c6_1 := cells_of hS z6 c6_1
  replace z6 := Nat.lt_of_lt_of_le z6 hS.size
  replace c7_0 := cells_of hS z7 c7_0
  replace c7_1 := cells_of hS z7 c7_1
  replace z7 := Nat.lt_of_lt_of_le z7 hS.size
  replace c8_0 := cells_of hS z8 c8_0
  replace c8_1 := cells_of hS z8 c8_1
  replace z8 := Nat.lt_of_lt_of_le z8 hS.size
  replace c9_0 := cells_of hS z9 c9_0
  replace c9_1 := cells_of hS z9 c9_1
  replace z9 := Nat.lt_of_lt_of_le z9 hS.size
  replace HA := Lib.hid (HA.out.below hS)
  replace HBB := Lib.hid (HBB.out.below hS)
  replace HC := Lib.hid (HC.out.below hS)
  replace HJ := Lib.hid (HJ.out.below hS)
  replace HB := Lib.hid (below_step HB.out HB.out.size hS)
  clear hS
  clear KBA KAA KLA KLB KIJ
  cases vC : cntB C C'
  · skip
    have KOC : Hid (∀ W, IsC W (some ⟨gc, 0, none⟩) (some ⟨hc, 0, none⟩) C C' → Calls Try.prog 10 #[cntV (some ⟨gc, 0, none⟩) C.length cc (some ⟨hc, 0, none⟩) C'.length dc] W fun e w' => e = .returned (.bool false) ∧ Below W.heap.size W w') := fun W h1 => KO.out C C' false W _ _ _ _ vC hC5 hC6 h1
    clear vC
    go_wp2_with fail
    refine wp_region_slotsH 14 [[(7, false)], [(78, true)], [(79, true)], [(80, true)], [(81, true)], [(81, true)], [(81, true)], [(81, true)], [(81, true)], [(81, true)], [(81, true)], [(81, true)], [(81, true)], [(81, true), (90, true)]] (fun w' => Below u10.heap.size u10 w') (fun w w' => Below w.heap.size w w') (by kernel_rfl) (by kernel_rfl) (by rfl) (Below.refl _ _).drew (fun _ _ h hb => below_step h h.size hb) ?_
    apply slot_eq_h
    · intro ρ w' ⟨p1, p2, p3⟩ hS hn
      have d0 := cells_of hS z7 c7_0; have d1 := cells_of hS z7 c7_1
      simp at hn
      go_simp
      exact ⟨Below.refl _ _, rfl⟩
    apply slot_eq_h
    · intro ρ w' ⟨p1, p2, p3⟩ hS hn
      simp at hn
      go_simp
      exact got_call (KOC.out _ (HC.out.below hS)) fun e w'' ⟨he, hb⟩ => ⟨_, he, hb, rfl⟩
    apply slot_eq_h
    · intro ρ w' ⟨p1, p2, p3⟩ hS hn
      simp at hn
      go_simp
      exact ⟨Below.refl _ _, rfl⟩
    apply slot_eq_h
    · intro ρ w' ⟨p1, p2, p3⟩ hS hn
      simp at hn
      go_simp
      exact ⟨Below.refl _ _, rfl⟩
    apply slot_eq_h
    · intro ρ w' ⟨p1, p2, p3⟩ hS hn
      simp at hn
      exact ⟨81, true, rfl, hn, by rw [if_neg (by simp)]; exact ⟨Below.refl _ _, rfl⟩⟩
    apply slot_eq_h
    · intro ρ w' ⟨p1, p2, p3⟩ hS hn
      simp at hn
      exact ⟨81, true, rfl, hn, by rw [if_neg (by simp)]; exact ⟨Below.refl _ _, rfl⟩⟩
    apply slot_eq_h
    · intro ρ w' ⟨p1, p2, p3⟩ hS hn
      simp at hn
      exact ⟨81, true, rfl, hn, by rw [if_neg (by simp)]; exact ⟨Below.refl _ _, rfl⟩⟩
    apply slot_eq_h
    · intro ρ w' ⟨p1, p2, p3⟩ hS hn
      simp at hn
      exact ⟨81, true, rfl, hn, by rw [if_neg (by simp)]; exact ⟨Below.refl _ _, rfl⟩⟩
    apply slot_eq_h
    · intro ρ w' ⟨p1, p2, p3⟩ hS hn
      simp at hn
      exact ⟨81, true, rfl, hn, by rw [if_neg (by simp)]; exact ⟨Below.refl _ _, rfl⟩⟩
    apply slot_eq_h
    · intro ρ w' ⟨p1, p2, p3⟩ hS hn
      simp at hn
      exact ⟨81, true, rfl, hn, by rw [if_neg (by simp)]; exact ⟨Below.refl _ _, rfl⟩⟩
    apply slot_eq_h
    · intro ρ w' ⟨p1, p2, p3⟩ hS hn
      simp at hn
      exact ⟨81, true, rfl, hn, by rw [if_neg (by simp)]; exact ⟨Below.refl _ _, rfl⟩⟩
    apply slot_eq_h
    · intro ρ w' ⟨p1, p2, p3⟩ hS hn
      simp at hn
      exact ⟨81, true, rfl, hn, by rw [if_neg (by simp)]; exact ⟨Below.refl _ _, rfl⟩⟩
    apply slot_eq_h
    · intro ρ w' ⟨p1, p2, p3⟩ hS hn
      simp at hn
      exact ⟨81, true, rfl, hn, by rw [if_neg (by simp)]; exact ⟨Below.refl _ _, rfl⟩⟩
    apply slot_eq_h
    · intro ρ w' ⟨p1, p2, p3⟩ hS hn
      simp at hn
      go_simp
      exact ⟨Below.refl _ _, rfl⟩
    refine slot_end_h ?_
    rintro vs u11 hS hF
    simp at hF
    obtain ⟨f91, f90, f89, f88, f87, f86, f85, f84, f83, f82, f81, f80, f79, f78⟩ := hF
    simp only [List.take_succ_cons, List.take_zero, List.drop_succ_cons, List.drop_zero, putAll, f91, f90, f89, f88, f87, f86, f85, f84, f83, f82, f81, f80, f79, f78]
    clear f91 f90 f89 f88 f87 f86 f85 f84 f83 f82 f81 f80 f79 f78
    simp only [Act.put, List.setIfInBounds_toArray, List.set_cons_succ, List.set_cons_zero]
    replace c5_0 := cells_of hS z5 c5_0
    replace c5_1 := cells_of hS z5 c5_1
    replace z5 := Nat.lt_of_lt_of_le z5 hS.size
    replace c6_0 := cells_of hS z6 c6_0
    replace c6_1 := cells_of hS z6 c6_1
    replace z6 := Nat.lt_of_lt_of_le z6 hS.size
    replace c7_0 := cells_of hS z7 c7_0
    replace c7_1 := cells_of hS z7 c7_1
    replace z7 := Nat.lt_of_lt_of_le z7 hS.size
    replace c8_0 := cells_of hS z8 c8_0
    replace c8_1 := cells_of hS z8 c8_1
    replace z8 := Nat.lt_of_lt_of_le z8 hS.size
    replace c9_0 := cells_of hS z9 c9_0
    replace c9_1 := cells_of hS z9 c9_1
    replace z9 := Nat.lt_of_lt_of_le z9 hS.size
    replace HA := Lib.hid (HA.out.below hS)
    replace HBB := Lib.hid (HBB.out.below hS)
    replace HC := Lib.hid (HC.out.below hS)
    replace HJ := Lib.hid (HJ.out.below hS)
    replace HB := Lib.hid (below_step HB.out HB.out.size hS)
    clear hS
    go_wp2
    go_ret
    exact ⟨rfl, HB.out⟩
  · skip
    have KOC : Hid (∀ W, IsC W (some ⟨gc, 0, none⟩) (some ⟨hc, 0, none⟩) C C' → Calls Try.prog 10 #[cntV (some ⟨gc, 0, none⟩) C.length cc (some ⟨hc, 0, none⟩) C'.length dc] W fun e w' => e = .returned (.bool true) ∧ Below W.heap.size W w') := fun W h1 => KO.out C C' true W _ _ _ _ vC hC5 hC6 h1
    obtain ⟨a1, a2⟩ := cj_assoc VA.out VB.out vC
    rw [← PJ.out, ← PJ'.out] at a1 a2
    have m4 := cj_few B B' C C'
    have l4 := cj_few J J' C C'
    obtain ⟨M, hM⟩ : ∃ M, M = cjU B B' C C' := ⟨_, rfl⟩
    obtain ⟨M', hM'⟩ : ∃ M, M = cjD B B' C C' := ⟨_, rfl⟩
    obtain ⟨L, hL⟩ : ∃ L, L = cjU J J' C C' := ⟨_, rfl⟩
    obtain ⟨L', hL'⟩ : ∃ L, L = cjD J J' C C' := ⟨_, rfl⟩
    rw [← hM, ← hM'] at a1 a2 m4
    rw [← hL, ← hL'] at l4
    rw [← hL] at a1
    rw [← hL'] at a2
    obtain ⟨m5, m6⟩ := m4
    obtain ⟨l5, l6⟩ := l4
    have KJC : Hid (∀ W, IsC W gj hj J J' → IsC W (some ⟨gc, 0, none⟩) (some ⟨hc, 0, none⟩) C C' → Calls Try.prog 7 #[cntV gj J.length cj hj J'.length dj, cntV (some ⟨gc, 0, none⟩) C.length cc (some ⟨hc, 0, none⟩) C'.length dc] W fun e w' => ∃ g c h d, e = .returned (cntV g L.length c h L'.length d) ∧ IsC w' g h L L' ∧ Below W.heap.size W w') := fun W h1 h2 => by
      rw [hL, hL']
      exact KI.out J J' C C' W _ _ _ _ _ _ _ _ (by omega) (by omega) hC5 hC6 h1 h2
    have KBC : Hid (∀ W, IsC W (some ⟨gb, 0, none⟩) (some ⟨hbx, 0, none⟩) B B' → IsC W (some ⟨gc, 0, none⟩) (some ⟨hc, 0, none⟩) C C' → Calls Try.prog 7 #[cntV (some ⟨gb, 0, none⟩) B.length cb (some ⟨hbx, 0, none⟩) B'.length db, cntV (some ⟨gc, 0, none⟩) C.length cc (some ⟨hc, 0, none⟩) C'.length dc] W fun e w' => ∃ g c h d, e = .returned (cntV g M.length c h M'.length d) ∧ IsC w' g h M M' ∧ Below W.heap.size W w') := fun W h1 h2 => by
      rw [hM, hM']
      exact KI.out B B' C C' W _ _ _ _ _ _ _ _ hB5 hB6 hC5 hC6 h1 h2
    have KAM : Hid (∀ W g c h d, IsC W (some ⟨ga, 0, none⟩) (some ⟨ha, 0, none⟩) A A' → IsC W g h M M' → Calls Try.prog 7 #[cntV (some ⟨ga, 0, none⟩) A.length ca (some ⟨ha, 0, none⟩) A'.length da, cntV g M.length c h M'.length d] W fun e w' => ∃ g c h d, e = .returned (cntV g L.length c h L'.length d) ∧ IsC w' g h L L' ∧ Below W.heap.size W w') := fun W g c h d h1 h2 => by
      rw [a1, a2]
      exact KI.out A A' M M' W _ _ _ _ _ _ _ _ hA5 hA6 (by omega) (by omega) h1 h2
    clear a1 a2 hM hM' hL hL'
    clear vC
    go_wp2_with fail
    refine wp_region_slotsH 14 [[(7, false)], [(78, true)], [(79, true)], [(80, true)], [(9, false), (81, true)], [(7, false), (81, true)], [(82, true), (83, true), (81, true)], [(5, false), (81, true)], [(6, false), (81, true)], [(7, false), (81, true)], [(86, true), (87, true), (81, true)], [(85, true), (88, true), (81, true)], [(84, true), (89, true), (81, true)], [(81, true), (90, true)]] (fun w' => Below u10.heap.size u10 w') (fun w w' => Below w.heap.size w w') (by kernel_rfl) (by kernel_rfl) (by rfl) (Below.refl _ _).drew (fun _ _ h hb => below_step h h.size hb) ?_
    apply slot_eq_h
    · intro ρ w' ⟨p1, p2, p3⟩ hS hn
      have d0 := cells_of hS z7 c7_0; have d1 := cells_of hS z7 c7_1
      simp at hn
      go_simp
      exact ⟨Below.refl _ _, rfl⟩
    apply slot_eq_h
    · intro ρ w' ⟨p1, p2, p3⟩ hS hn
      simp at hn
      go_simp
      exact got_call (KOC.out _ (HC.out.below hS)) fun e w'' ⟨he, hb⟩ => ⟨_, he, hb, rfl⟩
    apply slot_eq_h
    · intro ρ w' ⟨p1, p2, p3⟩ hS hn
      simp at hn
      go_simp
      exact ⟨Below.refl _ _, rfl⟩
    apply slot_eq_h
    · intro ρ w' ⟨p1, p2, p3⟩ hS hn
      simp at hn
      go_simp
      exact ⟨Below.refl _ _, rfl⟩
    apply slot_eq_h
    · intro ρ w' ⟨p1, p2, p3⟩ hS hn
      have d0 := cells_of hS z9 c9_0; have d1 := cells_of hS z9 c9_1
      simp at hn
      refine ⟨81, false, rfl, hn.2, ?_⟩
      rw [if_pos rfl]
      go_simp
      exact ⟨Below.refl _ _, rfl⟩
    apply slot_eq_h
    · intro ρ w' ⟨p1, p2, p3⟩ hS hn
      have d0 := cells_of hS z7 c7_0; have d1 := cells_of hS z7 c7_1
      simp at hn
      refine ⟨81, false, rfl, hn.2, ?_⟩
      rw [if_pos rfl]
      go_simp
      exact ⟨Below.refl _ _, rfl⟩
    refine slot_fact_h (AnsX (L) (L')) (lasts_ansX _ _) ?_ ?_
    · intro ρ w' ⟨p1, p2, p3⟩ hS hn
      simp at hn
      refine ⟨81, false, rfl, hn.2.2, ?_⟩
      rw [if_pos rfl]
      go_simp
      exact got_call (KJC.out _ (HJ.out.below hS) (HC.out.below hS)) fun e w'' ⟨g, c, h, d, he, ho, hb⟩ => ⟨_, he, hb, g, c, h, d, rfl, ho⟩
    apply slot_eq_h
    · intro ρ w' ⟨p1, p2, p3⟩ hS hn
      have d0 := cells_of hS z5 c5_0; have d1 := cells_of hS z5 c5_1
      simp at hn
      refine ⟨81, false, rfl, hn.2, ?_⟩
      rw [if_pos rfl]
      go_simp
      exact ⟨Below.refl _ _, rfl⟩
    apply slot_eq_h
    · intro ρ w' ⟨p1, p2, p3⟩ hS hn
      have d0 := cells_of hS z6 c6_0; have d1 := cells_of hS z6 c6_1
      simp at hn
      refine ⟨81, false, rfl, hn.2, ?_⟩
      rw [if_pos rfl]
      go_simp
      exact ⟨Below.refl _ _, rfl⟩
    apply slot_eq_h
    · intro ρ w' ⟨p1, p2, p3⟩ hS hn
      have d0 := cells_of hS z7 c7_0; have d1 := cells_of hS z7 c7_1
      simp at hn
      refine ⟨81, false, rfl, hn.2, ?_⟩
      rw [if_pos rfl]
      go_simp
      exact ⟨Below.refl _ _, rfl⟩
    refine slot_fact_h (AnsX (M) (M')) (lasts_ansX _ _) ?_ ?_
    · intro ρ w' ⟨p1, p2, p3⟩ hS hn
      simp at hn
      refine ⟨81, false, rfl, hn.2.2, ?_⟩
      rw [if_pos rfl]
      go_simp
      exact got_call (KBC.out _ (HBB.out.below hS) (HC.out.below hS)) fun e w'' ⟨g, c, h, d, he, ho, hb⟩ => ⟨_, he, hb, g, c, h, d, rfl, ho⟩
    refine slot_fact_h (AnsX (L) (L')) (lasts_ansX _ _) ?_ ?_
    · intro ρ w' ⟨p1, p2, p3⟩ hS hn
      simp at hn
      refine ⟨81, false, rfl, hn.2.2, ?_⟩
      rw [if_pos rfl]
      obtain ⟨e0, ⟨g, c, h, d, e1, h1⟩, -⟩ := hn
      go_simp
      exact got_call (KAM.out _ _ _ _ _ (HA.out.below hS) h1) fun e w'' ⟨g, c, h, d, he, ho, hb⟩ => ⟨_, he, hb, g, c, h, d, rfl, ho⟩
    apply slot_eq_h
    · intro ρ w' ⟨p1, p2, p3⟩ hS hn
      simp at hn
      refine ⟨81, false, rfl, hn.2.2, ?_⟩
      rw [if_pos rfl]
      obtain ⟨⟨g, c, h, d, e1, h1⟩, ⟨g', c', h', d', e2, h2⟩, -⟩ := hn
      go_simp
      exact got_call (KE.out L L' _ _ _ _ _ _ _ _ _ (by omega) (by omega) h1 h2) fun e w'' ⟨he, hb⟩ => ⟨_, he, hb, rfl⟩
    apply slot_eq_h
    · intro ρ w' ⟨p1, p2, p3⟩ hS hn
      simp at hn
      go_simp
      exact ⟨Below.refl _ _, rfl⟩
    refine slot_end_h ?_
    rintro vs u12 hS hF
    simp at hF
    obtain ⟨f91, f90, ⟨_, _, _, _, f89, -⟩, ⟨_, _, _, _, f88, -⟩, f87, f86, f85, ⟨_, _, _, _, f84, -⟩, f83, f82, f81, f80, f79, f78⟩ := hF
    simp only [List.take_succ_cons, List.take_zero, List.drop_succ_cons, List.drop_zero, putAll, f91, f90, f89, f88, f87, f86, f85, f84, f83, f82, f81, f80, f79, f78]
    clear f91 f90 f89 f88 f87 f86 f85 f84 f83 f82 f81 f80 f79 f78
    simp only [Act.put, List.setIfInBounds_toArray, List.set_cons_succ, List.set_cons_zero]
    replace c5_0 := cells_of hS z5 c5_0
    replace c5_1 := cells_of hS z5 c5_1
    replace z5 := Nat.lt_of_lt_of_le z5 hS.size
    replace c6_0 := cells_of hS z6 c6_0
    replace c6_1 := cells_of hS z6 c6_1
    replace z6 := Nat.lt_of_lt_of_le z6 hS.size
    replace c7_0 := cells_of hS z7 c7_0
    replace c7_1 := cells_of hS z7 c7_1
    replace z7 := Nat.lt_of_lt_of_le z7 hS.size
    replace c8_0 := cells_of hS z8 c8_0
    replace c8_1 := cells_of hS z8 c8_1
    replace z8 := Nat.lt_of_lt_of_le z8 hS.size
    replace c9_0 := cells_of hS z9 c9_0
    replace c9_1 := cells_of hS z9 c9_1
    replace z9 := Nat.lt_of_lt_of_le z9 hS.size
    replace HA := Lib.hid (HA.out.below hS)
    replace HBB := Lib.hid (HBB.out.below hS)
    replace HC := Lib.hid (HC.out.below hS)
    replace HJ := Lib.hid (HJ.out.below hS)
    replace HB := Lib.hid (below_step HB.out HB.out.size hS)
    clear hS
    go_wp2
    go_ret
    exact ⟨rfl, HB.out⟩

theorem walk (a : Option Addr) (len cap : Nat) (a' : Option Addr) (len' cap' : Nat) (w : World) (h : len ≤ maxLen ∧ Bytes w a len) (h' : len' ≤ maxLen ∧ Bytes w a' len') :
    Calls Try.prog 3 #[.slice a len cap, .slice a' len' cap'] w fun e w' => e = .returned (.bool true) ∧ Below w.heap.size w w' := by
  by_cases hl : len ≤ 1048576
  · by_cases hl' : len' ≤ 1048576
    · exact walk_small a len cap a' len' cap' w h.2 hl h'.2 hl'
    · exact walk_big2 a len cap a' len' cap' w hl h'.1 (by omega)
  · exact walk_big1 a len cap _ w h.1 (by omega)

set_option maxRecDepth 100000 in
theorem lifted (os : Os) (started : os.Started) (H : Type) (enc : TypeId × Value → H) :
    ReturnsInHanded {} Try.checked os 3 .any (Rows.fnCountersSpec.pre6 enc Try.prog Try.f3 Rows.fnCountersRow.domain false) (Rows.fnCountersSpec.post enc Try.prog Try.f3 false true false false) := by
  refine returnsInHanded_of_change (C := Try.checked) own started (by kernel_rfl) Try.func3
    (ChangeSpec.witness6 (enc := enc) (C := Try.checked) false ⟨#[], #[.slice none 0 0, .slice none 0 0], []⟩ 8 (by kernel_rfl) (by kernel_rfl) (by kernel_rfl) (by kernel_rfl)) ?_
  intro W base args ds gs before hval0 hW hcnd _
  have hval : ∀ (j : Nat) t v, Try.f3.params[j]? = some t → args[j]? = some v → Value.okWide Try.prog W .any base t v := hval0
  have hW' := hW
  obtain ⟨p, q, hA0, hV, rfl, hfz, hnd⟩ := hW
  have hA : DataW.TrodAll enc Try.prog W 0 (fun _ => true) true Try.f3.params.toList args.toList ds p := hA0
  rw [Try.params3] at hA hval
  obtain ⟨v0, v1, d0, d1, p0, p1, rfl, rfl, rfl, h0, h1⟩ := trodAll_two hA
  have k0 := h0
  have lt0 : ∀ x ∈ p0, x.block < W.heap.size := by obtain ⟨m, hm⟩ := k0; exact DataW.trod_lt m _ _ _ hm
  have k1 := h1
  have lt1 : ∀ x ∈ p1, x.block < W.heap.size := by obtain ⟨m, hm⟩ := k1; exact DataW.trod_lt m _ _ _ hm
  obtain ⟨rfl, rfl⟩ := trodVars_none hV
  obtain ⟨a0, len0, cap0, hv0, hr0⟩ := open_bytes (hval 0 22 v0 rfl rfl) h0
  subst hv0
  obtain ⟨a1, len1, cap1, hv1, hr1⟩ := open_bytes (hval 1 22 v1 rfl rfl) h1
  subst hv1
  clear hA0 hval0
  refine (walk a0 len0 cap0 a1 len1 cap1 W hr0 hr1).mono fun e W' ⟨he, bel⟩ => ?_
  subst he
  exact ⟨_, rfl, _, _, _, [], _, [], hW', trodAll_mk1 (shut_bool Try.underlying4 _), (trodAll_mk2 (Below.trod laidOut (by kernel_rfl) (of_decide_eq_true (by kernel_rfl)) k0 bel lt0) (Below.trod laidOut (by kernel_rfl) (of_decide_eq_true (by kernel_rfl)) k1 bel lt1)), rfl, bel.frame _, fun h => by cases h⟩

theorem over : Rows.fnCountersRow.holds Try.pinned (OpenSpec.ofChange Rows.fnCountersSpec) :=
  OpenClaim.holds_of_wide 3 Try.f3 rfl rfl rfl rfl rfl rfl rfl ⟨rfl, rfl, rfl, rfl, rfl⟩ rfl rfl rfl rfl rfl (by kernel_rfl) Try.func3 (by kernel_rfl)
    (of_decide_eq_true (by kernel_rfl)) (by unfold Func.isWrapper; rw [if_neg (by decide +kernel)]; exact ⟨rfl, rfl⟩)
    (fun os started H enc _ => lifted os started H enc)

end Go.Proofs.Ytaopkoamjfmhhaa.lawCounters
namespace Go.Proofs.Ytaopkoamjfmhhaa
theorem fnCounters_holds : Rows.FnCountersSaid := lawCounters.over
#print axioms fnCounters_holds
end Go.Proofs.Ytaopkoamjfmhhaa
