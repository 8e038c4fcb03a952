/- At every two vectors the law FnExactVecJoin answers true: impl.VecJoin answers as spec.VecJoin, leaves its arguments as they were, and its answer owns its memory. No conditions. -/
import Derived.Test.YtolmlcbgdihcbaaPack5
import Derived.Test.YtolmlcbgdihcbaaRows
import Derived.Deep.DeepCutAuto
namespace Go.Proofs.Ytolmlcbgdihcbaa.lawVecJoin
open Go.ChangeShapes Go.WideShapes Go.ChangeAt Go.RowKit Go.Joins
attribute [local go_sem ↓] Go.wp_at_zero Go.wp_at_succ

set_option maxRecDepth 100000 in
set_option maxHeartbeats 1000000 in
theorem walk_big0 (a0 : Option Addr) (n0 cap0 : Nat) (a1 : Option Addr) (n1 cap1 : Nat) (w : World) (hm0 : n0 ≤ maxLen)  (h : 1048576 < n0) :
    Calls Try.prog 4 #[vecV a0 n0 cap0, vecV a1 n1 cap1] w fun e w' => e = .returned (.bool true) ∧ Below w.heap.size w w' := by
  go_enter Try.func4, Try.ntmps4
  go_wp2_with fail
  have HB : Hid (Below w.heap.size w ((w.alloc (.cells #[.slice a0 n0 cap0] 24)).alloc (.cells #[.slice a1 n1 cap1] 24))) := ((Below.refl _ _).alloc (Nat.le_refl _) _).alloc (by simp) _
  refine (szVec_big _ _ _ _ _ (by omega) (by omega) (by omega) hm0).mono ?_
  rintro e w0 ⟨rfl, hb⟩
  replace HB := Lib.hid (below_step HB.out HB.out.size hb)
  clear hb
  go_wp2
  go_ret
  exact ⟨rfl, HB.out⟩

set_option maxRecDepth 100000 in
set_option maxHeartbeats 1000000 in
theorem walk_big1 (a0 : Option Addr) (n0 cap0 : Nat) (a1 : Option Addr) (n1 cap1 : Nat) (w : World) (hm1 : n1 ≤ maxLen) (h0 : n0 ≤ 1048576) (h : 1048576 < n0 + n1) :
    Calls Try.prog 4 #[vecV a0 n0 cap0, vecV a1 n1 cap1] w fun e w' => e = .returned (.bool true) ∧ Below w.heap.size w w' := by
  go_enter Try.func4, Try.ntmps4
  go_wp2_with fail
  have HB : Hid (Below w.heap.size w ((w.alloc (.cells #[.slice a0 n0 cap0] 24)).alloc (.cells #[.slice a1 n1 cap1] 24))) := ((Below.refl _ _).alloc (Nat.le_refl _) _).alloc (by simp) _
  refine (szVec_small _ _ _ _ _ (by omega) (by omega) (by omega)).mono ?_
  rintro e w0 ⟨rfl, hb⟩
  replace HB := Lib.hid (below_step HB.out HB.out.size hb)
  have c0 := (hb.cell (p := ⟨w.heap.size + 1, 0, none⟩) (by simp)).trans (show ((w.alloc (.cells #[.slice a0 n0 cap0] 24)).alloc (.cells #[.slice a1 n1 cap1] 24)).cell? ⟨w.heap.size + 1, 0, none⟩ = some (.slice a1 n1 cap1) by go_simp)
  clear hb
  go_wp2_with fail
  refine (szVec_big _ _ _ _ _ (by omega) (by omega) (by omega) hm1).mono ?_
  rintro e w1 ⟨rfl, hb⟩
  replace HB := Lib.hid (below_step HB.out HB.out.size hb)
  clear hb
  go_wp2
  go_ret
  exact ⟨rfl, HB.out⟩

set_option maxRecDepth 100000 in
set_option maxHeartbeats 8000000 in
theorem walk_small (a0 : Option Addr) (n0 cap0 : Nat) (zs0 : List Int) (a1 : Option Addr) (n1 cap1 : Nat) (zs1 : List Int) (w : World) (hl0 : zs0.length = n0) (hi0 : IsIs w a0 zs0) (hl1 : zs1.length = n1) (hi1 : IsIs w a1 zs1) (h : n0 + n1 ≤ 1048576) :
    Calls Try.prog 4 #[vecV a0 n0 cap0, vecV a1 n1 cap1] w fun e w' => e = .returned (.bool true) ∧ Below w.heap.size w w' := by
  have HI0 : Hid (IsIs w a0 zs0) := hi0
  have HN0 : Hid (zs0.length = n0) := hl0
  have hm0 : n0 ≤ maxLen := by unfold maxLen; omega
  have hn0 : n0 ≤ 1048576 := by omega
  have HI1 : Hid (IsIs w a1 zs1) := hi1
  have HN1 : Hid (zs1.length = n1) := hl1
  have hm1 : n1 ≤ maxLen := by unfold maxLen; omega
  have hn1 : n1 ≤ 1048576 := by omega
  obtain ⟨R, hR⟩ : ∃ R, R = joinV zs0 zs1 := ⟨_, rfl⟩
  have hr : R.length ≤ 4 := by rw [hR]; exact joinV_len zs0 zs1
  have HSP : Hid (∀ W g0 g1, IsIs W (some ⟨g0, 0, none⟩) zs0 → IsIs W (some ⟨g1, 0, none⟩) zs1 → Calls Try.prog 14 #[vecV (some ⟨g0, 0, none⟩) n0 n0, vecV (some ⟨g1, 0, none⟩) n1 n1] W fun e w' => ∃ g cp, e = .returned (vecV g R.length cp) ∧ OwnI w' W.heap.size w'.heap.size g R ∧ Below W.heap.size W w') := fun W g0 g1 h0 h1 => by
    rw [hR]
    exact specVecJoin_any _ _ _ _ _ _ zs0 zs1 W hl0 hm0 h0 hl1 hm1 h1
  have HIM : Hid (∀ W g0 g1, IsIs W (some ⟨g0, 0, none⟩) zs0 → IsIs W (some ⟨g1, 0, none⟩) zs1 → Calls Try.prog 15 #[vecV (some ⟨g0, 0, none⟩) n0 n0, vecV (some ⟨g1, 0, none⟩) n1 n1] W fun e w' => ∃ g cp, e = .returned (vecV g R.length cp) ∧ OwnI w' W.heap.size w'.heap.size g R ∧ Below W.heap.size W w') := fun W g0 g1 h0 h1 => by
    rw [hR]
    exact implVecJoin_any _ _ _ _ _ _ zs0 zs1 W hl0 hm0 h0 hl1 hm1 h1
  clear hR hl0 hi0 hl1 hi1
  go_enter Try.func4, Try.ntmps4
  go_wp2_with fail
  have HB : Hid (Below w.heap.size w ((w.alloc (.cells #[.slice a0 n0 cap0] 24)).alloc (.cells #[.slice a1 n1 cap1] 24))) := ((Below.refl _ _).alloc (Nat.le_refl _) _).alloc (by simp) _
  have cb0_0 : ((w.alloc (.cells #[.slice a0 n0 cap0] 24)).alloc (.cells #[.slice a1 n1 cap1] 24)).cell? ⟨w.heap.size, 0, none⟩ = some (.slice a0 n0 cap0) := by go_simp
  have zb0 : w.heap.size < ((w.alloc (.cells #[.slice a0 n0 cap0] 24)).alloc (.cells #[.slice a1 n1 cap1] 24)).heap.size := by simp; omega
  have cb1_0 : ((w.alloc (.cells #[.slice a0 n0 cap0] 24)).alloc (.cells #[.slice a1 n1 cap1] 24)).cell? ⟨w.heap.size + 1, 0, none⟩ = some (.slice a1 n1 cap1) := by go_simp
  have zb1 : w.heap.size + 1 < ((w.alloc (.cells #[.slice a0 n0 cap0] 24)).alloc (.cells #[.slice a1 n1 cap1] 24)).heap.size := by simp
  have hsV0 : w.heap.size + 1 < ((w.alloc (.cells #[.slice a0 n0 cap0] 24)).alloc (.cells #[.slice a1 n1 cap1] 24)).heap.size := zb1
  generalize ((w.alloc (.cells #[.slice a0 n0 cap0] 24)).alloc (.cells #[.slice a1 n1 cap1] 24)) = V0 at *
  refine (szVec_small _ _ _ _ _ (by omega) (by omega) (by omega)).mono ?_
  rintro e u1 ⟨rfl, hb⟩
  have hsu1 : V0.heap.size ≤ u1.heap.size := hb.size
  replace cb0_0 := (hb.cell (p := ⟨w.heap.size, 0, none⟩) zb0).trans cb0_0
  replace zb0 := Nat.lt_of_lt_of_le zb0 hb.size
  replace cb1_0 := (hb.cell (p := ⟨w.heap.size + 1, 0, none⟩) zb1).trans cb1_0
  replace zb1 := Nat.lt_of_lt_of_le zb1 hb.size
  replace HB := Lib.hid (below_step HB.out HB.out.size hb)
  clear hb
  go_wp2_with fail
  refine (szVec_small _ _ _ _ _ (by omega) (by omega) (by omega)).mono ?_
  rintro e u2 ⟨rfl, hb⟩
  have hsu2 : u1.heap.size ≤ u2.heap.size := hb.size
  replace cb0_0 := (hb.cell (p := ⟨w.heap.size, 0, none⟩) zb0).trans cb0_0
  replace zb0 := Nat.lt_of_lt_of_le zb0 hb.size
  replace cb1_0 := (hb.cell (p := ⟨w.heap.size + 1, 0, none⟩) zb1).trans cb1_0
  replace zb1 := Nat.lt_of_lt_of_le zb1 hb.size
  replace HB := Lib.hid (below_step HB.out HB.out.size hb)
  clear hb
  have yb0 := zb0
  have yb1 := zb1
  go_wp2_with fail
  refine wp_region_slots 6 [[(2, false)], [(24, true)], [(3, false)], [(26, true)], [(25, true), (27, true)], []] (fun w' => Below u2.heap.size u2 w') LowR (by kernel_rfl) (by kernel_rfl) (by rfl) (Below.refl _ _).drew (fun _ _ h hb => below_step h h.size hb) ?_
  apply slot_eq
  · intro ρ w' ⟨p1, p2, p3⟩ hS hn
    have d0 := (hS.cell (p := ⟨w.heap.size, 0, none⟩) zb0).trans cb0_0
    simp at hn
    go_simp
    exact ⟨lowR_refl _, rfl⟩
  refine slot_fact (VecF u2.heap.size n0 zs0) (lasts_vecF _ _ _) ?_ ?_
  · intro ρ w' ⟨p1, p2, p3⟩ hS hn
    simp at hn
    go_simp
    exact got_call (toVec_own a0 n0 cap0 zs0 w' HN0.out hn0 (HI0.out.below (below_step HB.out HB.out.size hS))) fun e w'' ⟨g, he, ho, hb⟩ => ⟨_, he, hb, g, rfl, ho.wider hS.size (Nat.le_refl _)⟩
  apply slot_eq
  · intro ρ w' ⟨p1, p2, p3⟩ hS hn
    have d0 := (hS.cell (p := ⟨w.heap.size + 1, 0, none⟩) zb1).trans cb1_0
    simp at hn
    go_simp
    exact ⟨lowR_refl _, rfl⟩
  refine slot_fact (VecF u2.heap.size n1 zs1) (lasts_vecF _ _ _) ?_ ?_
  · intro ρ w' ⟨p1, p2, p3⟩ hS hn
    simp at hn
    go_simp
    exact got_call (toVec_own a1 n1 cap1 zs1 w' HN1.out hn1 (HI1.out.below (below_step HB.out HB.out.size hS))) fun e w'' ⟨g, he, ho, hb⟩ => ⟨_, he, hb, g, rfl, ho.wider hS.size (Nat.le_refl _)⟩
  refine slot_fact (AnsF u2.heap.size R) (lasts_ansF _ _) ?_ ?_
  · intro ρ w' ⟨p1, p2, p3⟩ hS hn
    simp at hn
    obtain ⟨⟨g0, e0, ho0⟩, g1, e1, ho1⟩ := hn
    go_simp
    exact got_call (HSP.out _ _ _ ho0.isIs ho1.isIs) fun e w'' ⟨g, cp, he, ho, hb⟩ => ⟨_, he, hb, g, cp, rfl, ho.wider hS.size (Nat.le_refl _)⟩
  refine slot_fact (BoxF u2.heap.size) (lasts_boxF _) ?_ ?_
  · intro ρ w' ⟨p1, p2, p3⟩ hS hn
    have hz := hS.size
    go_simp
    exact ⟨(Below.refl _ _).alloc (Nat.le_refl _) _, _, rfl, hz, heap_alloc_new _ _⟩
  refine slot_end ?_
  rintro vs u3 hS hF
  simp at hF
  obtain ⟨⟨bw, fb, hb1, hb2⟩, ⟨aw, cpw, f28, ho⟩, ⟨g1, f27, -⟩, f26, ⟨g0, f25, -⟩, f24⟩ := hF
  have hbt : bw < u3.heap.size := (Array.getElem?_eq_some_iff.1 hb2).1
  have cst := (cells_one hb2).1
  have fst := (cells_one hb2).2.1
  simp only [List.take_succ_cons, List.take_zero, List.drop_succ_cons, List.drop_zero, putAll, fb, f28, f27, f26, f25, f24]
  clear fb f28 f27 f26 f25 f24
  simp only [Act.put, List.setIfInBounds_toArray, List.set_cons_succ, List.set_cons_zero]
  have hsu3 : u2.heap.size ≤ u3.heap.size := hS.size
  replace cb0_0 := (hS.cell (p := ⟨w.heap.size, 0, none⟩) zb0).trans cb0_0
  replace zb0 := Nat.lt_of_lt_of_le zb0 hS.size
  replace cb1_0 := (hS.cell (p := ⟨w.heap.size + 1, 0, none⟩) zb1).trans cb1_0
  replace zb1 := Nat.lt_of_lt_of_le zb1 hS.size
  replace HB := Lib.hid (below_step HB.out HB.out.size hS)
  clear hS
  go_upto_region 9 with fail
  have Ow := Lib.hid (ho.off hb2 (.slice aw R.length cpw))
  clear ho
  replace cb0_0 := (World.cell?_setCell_other _ ⟨bw, 0, none⟩ ⟨w.heap.size, 0, none⟩ (.slice aw R.length cpw) (fun e => by injection e with e1 e2; omega)).trans cb0_0
  replace zb0 : w.heap.size < (u3.setCell ⟨bw, 0, none⟩ (.slice aw R.length cpw)).heap.size := by simpa using zb0
  replace cb1_0 := (World.cell?_setCell_other _ ⟨bw, 0, none⟩ ⟨w.heap.size + 1, 0, none⟩ (.slice aw R.length cpw) (fun e => by injection e with e1 e2; omega)).trans cb1_0
  replace zb1 : w.heap.size + 1 < (u3.setCell ⟨bw, 0, none⟩ (.slice aw R.length cpw)).heap.size := by simpa using zb1
  replace HB := Lib.hid (low_drop HB.out (by omega : w.heap.size ≤ bw) (.slice aw R.length cpw))
  have cbw_0 : (u3.setCell ⟨bw, 0, none⟩ (.slice aw R.length cpw)).cell? ⟨bw, 0, none⟩ = some (.slice aw R.length cpw) := World.cell?_setCell_same _ _ _ cst
  have zbw : bw < (u3.setCell ⟨bw, 0, none⟩ (.slice aw R.length cpw)).heap.size := by simpa using hbt
  have hsVw : u3.heap.size ≤ (u3.setCell ⟨bw, 0, none⟩ (.slice aw R.length cpw)).heap.size := by simp
  have hhVw : (u3.setCell ⟨bw, 0, none⟩ (.slice aw R.length cpw)).heap.size ≤ u3.heap.size := by simp
  clear hb2 cst fst yb0 yb1
  generalize (u3.setCell ⟨bw, 0, none⟩ (.slice aw R.length cpw)) = Vw at *
  go_wp2_with fail
  refine (toVec_own a0 n0 cap0 zs0 _ HN0.out hn0 (HI0.out.below HB.out)).mono ?_
  rintro e u4 ⟨gx0, rfl, ho, hb⟩
  have hsu4 : Vw.heap.size ≤ u4.heap.size := hb.size
  replace cb0_0 := (hb.cell (p := ⟨w.heap.size, 0, none⟩) zb0).trans cb0_0
  replace zb0 := Nat.lt_of_lt_of_le zb0 hb.size
  replace cb1_0 := (hb.cell (p := ⟨w.heap.size + 1, 0, none⟩) zb1).trans cb1_0
  replace zb1 := Nat.lt_of_lt_of_le zb1 hb.size
  replace cbw_0 := (hb.cell (p := ⟨bw, 0, none⟩) zbw).trans cbw_0
  replace zbw := Nat.lt_of_lt_of_le zbw hb.size
  replace Ow := Lib.hid (Ow.out.below hb)
  replace HB := Lib.hid (below_step HB.out HB.out.size hb)
  have X0 := Lib.hid ho
  clear ho
  clear hb
  go_wp2_with fail
  have hA : Below u4.heap.size u4 (u4.alloc (.cells #[.slice (some ⟨gx0, 0, none⟩) n0 n0] 27)) := (Below.refl _ _).alloc (Nat.le_refl _) _
  replace cb0_0 := (hA.cell (p := ⟨w.heap.size, 0, none⟩) zb0).trans cb0_0
  replace zb0 := Nat.lt_of_lt_of_le zb0 hA.size
  replace cb1_0 := (hA.cell (p := ⟨w.heap.size + 1, 0, none⟩) zb1).trans cb1_0
  replace zb1 := Nat.lt_of_lt_of_le zb1 hA.size
  replace cbw_0 := (hA.cell (p := ⟨bw, 0, none⟩) zbw).trans cbw_0
  replace zbw := Nat.lt_of_lt_of_le zbw hA.size
  replace Ow := Lib.hid (Ow.out.below hA)
  replace X0 := Lib.hid (X0.out.below hA)
  replace HB := Lib.hid (below_step HB.out HB.out.size hA)
  clear hA
  have cx0_0 : (u4.alloc (.cells #[.slice (some ⟨gx0, 0, none⟩) n0 n0] 27)).cell? ⟨u4.heap.size, 0, none⟩ = some (.slice (some ⟨gx0, 0, none⟩) n0 n0) := by go_simp
  have zx0 : u4.heap.size < (u4.alloc (.cells #[.slice (some ⟨gx0, 0, none⟩) n0 n0] 27)).heap.size := by simp
  have hsVx0 : u4.heap.size < (u4.alloc (.cells #[.slice (some ⟨gx0, 0, none⟩) n0 n0] 27)).heap.size := by simp
  generalize (u4.alloc (.cells #[.slice (some ⟨gx0, 0, none⟩) n0 n0] 27)) = Vx0 at *
  refine (toVec_own a1 n1 cap1 zs1 _ HN1.out hn1 (HI1.out.below HB.out)).mono ?_
  rintro e u5 ⟨gx1, rfl, ho, hb⟩
  have hsu5 : Vx0.heap.size ≤ u5.heap.size := hb.size
  replace cb0_0 := (hb.cell (p := ⟨w.heap.size, 0, none⟩) zb0).trans cb0_0
  replace zb0 := Nat.lt_of_lt_of_le zb0 hb.size
  replace cb1_0 := (hb.cell (p := ⟨w.heap.size + 1, 0, none⟩) zb1).trans cb1_0
  replace zb1 := Nat.lt_of_lt_of_le zb1 hb.size
  replace cbw_0 := (hb.cell (p := ⟨bw, 0, none⟩) zbw).trans cbw_0
  replace zbw := Nat.lt_of_lt_of_le zbw hb.size
  replace Ow := Lib.hid (Ow.out.below hb)
  replace X0 := Lib.hid (X0.out.below hb)
  replace cx0_0 := (hb.cell (p := ⟨u4.heap.size, 0, none⟩) zx0).trans cx0_0
  replace zx0 := Nat.lt_of_lt_of_le zx0 hb.size
  replace HB := Lib.hid (below_step HB.out HB.out.size hb)
  have X1 := Lib.hid ho
  clear ho
  clear hb
  go_wp2_with fail
  have hA : Below u5.heap.size u5 (u5.alloc (.cells #[.slice (some ⟨gx1, 0, none⟩) n1 n1] 27)) := (Below.refl _ _).alloc (Nat.le_refl _) _
  replace cb0_0 := (hA.cell (p := ⟨w.heap.size, 0, none⟩) zb0).trans cb0_0
  replace zb0 := Nat.lt_of_lt_of_le zb0 hA.size
  replace cb1_0 := (hA.cell (p := ⟨w.heap.size + 1, 0, none⟩) zb1).trans cb1_0
  replace zb1 := Nat.lt_of_lt_of_le zb1 hA.size
  replace cbw_0 := (hA.cell (p := ⟨bw, 0, none⟩) zbw).trans cbw_0
  replace zbw := Nat.lt_of_lt_of_le zbw hA.size
  replace Ow := Lib.hid (Ow.out.below hA)
  replace X0 := Lib.hid (X0.out.below hA)
  replace cx0_0 := (hA.cell (p := ⟨u4.heap.size, 0, none⟩) zx0).trans cx0_0
  replace zx0 := Nat.lt_of_lt_of_le zx0 hA.size
  replace X1 := Lib.hid (X1.out.below hA)
  replace HB := Lib.hid (below_step HB.out HB.out.size hA)
  clear hA
  have cx1_0 : (u5.alloc (.cells #[.slice (some ⟨gx1, 0, none⟩) n1 n1] 27)).cell? ⟨u5.heap.size, 0, none⟩ = some (.slice (some ⟨gx1, 0, none⟩) n1 n1) := by go_simp
  have zx1 : u5.heap.size < (u5.alloc (.cells #[.slice (some ⟨gx1, 0, none⟩) n1 n1] 27)).heap.size := by simp
  have hsVx1 : u5.heap.size < (u5.alloc (.cells #[.slice (some ⟨gx1, 0, none⟩) n1 n1] 27)).heap.size := by simp
  generalize (u5.alloc (.cells #[.slice (some ⟨gx1, 0, none⟩) n1 n1] 27)) = Vx1 at *
  refine (HIM.out _ _ _ X0.out.isIs X1.out.isIs).mono ?_
  rintro e u6 ⟨ag, cpg, rfl, ho, hb⟩
  have hsu6 : Vx1.heap.size ≤ u6.heap.size := hb.size
  replace cb0_0 := (hb.cell (p := ⟨w.heap.size, 0, none⟩) zb0).trans cb0_0
  replace zb0 := Nat.lt_of_lt_of_le zb0 hb.size
  replace cb1_0 := (hb.cell (p := ⟨w.heap.size + 1, 0, none⟩) zb1).trans cb1_0
  replace zb1 := Nat.lt_of_lt_of_le zb1 hb.size
  replace cbw_0 := (hb.cell (p := ⟨bw, 0, none⟩) zbw).trans cbw_0
  replace zbw := Nat.lt_of_lt_of_le zbw hb.size
  replace Ow := Lib.hid (Ow.out.below hb)
  replace X0 := Lib.hid (X0.out.below hb)
  replace cx0_0 := (hb.cell (p := ⟨u4.heap.size, 0, none⟩) zx0).trans cx0_0
  replace zx0 := Nat.lt_of_lt_of_le zx0 hb.size
  replace X1 := Lib.hid (X1.out.below hb)
  replace cx1_0 := (hb.cell (p := ⟨u5.heap.size, 0, none⟩) zx1).trans cx1_0
  replace zx1 := Nat.lt_of_lt_of_le zx1 hb.size
  replace HB := Lib.hid (below_step HB.out HB.out.size hb)
  have OG := Lib.hid ho
  clear ho
  clear hb
  go_wp2_with fail
  have hA : Below u6.heap.size u6 (u6.alloc (.cells #[.slice ag R.length cpg] 27)) := (Below.refl _ _).alloc (Nat.le_refl _) _
  replace cb0_0 := (hA.cell (p := ⟨w.heap.size, 0, none⟩) zb0).trans cb0_0
  replace zb0 := Nat.lt_of_lt_of_le zb0 hA.size
  replace cb1_0 := (hA.cell (p := ⟨w.heap.size + 1, 0, none⟩) zb1).trans cb1_0
  replace zb1 := Nat.lt_of_lt_of_le zb1 hA.size
  replace cbw_0 := (hA.cell (p := ⟨bw, 0, none⟩) zbw).trans cbw_0
  replace zbw := Nat.lt_of_lt_of_le zbw hA.size
  replace Ow := Lib.hid (Ow.out.below hA)
  replace X0 := Lib.hid (X0.out.below hA)
  replace cx0_0 := (hA.cell (p := ⟨u4.heap.size, 0, none⟩) zx0).trans cx0_0
  replace zx0 := Nat.lt_of_lt_of_le zx0 hA.size
  replace X1 := Lib.hid (X1.out.below hA)
  replace cx1_0 := (hA.cell (p := ⟨u5.heap.size, 0, none⟩) zx1).trans cx1_0
  replace zx1 := Nat.lt_of_lt_of_le zx1 hA.size
  replace OG := Lib.hid (OG.out.below hA)
  replace HB := Lib.hid (below_step HB.out HB.out.size hA)
  clear hA
  have cbg_0 : (u6.alloc (.cells #[.slice ag R.length cpg] 27)).cell? ⟨u6.heap.size, 0, none⟩ = some (.slice ag R.length cpg) := by go_simp
  have zbg : u6.heap.size < (u6.alloc (.cells #[.slice ag R.length cpg] 27)).heap.size := by simp
  have hsVg : u6.heap.size < (u6.alloc (.cells #[.slice ag R.length cpg] 27)).heap.size := by simp
  generalize (u6.alloc (.cells #[.slice ag R.length cpg] 27)) = Vg at *
  refine (eqVec_same ag aw R.length cpg cpw R _ rfl (by omega) OG.out.isInts Ow.out.isInts).mono ?_
  rintro e u7 ⟨rfl, hb⟩
  have hsu7 : Vg.heap.size ≤ u7.heap.size := hb.size
  replace cb0_0 := (hb.cell (p := ⟨w.heap.size, 0, none⟩) zb0).trans cb0_0
  replace zb0 := Nat.lt_of_lt_of_le zb0 hb.size
  replace cb1_0 := (hb.cell (p := ⟨w.heap.size + 1, 0, none⟩) zb1).trans cb1_0
  replace zb1 := Nat.lt_of_lt_of_le zb1 hb.size
  replace cbw_0 := (hb.cell (p := ⟨bw, 0, none⟩) zbw).trans cbw_0
  replace zbw := Nat.lt_of_lt_of_le zbw hb.size
  replace Ow := Lib.hid (Ow.out.below hb)
  replace X0 := Lib.hid (X0.out.below hb)
  replace cx0_0 := (hb.cell (p := ⟨u4.heap.size, 0, none⟩) zx0).trans cx0_0
  replace zx0 := Nat.lt_of_lt_of_le zx0 hb.size
  replace X1 := Lib.hid (X1.out.below hb)
  replace cx1_0 := (hb.cell (p := ⟨u5.heap.size, 0, none⟩) zx1).trans cx1_0
  replace zx1 := Nat.lt_of_lt_of_le zx1 hb.size
  replace OG := Lib.hid (OG.out.below hb)
  replace cbg_0 := (hb.cell (p := ⟨u6.heap.size, 0, none⟩) zbg).trans cbg_0
  replace zbg := Nat.lt_of_lt_of_le zbg hb.size
  replace HB := Lib.hid (below_step HB.out HB.out.size hb)
  clear hb
  go_wp2_with fail
  refine wp_region_slots 5 [[(7, false)], [(2, false)], [(41, true)], [(40, true), (42, true)], [(43, true)]] (fun w' => Below u7.heap.size u7 w') LowR (by kernel_rfl) (by kernel_rfl) (by rfl) (Below.refl _ _).drew (fun _ _ h hb => below_step h h.size hb) ?_
  apply slot_eq
  · intro ρ w' ⟨p1, p2, p3⟩ hS hn
    have d0 := (hS.cell (p := ⟨u4.heap.size, 0, none⟩) zx0).trans cx0_0
    simp at hn
    go_simp
    exact ⟨lowR_refl _, rfl⟩
  apply slot_eq
  · intro ρ w' ⟨p1, p2, p3⟩ hS hn
    have d0 := (hS.cell (p := ⟨w.heap.size, 0, none⟩) zb0).trans cb0_0
    simp at hn
    go_simp
    exact ⟨lowR_refl _, rfl⟩
  refine slot_fact (VecF u7.heap.size n0 zs0) (lasts_vecF _ _ _) ?_ ?_
  · intro ρ w' ⟨p1, p2, p3⟩ hS hn
    simp at hn
    go_simp
    exact got_call (toVec_own a0 n0 cap0 zs0 w' HN0.out hn0 (HI0.out.below (below_step HB.out HB.out.size hS))) fun e w'' ⟨g, he, ho, hb⟩ => ⟨_, he, hb, g, rfl, ho.wider hS.size (Nat.le_refl _)⟩
  apply slot_eq
  · intro ρ w' ⟨p1, p2, p3⟩ hS hn
    simp at hn
    obtain ⟨e1, g, e2, ho⟩ := hn
    go_simp
    exact got_call (eqVec_same _ _ n0 n0 n0 zs0 w' HN0.out hn0 (X0.out.below hS).isInts ho.isInts) fun e w'' ⟨he, hb⟩ => ⟨_, he, hb, rfl⟩
  apply slot_eq
  · intro ρ w' ⟨p1, p2, p3⟩ hS hn
    simp at hn
    go_simp
    exact ⟨lowR_refl _, rfl⟩
  refine slot_end ?_
  rintro vs u8 hS hF
  simp at hF
  obtain ⟨e5, e4, ⟨g, e3, -⟩, e2, e1⟩ := hF
  simp only [List.take_succ_cons, List.take_zero, List.drop_succ_cons, List.drop_zero, putAll, e5, e4, e3, e2, e1]
  clear e5 e4 e3 e2 e1
  simp only [Act.put, List.setIfInBounds_toArray, List.set_cons_succ, List.set_cons_zero]
  have hsu8 : u7.heap.size ≤ u8.heap.size := hS.size
  replace cb0_0 := (hS.cell (p := ⟨w.heap.size, 0, none⟩) zb0).trans cb0_0
  replace zb0 := Nat.lt_of_lt_of_le zb0 hS.size
  replace cb1_0 := (hS.cell (p := ⟨w.heap.size + 1, 0, none⟩) zb1).trans cb1_0
  replace zb1 := Nat.lt_of_lt_of_le zb1 hS.size
  replace cbw_0 := (hS.cell (p := ⟨bw, 0, none⟩) zbw).trans cbw_0
  replace zbw := Nat.lt_of_lt_of_le zbw hS.size
  replace Ow := Lib.hid (Ow.out.below hS)
  replace X0 := Lib.hid (X0.out.below hS)
  replace cx0_0 := (hS.cell (p := ⟨u4.heap.size, 0, none⟩) zx0).trans cx0_0
  replace zx0 := Nat.lt_of_lt_of_le zx0 hS.size
  replace X1 := Lib.hid (X1.out.below hS)
  replace cx1_0 := (hS.cell (p := ⟨u5.heap.size, 0, none⟩) zx1).trans cx1_0
  replace zx1 := Nat.lt_of_lt_of_le zx1 hS.size
  replace OG := Lib.hid (OG.out.below hS)
  replace cbg_0 := (hS.cell (p := ⟨u6.heap.size, 0, none⟩) zbg).trans cbg_0
  replace zbg := Nat.lt_of_lt_of_le zbg hS.size
  replace HB := Lib.hid (below_step HB.out HB.out.size hS)
  clear hS
  go_wp2_with fail
  refine wp_region_slots 5 [[(8, false)], [(3, false)], [(46, true)], [(45, true), (47, true)], [(48, true)]] (fun w' => Below u8.heap.size u8 w') LowR (by kernel_rfl) (by kernel_rfl) (by rfl) (Below.refl _ _).drew (fun _ _ h hb => below_step h h.size hb) ?_
  apply slot_eq
  · intro ρ w' ⟨p1, p2, p3⟩ hS hn
    have d0 := (hS.cell (p := ⟨u5.heap.size, 0, none⟩) zx1).trans cx1_0
    simp at hn
    go_simp
    exact ⟨lowR_refl _, rfl⟩
  apply slot_eq
  · intro ρ w' ⟨p1, p2, p3⟩ hS hn
    have d0 := (hS.cell (p := ⟨w.heap.size + 1, 0, none⟩) zb1).trans cb1_0
    simp at hn
    go_simp
    exact ⟨lowR_refl _, rfl⟩
  refine slot_fact (VecF u8.heap.size n1 zs1) (lasts_vecF _ _ _) ?_ ?_
  · intro ρ w' ⟨p1, p2, p3⟩ hS hn
    simp at hn
    go_simp
    exact got_call (toVec_own a1 n1 cap1 zs1 w' HN1.out hn1 (HI1.out.below (below_step HB.out HB.out.size hS))) fun e w'' ⟨g, he, ho, hb⟩ => ⟨_, he, hb, g, rfl, ho.wider hS.size (Nat.le_refl _)⟩
  apply slot_eq
  · intro ρ w' ⟨p1, p2, p3⟩ hS hn
    simp at hn
    obtain ⟨e1, g, e2, ho⟩ := hn
    go_simp
    exact got_call (eqVec_same _ _ n1 n1 n1 zs1 w' HN1.out hn1 (X1.out.below hS).isInts ho.isInts) fun e w'' ⟨he, hb⟩ => ⟨_, he, hb, rfl⟩
  apply slot_eq
  · intro ρ w' ⟨p1, p2, p3⟩ hS hn
    simp at hn
    go_simp
    exact ⟨lowR_refl _, rfl⟩
  refine slot_end ?_
  rintro vs u9 hS hF
  simp at hF
  obtain ⟨e5, e4, ⟨g, e3, -⟩, e2, e1⟩ := hF
  simp only [List.take_succ_cons, List.take_zero, List.drop_succ_cons, List.drop_zero, putAll, e5, e4, e3, e2, e1]
  clear e5 e4 e3 e2 e1
  simp only [Act.put, List.setIfInBounds_toArray, List.set_cons_succ, List.set_cons_zero]
  have hsu9 : u8.heap.size ≤ u9.heap.size := hS.size
  replace cb0_0 := (hS.cell (p := ⟨w.heap.size, 0, none⟩) zb0).trans cb0_0
  replace zb0 := Nat.lt_of_lt_of_le zb0 hS.size
  replace cb1_0 := (hS.cell (p := ⟨w.heap.size + 1, 0, none⟩) zb1).trans cb1_0
  replace zb1 := Nat.lt_of_lt_of_le zb1 hS.size
  replace cbw_0 := (hS.cell (p := ⟨bw, 0, none⟩) zbw).trans cbw_0
  replace zbw := Nat.lt_of_lt_of_le zbw hS.size
  replace Ow := Lib.hid (Ow.out.below hS)
  replace X0 := Lib.hid (X0.out.below hS)
  replace cx0_0 := (hS.cell (p := ⟨u4.heap.size, 0, none⟩) zx0).trans cx0_0
  replace zx0 := Nat.lt_of_lt_of_le zx0 hS.size
  replace X1 := Lib.hid (X1.out.below hS)
  replace cx1_0 := (hS.cell (p := ⟨u5.heap.size, 0, none⟩) zx1).trans cx1_0
  replace zx1 := Nat.lt_of_lt_of_le zx1 hS.size
  replace OG := Lib.hid (OG.out.below hS)
  replace cbg_0 := (hS.cell (p := ⟨u6.heap.size, 0, none⟩) zbg).trans cbg_0
  replace zbg := Nat.lt_of_lt_of_le zbg hS.size
  replace HB := Lib.hid (below_step HB.out HB.out.size hS)
  clear hS
  go_wp2_with fail
  refine (markVec_any Vw.heap.size u4.heap.size n0 n0 _ (1) zs0 _ HN0.out hn0 (by omega) (by omega) X0.out).mono ?_
  rintro e u10 ⟨rfl, -, ho⟩
  clear X0
  replace cb0_0 := cell_marked ho zb0 (fun h => by omega) cb0_0
  replace zb0 := Nat.lt_trans zb0 (lt_marked ho)
  replace cb1_0 := cell_marked ho zb1 (fun h => by omega) cb1_0
  replace zb1 := Nat.lt_trans zb1 (lt_marked ho)
  replace cbw_0 := cell_marked ho zbw (fun h => by omega) cbw_0
  replace zbw := Nat.lt_trans zbw (lt_marked ho)
  replace Ow := Lib.hid (own_marked ho Ow.out (fun x hx => by omega))
  replace cx0_0 := cell_marked ho zx0 (fun h => by omega) cx0_0
  replace zx0 := Nat.lt_trans zx0 (lt_marked ho)
  replace X1 := Lib.hid (own_marked ho X1.out (fun x hx => by omega))
  replace cx1_0 := cell_marked ho zx1 (fun h => by omega) cx1_0
  replace zx1 := Nat.lt_trans zx1 (lt_marked ho)
  replace OG := Lib.hid (own_marked ho OG.out (fun x hx => by omega))
  replace cbg_0 := cell_marked ho zbg (fun h => by omega) cbg_0
  replace zbg := Nat.lt_trans zbg (lt_marked ho)
  replace HB := Lib.hid (HB.out.trans (low_marked ho HB.out.size (fun x hx => by omega)))
  have hsu10 : u9.heap.size ≤ u10.heap.size := Nat.le_of_lt (lt_marked ho)
  clear ho
  go_wp2_with fail
  refine (markVec_any Vx0.heap.size u5.heap.size n1 n1 _ (1 + (n0 : Int)) zs1 _ HN1.out hn1 (by omega) (by omega) X1.out).mono ?_
  rintro e u11 ⟨rfl, -, ho⟩
  clear X1
  replace cb0_0 := cell_marked ho zb0 (fun h => by omega) cb0_0
  replace zb0 := Nat.lt_trans zb0 (lt_marked ho)
  replace cb1_0 := cell_marked ho zb1 (fun h => by omega) cb1_0
  replace zb1 := Nat.lt_trans zb1 (lt_marked ho)
  replace cbw_0 := cell_marked ho zbw (fun h => by omega) cbw_0
  replace zbw := Nat.lt_trans zbw (lt_marked ho)
  replace Ow := Lib.hid (own_marked ho Ow.out (fun x hx => by omega))
  replace cx0_0 := cell_marked ho zx0 (fun h => by omega) cx0_0
  replace zx0 := Nat.lt_trans zx0 (lt_marked ho)
  replace cx1_0 := cell_marked ho zx1 (fun h => by omega) cx1_0
  replace zx1 := Nat.lt_trans zx1 (lt_marked ho)
  replace OG := Lib.hid (own_marked ho OG.out (fun x hx => by omega))
  replace cbg_0 := cell_marked ho zbg (fun h => by omega) cbg_0
  replace zbg := Nat.lt_trans zbg (lt_marked ho)
  replace HB := Lib.hid (HB.out.trans (low_marked ho HB.out.size (fun x hx => by omega)))
  have hsu11 : u10.heap.size ≤ u11.heap.size := Nat.le_of_lt (lt_marked ho)
  clear ho
  go_wp2_with fail
  refine (eqVec_same ag aw R.length cpg cpw R _ rfl (by omega) OG.out.isInts Ow.out.isInts).mono ?_
  rintro e u12 ⟨rfl, hb⟩
  have hsu12 : u11.heap.size ≤ u12.heap.size := hb.size
  replace cb0_0 := (hb.cell (p := ⟨w.heap.size, 0, none⟩) zb0).trans cb0_0
  replace zb0 := Nat.lt_of_lt_of_le zb0 hb.size
  replace cb1_0 := (hb.cell (p := ⟨w.heap.size + 1, 0, none⟩) zb1).trans cb1_0
  replace zb1 := Nat.lt_of_lt_of_le zb1 hb.size
  replace cbw_0 := (hb.cell (p := ⟨bw, 0, none⟩) zbw).trans cbw_0
  replace zbw := Nat.lt_of_lt_of_le zbw hb.size
  replace Ow := Lib.hid (Ow.out.below hb)
  replace cx0_0 := (hb.cell (p := ⟨u4.heap.size, 0, none⟩) zx0).trans cx0_0
  replace zx0 := Nat.lt_of_lt_of_le zx0 hb.size
  replace cx1_0 := (hb.cell (p := ⟨u5.heap.size, 0, none⟩) zx1).trans cx1_0
  replace zx1 := Nat.lt_of_lt_of_le zx1 hb.size
  replace OG := Lib.hid (OG.out.below hb)
  replace cbg_0 := (hb.cell (p := ⟨u6.heap.size, 0, none⟩) zbg).trans cbg_0
  replace zbg := Nat.lt_of_lt_of_le zbg hb.size
  replace HB := Lib.hid (below_step HB.out HB.out.size hb)
  clear hb
  go_wp2_with fail
  clear cx0_0 zx0
  clear cx1_0 zx1
  refine (markVec_any Vx1.heap.size u6.heap.size R.length cpg ag 1 R _ rfl (by omega) (by omega) (by omega) OG.out).mono ?_
  rintro e u13 ⟨rfl, hmk, ho⟩
  have MG := Lib.hid hmk
  clear OG
  replace cb0_0 := cell_marked ho zb0 (fun h => by omega) cb0_0
  replace zb0 := Nat.lt_trans zb0 (lt_marked ho)
  replace cb1_0 := cell_marked ho zb1 (fun h => by omega) cb1_0
  replace zb1 := Nat.lt_trans zb1 (lt_marked ho)
  replace cbw_0 := cell_marked ho zbw (fun h => by omega) cbw_0
  replace zbw := Nat.lt_trans zbw (lt_marked ho)
  replace Ow := Lib.hid (own_marked ho Ow.out (fun x hx => by omega))
  replace cbg_0 := cell_marked ho zbg (fun h => by omega) cbg_0
  replace zbg := Nat.lt_trans zbg (lt_marked ho)
  replace HB := Lib.hid (HB.out.trans (low_marked ho HB.out.size (fun x hx => by omega)))
  have hsu13 : u12.heap.size ≤ u13.heap.size := Nat.le_of_lt (lt_marked ho)
  clear ho hmk
  obtain ⟨kk, hkk⟩ : ∃ kk : Int, kk = 1 + (R.length : Int) := ⟨_, rfl⟩
  have hk0 : 0 ≤ kk := by omega
  have hk1 : kk ≤ 1000000 := by omega
  have HH : Hid (∀ W, MarkedI W ag R.length 1 → Calls Try.prog 17 #[vecV ag R.length cpg, .int .i64 1] W fun e w' => e = .returned (.int .i64 kk) ∧ Below W.heap.size W w') := fun W h => by
    rw [hkk]
    exact heldVec_any _ _ _ _ _ (by omega) (by omega) (by omega) h
  rw [← hkk]
  clear hkk
  go_wp2_with fail
  refine (HH.out _ MG.out).mono ?_
  rintro e u14 ⟨rfl, hb⟩
  have hsu14 : u13.heap.size ≤ u14.heap.size := hb.size
  replace cb0_0 := (hb.cell (p := ⟨w.heap.size, 0, none⟩) zb0).trans cb0_0
  replace zb0 := Nat.lt_of_lt_of_le zb0 hb.size
  replace cb1_0 := (hb.cell (p := ⟨w.heap.size + 1, 0, none⟩) zb1).trans cb1_0
  replace zb1 := Nat.lt_of_lt_of_le zb1 hb.size
  replace cbw_0 := (hb.cell (p := ⟨bw, 0, none⟩) zbw).trans cbw_0
  replace zbw := Nat.lt_of_lt_of_le zbw hb.size
  replace Ow := Lib.hid (Ow.out.below hb)
  replace cbg_0 := (hb.cell (p := ⟨u6.heap.size, 0, none⟩) zbg).trans cbg_0
  replace zbg := Nat.lt_of_lt_of_le zbg hb.size
  replace MG := Lib.hid (MG.out.below hb)
  replace HB := Lib.hid (below_step HB.out HB.out.size hb)
  clear hb
  have yb0 := zb0
  have yb1 := zb1
  have ybw := zbw
  have ybg := zbg
  have mkltMG := mk_lt MG.out
  go_wp2_with fail
  refine wp_region_slots 6 [[(2, false)], [(75, true)], [(3, false)], [(77, true)], [(76, true), (78, true)], []] (fun w' => Below u14.heap.size u14 w') LowR (by kernel_rfl) (by kernel_rfl) (by rfl) (Below.refl _ _).drew (fun _ _ h hb => below_step h h.size hb) ?_
  apply slot_eq
  · intro ρ w' ⟨p1, p2, p3⟩ hS hn
    have d0 := (hS.cell (p := ⟨w.heap.size, 0, none⟩) zb0).trans cb0_0
    simp at hn
    go_simp
    exact ⟨lowR_refl _, rfl⟩
  refine slot_fact (VecF u14.heap.size n0 zs0) (lasts_vecF _ _ _) ?_ ?_
  · intro ρ w' ⟨p1, p2, p3⟩ hS hn
    simp at hn
    go_simp
    exact got_call (toVec_own a0 n0 cap0 zs0 w' HN0.out hn0 (HI0.out.below (below_step HB.out HB.out.size hS))) fun e w'' ⟨g, he, ho, hb⟩ => ⟨_, he, hb, g, rfl, ho.wider hS.size (Nat.le_refl _)⟩
  apply slot_eq
  · intro ρ w' ⟨p1, p2, p3⟩ hS hn
    have d0 := (hS.cell (p := ⟨w.heap.size + 1, 0, none⟩) zb1).trans cb1_0
    simp at hn
    go_simp
    exact ⟨lowR_refl _, rfl⟩
  refine slot_fact (VecF u14.heap.size n1 zs1) (lasts_vecF _ _ _) ?_ ?_
  · intro ρ w' ⟨p1, p2, p3⟩ hS hn
    simp at hn
    go_simp
    exact got_call (toVec_own a1 n1 cap1 zs1 w' HN1.out hn1 (HI1.out.below (below_step HB.out HB.out.size hS))) fun e w'' ⟨g, he, ho, hb⟩ => ⟨_, he, hb, g, rfl, ho.wider hS.size (Nat.le_refl _)⟩
  refine slot_fact (AnsF u14.heap.size R) (lasts_ansF _ _) ?_ ?_
  · intro ρ w' ⟨p1, p2, p3⟩ hS hn
    simp at hn
    obtain ⟨⟨g0, e0, ho0⟩, g1, e1, ho1⟩ := hn
    go_simp
    exact got_call (HIM.out _ _ _ ho0.isIs ho1.isIs) fun e w'' ⟨g, cp, he, ho, hb⟩ => ⟨_, he, hb, g, cp, rfl, ho.wider hS.size (Nat.le_refl _)⟩
  refine slot_fact (BoxF u14.heap.size) (lasts_boxF _) ?_ ?_
  · intro ρ w' ⟨p1, p2, p3⟩ hS hn
    have hz := hS.size
    go_simp
    exact ⟨(Below.refl _ _).alloc (Nat.le_refl _) _, _, rfl, hz, heap_alloc_new _ _⟩
  refine slot_end ?_
  rintro vs u15 hS hF
  simp at hF
  obtain ⟨⟨bh, fb, hb1, hb2⟩, ⟨ah, cph, f79, ho⟩, ⟨g1, f78, -⟩, f77, ⟨g0, f76, -⟩, f75⟩ := hF
  have hbt : bh < u15.heap.size := (Array.getElem?_eq_some_iff.1 hb2).1
  have cst := (cells_one hb2).1
  have fst := (cells_one hb2).2.1
  simp only [List.take_succ_cons, List.take_zero, List.drop_succ_cons, List.drop_zero, putAll, fb, f79, f78, f77, f76, f75]
  clear fb f79 f78 f77 f76 f75
  simp only [Act.put, List.setIfInBounds_toArray, List.set_cons_succ, List.set_cons_zero]
  have hsu15 : u14.heap.size ≤ u15.heap.size := hS.size
  replace cb0_0 := (hS.cell (p := ⟨w.heap.size, 0, none⟩) zb0).trans cb0_0
  replace zb0 := Nat.lt_of_lt_of_le zb0 hS.size
  replace cb1_0 := (hS.cell (p := ⟨w.heap.size + 1, 0, none⟩) zb1).trans cb1_0
  replace zb1 := Nat.lt_of_lt_of_le zb1 hS.size
  replace cbw_0 := (hS.cell (p := ⟨bw, 0, none⟩) zbw).trans cbw_0
  replace zbw := Nat.lt_of_lt_of_le zbw hS.size
  replace Ow := Lib.hid (Ow.out.below hS)
  replace cbg_0 := (hS.cell (p := ⟨u6.heap.size, 0, none⟩) zbg).trans cbg_0
  replace zbg := Nat.lt_of_lt_of_le zbg hS.size
  replace MG := Lib.hid (MG.out.below hS)
  replace HB := Lib.hid (below_step HB.out HB.out.size hS)
  clear hS
  go_upto_region 32 with fail
  have Oh := Lib.hid (ho.off hb2 (.slice ah R.length cph))
  clear ho
  replace cb0_0 := (World.cell?_setCell_other _ ⟨bh, 0, none⟩ ⟨w.heap.size, 0, none⟩ (.slice ah R.length cph) (fun e => by injection e with e1 e2; omega)).trans cb0_0
  replace zb0 : w.heap.size < (u15.setCell ⟨bh, 0, none⟩ (.slice ah R.length cph)).heap.size := by simpa using zb0
  replace cb1_0 := (World.cell?_setCell_other _ ⟨bh, 0, none⟩ ⟨w.heap.size + 1, 0, none⟩ (.slice ah R.length cph) (fun e => by injection e with e1 e2; omega)).trans cb1_0
  replace zb1 : w.heap.size + 1 < (u15.setCell ⟨bh, 0, none⟩ (.slice ah R.length cph)).heap.size := by simpa using zb1
  replace cbw_0 := (World.cell?_setCell_other _ ⟨bh, 0, none⟩ ⟨bw, 0, none⟩ (.slice ah R.length cph) (fun e => by injection e with e1 e2; omega)).trans cbw_0
  replace zbw : bw < (u15.setCell ⟨bh, 0, none⟩ (.slice ah R.length cph)).heap.size := by simpa using zbw
  replace Ow := Lib.hid (own_out Ow.out (b := bh) (Or.inr (by omega)) (.slice ah R.length cph))
  replace cbg_0 := (World.cell?_setCell_other _ ⟨bh, 0, none⟩ ⟨u6.heap.size, 0, none⟩ (.slice ah R.length cph) (fun e => by injection e with e1 e2; omega)).trans cbg_0
  replace zbg : u6.heap.size < (u15.setCell ⟨bh, 0, none⟩ (.slice ah R.length cph)).heap.size := by simpa using zbg
  replace MG := Lib.hid (mk_out MG.out (b := bh) mkltMG (by omega) (.slice ah R.length cph))
  replace HB := Lib.hid (low_drop HB.out (by omega : w.heap.size ≤ bh) (.slice ah R.length cph))
  have cbh_0 : (u15.setCell ⟨bh, 0, none⟩ (.slice ah R.length cph)).cell? ⟨bh, 0, none⟩ = some (.slice ah R.length cph) := World.cell?_setCell_same _ _ _ cst
  have zbh : bh < (u15.setCell ⟨bh, 0, none⟩ (.slice ah R.length cph)).heap.size := by simpa using hbt
  have hsVh : u15.heap.size ≤ (u15.setCell ⟨bh, 0, none⟩ (.slice ah R.length cph)).heap.size := by simp
  have hhVh : (u15.setCell ⟨bh, 0, none⟩ (.slice ah R.length cph)).heap.size ≤ u15.heap.size := by simp
  clear hb2 cst fst yb0 yb1 ybw ybg
  generalize (u15.setCell ⟨bh, 0, none⟩ (.slice ah R.length cph)) = Vh at *
  go_wp2_with fail
  refine (eqVec_same ah aw R.length cph cpw R _ rfl (by omega) Oh.out.isInts Ow.out.isInts).mono ?_
  rintro e u16 ⟨rfl, hb⟩
  have hsu16 : Vh.heap.size ≤ u16.heap.size := hb.size
  replace cb0_0 := (hb.cell (p := ⟨w.heap.size, 0, none⟩) zb0).trans cb0_0
  replace zb0 := Nat.lt_of_lt_of_le zb0 hb.size
  replace cb1_0 := (hb.cell (p := ⟨w.heap.size + 1, 0, none⟩) zb1).trans cb1_0
  replace zb1 := Nat.lt_of_lt_of_le zb1 hb.size
  replace cbw_0 := (hb.cell (p := ⟨bw, 0, none⟩) zbw).trans cbw_0
  replace zbw := Nat.lt_of_lt_of_le zbw hb.size
  replace Ow := Lib.hid (Ow.out.below hb)
  replace cbg_0 := (hb.cell (p := ⟨u6.heap.size, 0, none⟩) zbg).trans cbg_0
  replace zbg := Nat.lt_of_lt_of_le zbg hb.size
  replace MG := Lib.hid (MG.out.below hb)
  replace cbh_0 := (hb.cell (p := ⟨bh, 0, none⟩) zbh).trans cbh_0
  replace zbh := Nat.lt_of_lt_of_le zbh hb.size
  replace Oh := Lib.hid (Oh.out.below hb)
  replace HB := Lib.hid (below_step HB.out HB.out.size hb)
  clear hb
  go_wp2_with fail
  refine (HH.out _ MG.out).mono ?_
  rintro e u17 ⟨rfl, hb⟩
  have hsu17 : u16.heap.size ≤ u17.heap.size := hb.size
  replace cb0_0 := (hb.cell (p := ⟨w.heap.size, 0, none⟩) zb0).trans cb0_0
  replace zb0 := Nat.lt_of_lt_of_le zb0 hb.size
  replace cb1_0 := (hb.cell (p := ⟨w.heap.size + 1, 0, none⟩) zb1).trans cb1_0
  replace zb1 := Nat.lt_of_lt_of_le zb1 hb.size
  replace cbw_0 := (hb.cell (p := ⟨bw, 0, none⟩) zbw).trans cbw_0
  replace zbw := Nat.lt_of_lt_of_le zbw hb.size
  replace Ow := Lib.hid (Ow.out.below hb)
  replace cbg_0 := (hb.cell (p := ⟨u6.heap.size, 0, none⟩) zbg).trans cbg_0
  replace zbg := Nat.lt_of_lt_of_le zbg hb.size
  replace MG := Lib.hid (MG.out.below hb)
  replace cbh_0 := (hb.cell (p := ⟨bh, 0, none⟩) zbh).trans cbh_0
  replace zbh := Nat.lt_of_lt_of_le zbh hb.size
  replace Oh := Lib.hid (Oh.out.below hb)
  replace HB := Lib.hid (below_step HB.out HB.out.size hb)
  clear hb
  go_wp2
  go_ret
  exact ⟨rfl, HB.out⟩

theorem walk (a0 : Option Addr) (n0 cap0 : Nat) (zs0 : List Int) (a1 : Option Addr) (n1 cap1 : Nat) (zs1 : List Int) (w : World) (hr0 : VecIn w a0 n0 zs0) (hr1 : VecIn w a1 n1 zs1) :
    Calls Try.prog 4 #[vecV a0 n0 cap0, vecV a1 n1 cap1] w fun e w' => e = .returned (.bool true) ∧ Below w.heap.size w w' := by
  obtain ⟨h10, h20, h30, -⟩ := hr0
  obtain ⟨h11, h21, h31, -⟩ := hr1
  by_cases h0 : n0 ≤ 1048576
  · by_cases h : n0 + n1 ≤ 1048576
    · exact walk_small a0 n0 cap0 zs0 a1 n1 cap1 zs1 w h10 h30 h11 h31 h
    · exact walk_big1 a0 n0 cap0 a1 n1 cap1 w h21 h0 (by omega)
  · exact walk_big0 a0 n0 cap0 a1 n1 cap1 w h20 (by omega)

set_option maxRecDepth 100000 in
theorem lifted (os : Os) (started : os.Started) (H : Type) (enc : TypeId × Value → H) :
    ReturnsInHanded {} Try.checked os 4 .any (Rows.fnExactVecJoinSpec.pre6 enc Try.prog Try.f4 Rows.fnExactVecJoinRow.domain false) (Rows.fnExactVecJoinSpec.post enc Try.prog Try.f4 false true false false) := by
  refine returnsInHanded_of_change (C := Try.checked) own started (by kernel_rfl) Try.func4
    (ChangeSpec.witness6 (enc := enc) (C := Try.checked) false ⟨#[], #[.agg #[.slice none 0 0], .agg #[.slice none 0 0]], []⟩ 8 (by kernel_rfl) (by kernel_rfl) (by kernel_rfl) (by kernel_rfl)) ?_
  intro W base args ds gs before hval0 hW hcnd _
  have hval : ∀ (j : Nat) t v, Try.f4.params[j]? = some t → args[j]? = some v → Value.okWide Try.prog W .any base t v := hval0
  have hW' := hW
  obtain ⟨p, q, hA0, hV, rfl, hfz, hnd⟩ := hW
  have hA : DataW.TrodAll enc Try.prog W 0 (fun _ => true) true Try.f4.params.toList args.toList ds p := hA0
  rw [Try.params4] at hA hval
  obtain ⟨v0, v1, d0, d1, p0, p1, rfl, rfl, rfl, h0, h1⟩ := trodAll_two hA
  have k0 := h0
  have lt0 : ∀ x ∈ p0, x.block < W.heap.size := by obtain ⟨m, hm⟩ := k0; exact DataW.trod_lt m _ _ _ hm
  have k1 := h1
  have lt1 : ∀ x ∈ p1, x.block < W.heap.size := by obtain ⟨m, hm⟩ := k1; exact DataW.trod_lt m _ _ _ hm
  obtain ⟨rfl, rfl⟩ := trodVars_none hV
  obtain ⟨a0, len0, cap0, zs0, hv0, hr0⟩ := open_vec (hval 0 24 v0 rfl rfl) h0
  subst hv0
  obtain ⟨a1, len1, cap1, zs1, hv1, hr1⟩ := open_vec (hval 1 24 v1 rfl rfl) h1
  subst hv1
  clear hA0 hval0
  refine (walk a0 len0 cap0 zs0 a1 len1 cap1 zs1 W hr0 hr1).mono fun e W' ⟨he, bel⟩ => ?_
  subst he
  exact ⟨_, rfl, _, _, _, [], _, [], hW', trodAll_mk1 (shut_bool Try.underlying4 _), (trodAll_mk2 (Below.trod laidOut (by kernel_rfl) (of_decide_eq_true (by kernel_rfl)) k0 bel lt0) (Below.trod laidOut (by kernel_rfl) (of_decide_eq_true (by kernel_rfl)) k1 bel lt1)), rfl, bel.frame _, fun h => by cases h⟩

theorem over : Rows.fnExactVecJoinRow.holds Try.pinned (OpenSpec.ofChange Rows.fnExactVecJoinSpec) :=
  OpenClaim.holds_of_wide 4 Try.f4 rfl rfl rfl rfl rfl rfl rfl ⟨rfl, rfl, rfl, rfl, rfl⟩ rfl rfl rfl rfl rfl (by kernel_rfl) Try.func4 (by kernel_rfl)
    (of_decide_eq_true (by kernel_rfl)) (by unfold Func.isWrapper; rw [if_neg (by decide +kernel)]; exact ⟨rfl, rfl⟩)
    (fun os started H enc _ => lifted os started H enc)

end Go.Proofs.Ytolmlcbgdihcbaa.lawVecJoin
namespace Go.Proofs.Ytolmlcbgdihcbaa
theorem fnExactVecJoin_holds : Rows.FnExactVecJoinSaid := lawVecJoin.over
#print axioms fnExactVecJoin_holds
end Go.Proofs.Ytolmlcbgdihcbaa
