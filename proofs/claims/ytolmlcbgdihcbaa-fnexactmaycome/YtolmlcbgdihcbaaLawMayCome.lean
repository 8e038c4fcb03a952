/- At every vector and post the law FnExactMayCome answers true: impl.MayCome answers as spec.MayCome, leaves its arguments as they were, and its answer owns its memory. No conditions. -/
import Derived.Test.YtolmlcbgdihcbaaPack5
import Derived.Test.YtolmlcbgdihcbaaRows
import Derived.Test.YtolmlcbgdihcbaaPack6
import Derived.Deep.DeepCutAuto
namespace Go.Proofs.Ytolmlcbgdihcbaa.lawMayCome
open Go.ChangeShapes Go.WideShapes Go.ChangeAt Go.RowKit Go.Joins
attribute [local go_sem ↓] Go.wp_at_zero Go.wp_at_succ

set_option maxRecDepth 100000 in
set_option maxHeartbeats 1000000 in
theorem walk_big0 (a0 : Option Addr) (n0 cap0 : Nat) (f1 : Int) (a1 : Option Addr) (n1 cap1 : Nat) (y1 : Int) (w : World) (hm0 : n0 ≤ maxLen)  (h : 1048576 < n0) :
    Calls Try.prog 7 #[vecV a0 n0 cap0, postV f1 a1 n1 cap1 y1] w fun e w' => e = .returned (.bool true) ∧ Below w.heap.size w w' := by
  go_enter Try.func7, Try.ntmps7
  go_wp2_with fail
  have HB : Hid (Below w.heap.size w ((w.alloc (.cells #[.slice a0 n0 cap0] 24)).alloc (.cells #[.int .i64 f1, .slice a1 n1 cap1, .int .i64 y1] 39))) := ((Below.refl _ _).alloc (Nat.le_refl _) _).alloc (by simp) _
  refine (szVec_big _ _ _ _ _ (by omega) (by omega) (by omega) hm0).mono ?_
  rintro e w0 ⟨rfl, hb⟩
  replace HB := Lib.hid (below_step HB.out HB.out.size hb)
  clear hb
  go_wp2
  go_ret
  exact ⟨rfl, HB.out⟩

set_option maxRecDepth 100000 in
set_option maxHeartbeats 1000000 in
theorem walk_big1 (a0 : Option Addr) (n0 cap0 : Nat) (f1 : Int) (a1 : Option Addr) (n1 cap1 : Nat) (y1 : Int) (w : World) (hm1 : n1 ≤ maxLen) (h0 : n0 ≤ 1048576) (h : 1048576 < n0 + n1) :
    Calls Try.prog 7 #[vecV a0 n0 cap0, postV f1 a1 n1 cap1 y1] w fun e w' => e = .returned (.bool true) ∧ Below w.heap.size w w' := by
  go_enter Try.func7, Try.ntmps7
  go_wp2_with fail
  have HB : Hid (Below w.heap.size w ((w.alloc (.cells #[.slice a0 n0 cap0] 24)).alloc (.cells #[.int .i64 f1, .slice a1 n1 cap1, .int .i64 y1] 39))) := ((Below.refl _ _).alloc (Nat.le_refl _) _).alloc (by simp) _
  refine (szVec_small _ _ _ _ _ (by omega) (by omega) (by omega)).mono ?_
  rintro e w0 ⟨rfl, hb⟩
  replace HB := Lib.hid (below_step HB.out HB.out.size hb)
  have c0 := (hb.cell (p := ⟨w.heap.size + 1, 0, none⟩) (by simp)).trans (show ((w.alloc (.cells #[.slice a0 n0 cap0] 24)).alloc (.cells #[.int .i64 f1, .slice a1 n1 cap1, .int .i64 y1] 39)).cell? ⟨w.heap.size + 1, 0, none⟩ = some (.int .i64 f1) by go_simp)
  have c1 := (hb.cell (p := ⟨w.heap.size + 1, 1, none⟩) (by simp)).trans (show ((w.alloc (.cells #[.slice a0 n0 cap0] 24)).alloc (.cells #[.int .i64 f1, .slice a1 n1 cap1, .int .i64 y1] 39)).cell? ⟨w.heap.size + 1, 1, none⟩ = some (.slice a1 n1 cap1) by go_simp)
  have c2 := (hb.cell (p := ⟨w.heap.size + 1, 2, none⟩) (by simp)).trans (show ((w.alloc (.cells #[.slice a0 n0 cap0] 24)).alloc (.cells #[.int .i64 f1, .slice a1 n1 cap1, .int .i64 y1] 39)).cell? ⟨w.heap.size + 1, 2, none⟩ = some (.int .i64 y1) by go_simp)
  clear hb
  go_wp2_with fail
  refine (szPost_big f1 _ _ _ y1 _ _ (by omega) (by omega) (by omega) hm1).mono ?_
  rintro e w1 ⟨rfl, hb⟩
  replace HB := Lib.hid (below_step HB.out HB.out.size hb)
  clear hb
  go_wp2
  go_ret
  exact ⟨rfl, HB.out⟩

set_option maxRecDepth 100000 in
set_option maxHeartbeats 8000000 in
theorem walk_small (a0 : Option Addr) (n0 cap0 : Nat) (zs0 : List Int) (f1 : Int) (a1 : Option Addr) (n1 cap1 : Nat) (y1 : Int) (zs1 : List Int) (w : World) (hl0 : zs0.length = n0) (hi0 : IsIs w a0 zs0) (hl1 : zs1.length = n1) (hi1 : IsIs w a1 zs1) (h : n0 + n1 ≤ 1048576) :
    Calls Try.prog 7 #[vecV a0 n0 cap0, postV f1 a1 n1 cap1 y1] w fun e w' => e = .returned (.bool true) ∧ Below w.heap.size w w' := by
  have HI0 : Hid (IsIs w a0 zs0) := hi0
  have HN0 : Hid (zs0.length = n0) := hl0
  have hm0 : n0 ≤ maxLen := by unfold maxLen; omega
  have hn0 : n0 ≤ 1048576 := by omega
  have HI1 : Hid (IsIs w a1 zs1) := hi1
  have HN1 : Hid (zs1.length = n1) := hl1
  have hm1 : n1 ≤ maxLen := by unfold maxLen; omega
  have hn1 : n1 ≤ 1048576 := by omega
  obtain ⟨R, hR⟩ : ∃ R, R = mayB zs0 zs1 f1 := ⟨_, rfl⟩
  have HSP : Hid (∀ W g0 g1, IsIs W (some ⟨g0, 0, none⟩) zs0 → IsIs W (some ⟨g1, 0, none⟩) zs1 → Calls Try.prog 23 #[vecV (some ⟨g0, 0, none⟩) n0 n0, postV f1 (some ⟨g1, 0, none⟩) n1 n1 y1] W fun e w' => e = .returned (.bool R) ∧ Below W.heap.size W w') := fun W g0 g1 h0 h1 => by
    rw [hR]
    exact specMayCome_any _ _ _ _ _ _ f1 y1 zs0 zs1 W hl0 hm0 h0 hl1 hm1 h1
  have HIM : Hid (∀ W g0 g1, IsIs W (some ⟨g0, 0, none⟩) zs0 → IsIs W (some ⟨g1, 0, none⟩) zs1 → Calls Try.prog 25 #[vecV (some ⟨g0, 0, none⟩) n0 n0, postV f1 (some ⟨g1, 0, none⟩) n1 n1 y1] W fun e w' => e = .returned (.bool R) ∧ Below W.heap.size W w') := fun W g0 g1 h0 h1 => by
    rw [hR]
    exact implMayCome_any _ _ _ _ _ _ f1 y1 zs0 zs1 W hl0 hm0 h0 hl1 hm1 h1
  clear hR hl0 hi0 hl1 hi1
  go_enter Try.func7, Try.ntmps7
  go_wp2_with fail
  have HB : Hid (Below w.heap.size w ((w.alloc (.cells #[.slice a0 n0 cap0] 24)).alloc (.cells #[.int .i64 f1, .slice a1 n1 cap1, .int .i64 y1] 39))) := ((Below.refl _ _).alloc (Nat.le_refl _) _).alloc (by simp) _
  have cb0_0 : ((w.alloc (.cells #[.slice a0 n0 cap0] 24)).alloc (.cells #[.int .i64 f1, .slice a1 n1 cap1, .int .i64 y1] 39)).cell? ⟨w.heap.size, 0, none⟩ = some (.slice a0 n0 cap0) := by go_simp
  have zb0 : w.heap.size < ((w.alloc (.cells #[.slice a0 n0 cap0] 24)).alloc (.cells #[.int .i64 f1, .slice a1 n1 cap1, .int .i64 y1] 39)).heap.size := by simp; omega
  have cb1_0 : ((w.alloc (.cells #[.slice a0 n0 cap0] 24)).alloc (.cells #[.int .i64 f1, .slice a1 n1 cap1, .int .i64 y1] 39)).cell? ⟨w.heap.size + 1, 0, none⟩ = some (.int .i64 f1) := by go_simp
  have cb1_1 : ((w.alloc (.cells #[.slice a0 n0 cap0] 24)).alloc (.cells #[.int .i64 f1, .slice a1 n1 cap1, .int .i64 y1] 39)).cell? ⟨w.heap.size + 1, 1, none⟩ = some (.slice a1 n1 cap1) := by go_simp
  have cb1_2 : ((w.alloc (.cells #[.slice a0 n0 cap0] 24)).alloc (.cells #[.int .i64 f1, .slice a1 n1 cap1, .int .i64 y1] 39)).cell? ⟨w.heap.size + 1, 2, none⟩ = some (.int .i64 y1) := by go_simp
  have zb1 : w.heap.size + 1 < ((w.alloc (.cells #[.slice a0 n0 cap0] 24)).alloc (.cells #[.int .i64 f1, .slice a1 n1 cap1, .int .i64 y1] 39)).heap.size := by simp
  have hsV0 : w.heap.size + 1 < ((w.alloc (.cells #[.slice a0 n0 cap0] 24)).alloc (.cells #[.int .i64 f1, .slice a1 n1 cap1, .int .i64 y1] 39)).heap.size := zb1
  generalize ((w.alloc (.cells #[.slice a0 n0 cap0] 24)).alloc (.cells #[.int .i64 f1, .slice a1 n1 cap1, .int .i64 y1] 39)) = V0 at *
  refine (szVec_small _ _ _ _ _ (by omega) (by omega) (by omega)).mono ?_
  rintro e u1 ⟨rfl, hb⟩
  have hsu1 : V0.heap.size ≤ u1.heap.size := hb.size
  replace cb0_0 := (hb.cell (p := ⟨w.heap.size, 0, none⟩) zb0).trans cb0_0
  replace zb0 := Nat.lt_of_lt_of_le zb0 hb.size
  replace cb1_0 := (hb.cell (p := ⟨w.heap.size + 1, 0, none⟩) zb1).trans cb1_0
  replace cb1_1 := (hb.cell (p := ⟨w.heap.size + 1, 1, none⟩) zb1).trans cb1_1
  replace cb1_2 := (hb.cell (p := ⟨w.heap.size + 1, 2, none⟩) zb1).trans cb1_2
  replace zb1 := Nat.lt_of_lt_of_le zb1 hb.size
  replace HB := Lib.hid (below_step HB.out HB.out.size hb)
  clear hb
  go_wp2_with fail
  refine (szPost_small f1 _ _ _ y1 _ _ (by omega) (by omega) (by omega)).mono ?_
  rintro e u2 ⟨rfl, hb⟩
  have hsu2 : u1.heap.size ≤ u2.heap.size := hb.size
  replace cb0_0 := (hb.cell (p := ⟨w.heap.size, 0, none⟩) zb0).trans cb0_0
  replace zb0 := Nat.lt_of_lt_of_le zb0 hb.size
  replace cb1_0 := (hb.cell (p := ⟨w.heap.size + 1, 0, none⟩) zb1).trans cb1_0
  replace cb1_1 := (hb.cell (p := ⟨w.heap.size + 1, 1, none⟩) zb1).trans cb1_1
  replace cb1_2 := (hb.cell (p := ⟨w.heap.size + 1, 2, none⟩) zb1).trans cb1_2
  replace zb1 := Nat.lt_of_lt_of_le zb1 hb.size
  replace HB := Lib.hid (below_step HB.out HB.out.size hb)
  clear hb
  go_wp2_with fail
  refine wp_region_slots 5 [[(2, false)], [(20, true)], [(3, false)], [(22, true)], [(21, true), (23, true)]] (fun w' => Below u2.heap.size u2 w') LowR (by kernel_rfl) (by kernel_rfl) (by rfl) (Below.refl _ _).drew (fun _ _ h hb => below_step h h.size hb) ?_
  apply slot_eq
  · intro ρ w' ⟨p1, p2, p3⟩ hS hn
    have d0 := (hS.cell (p := ⟨w.heap.size, 0, none⟩) zb0).trans cb0_0
    simp at hn
    go_simp
    exact ⟨lowR_refl _, rfl⟩
  refine slot_fact (VecF u2.heap.size n0 zs0) (lasts_vecF _ _ _) ?_ ?_
  · intro ρ w' ⟨p1, p2, p3⟩ hS hn
    simp at hn
    go_simp
    exact got_call (toVec_own a0 n0 cap0 zs0 w' HN0.out hn0 (HI0.out.below (below_step HB.out HB.out.size hS))) fun e w'' ⟨g, he, ho, hb⟩ => ⟨_, he, hb, g, rfl, ho.wider hS.size (Nat.le_refl _)⟩
  apply slot_eq
  · intro ρ w' ⟨p1, p2, p3⟩ hS hn
    have d0 := (hS.cell (p := ⟨w.heap.size + 1, 0, none⟩) zb1).trans cb1_0; have d1 := (hS.cell (p := ⟨w.heap.size + 1, 1, none⟩) zb1).trans cb1_1; have d2 := (hS.cell (p := ⟨w.heap.size + 1, 2, none⟩) zb1).trans cb1_2
    simp at hn
    go_simp
    exact ⟨lowR_refl _, rfl⟩
  refine slot_fact (PostF u2.heap.size f1 n1 y1 zs1) (lasts_postF _ _ _ _ _) ?_ ?_
  · intro ρ w' ⟨p1, p2, p3⟩ hS hn
    simp at hn
    go_simp
    exact got_call (toPost_own f1 a1 n1 cap1 y1 zs1 w' HN1.out hn1 (HI1.out.below (below_step HB.out HB.out.size hS))) fun e w'' ⟨g, he, ho, hb⟩ => ⟨_, he, hb, g, rfl, ho.wider hS.size (Nat.le_refl _)⟩
  apply slot_eq
  · intro ρ w' ⟨p1, p2, p3⟩ hS hn
    simp at hn
    obtain ⟨⟨g0, e0, ho0⟩, g1, e1, ho1⟩ := hn
    go_simp
    exact got_call (HSP.out _ _ _ ho0.isIs ho1.isIs) fun e w'' ⟨he, hb⟩ => ⟨_, he, hb, rfl⟩
  refine slot_end ?_
  rintro vs u3 hS hF
  simp at hF
  obtain ⟨f24, ⟨g1, f23, -⟩, f22, ⟨g0, f21, -⟩, f20⟩ := hF
  simp only [List.take_succ_cons, List.take_zero, List.drop_succ_cons, List.drop_zero, putAll, f24, f23, f22, f21, f20]
  clear f24 f23 f22 f21 f20
  simp only [Act.put, List.setIfInBounds_toArray, List.set_cons_succ, List.set_cons_zero]
  have hsu3 : u2.heap.size ≤ u3.heap.size := hS.size
  replace cb0_0 := (hS.cell (p := ⟨w.heap.size, 0, none⟩) zb0).trans cb0_0
  replace zb0 := Nat.lt_of_lt_of_le zb0 hS.size
  replace cb1_0 := (hS.cell (p := ⟨w.heap.size + 1, 0, none⟩) zb1).trans cb1_0
  replace cb1_1 := (hS.cell (p := ⟨w.heap.size + 1, 1, none⟩) zb1).trans cb1_1
  replace cb1_2 := (hS.cell (p := ⟨w.heap.size + 1, 2, none⟩) zb1).trans cb1_2
  replace zb1 := Nat.lt_of_lt_of_le zb1 hS.size
  replace HB := Lib.hid (below_step HB.out HB.out.size hS)
  clear hS
  go_wp2_with fail
  refine (toVec_own a0 n0 cap0 zs0 _ HN0.out hn0 (HI0.out.below HB.out)).mono ?_
  rintro e u4 ⟨gx0, rfl, ho, hb⟩
  have hsu4 : u3.heap.size ≤ u4.heap.size := hb.size
  replace cb0_0 := (hb.cell (p := ⟨w.heap.size, 0, none⟩) zb0).trans cb0_0
  replace zb0 := Nat.lt_of_lt_of_le zb0 hb.size
  replace cb1_0 := (hb.cell (p := ⟨w.heap.size + 1, 0, none⟩) zb1).trans cb1_0
  replace cb1_1 := (hb.cell (p := ⟨w.heap.size + 1, 1, none⟩) zb1).trans cb1_1
  replace cb1_2 := (hb.cell (p := ⟨w.heap.size + 1, 2, none⟩) zb1).trans cb1_2
  replace zb1 := Nat.lt_of_lt_of_le zb1 hb.size
  replace HB := Lib.hid (below_step HB.out HB.out.size hb)
  have X0 := Lib.hid ho
  clear ho
  clear hb
  go_wp2_with fail
  have hA : Below u4.heap.size u4 (u4.alloc (.cells #[.slice (some ⟨gx0, 0, none⟩) n0 n0] 27)) := (Below.refl _ _).alloc (Nat.le_refl _) _
  replace cb0_0 := (hA.cell (p := ⟨w.heap.size, 0, none⟩) zb0).trans cb0_0
  replace zb0 := Nat.lt_of_lt_of_le zb0 hA.size
  replace cb1_0 := (hA.cell (p := ⟨w.heap.size + 1, 0, none⟩) zb1).trans cb1_0
  replace cb1_1 := (hA.cell (p := ⟨w.heap.size + 1, 1, none⟩) zb1).trans cb1_1
  replace cb1_2 := (hA.cell (p := ⟨w.heap.size + 1, 2, none⟩) zb1).trans cb1_2
  replace zb1 := Nat.lt_of_lt_of_le zb1 hA.size
  replace X0 := Lib.hid (X0.out.below hA)
  replace HB := Lib.hid (below_step HB.out HB.out.size hA)
  clear hA
  have cx0_0 : (u4.alloc (.cells #[.slice (some ⟨gx0, 0, none⟩) n0 n0] 27)).cell? ⟨u4.heap.size, 0, none⟩ = some (.slice (some ⟨gx0, 0, none⟩) n0 n0) := by go_simp
  have zx0 : u4.heap.size < (u4.alloc (.cells #[.slice (some ⟨gx0, 0, none⟩) n0 n0] 27)).heap.size := by simp
  have hsVx0 : u4.heap.size < (u4.alloc (.cells #[.slice (some ⟨gx0, 0, none⟩) n0 n0] 27)).heap.size := by simp
  generalize (u4.alloc (.cells #[.slice (some ⟨gx0, 0, none⟩) n0 n0] 27)) = Vx0 at *
  refine (toPost_own f1 a1 n1 cap1 y1 zs1 _ HN1.out hn1 (HI1.out.below HB.out)).mono ?_
  rintro e u5 ⟨gx1, rfl, ho, hb⟩
  have hsu5 : Vx0.heap.size ≤ u5.heap.size := hb.size
  replace cb0_0 := (hb.cell (p := ⟨w.heap.size, 0, none⟩) zb0).trans cb0_0
  replace zb0 := Nat.lt_of_lt_of_le zb0 hb.size
  replace cb1_0 := (hb.cell (p := ⟨w.heap.size + 1, 0, none⟩) zb1).trans cb1_0
  replace cb1_1 := (hb.cell (p := ⟨w.heap.size + 1, 1, none⟩) zb1).trans cb1_1
  replace cb1_2 := (hb.cell (p := ⟨w.heap.size + 1, 2, none⟩) zb1).trans cb1_2
  replace zb1 := Nat.lt_of_lt_of_le zb1 hb.size
  replace X0 := Lib.hid (X0.out.below hb)
  replace cx0_0 := (hb.cell (p := ⟨u4.heap.size, 0, none⟩) zx0).trans cx0_0
  replace zx0 := Nat.lt_of_lt_of_le zx0 hb.size
  replace HB := Lib.hid (below_step HB.out HB.out.size hb)
  have X1 := Lib.hid ho
  clear ho
  clear hb
  go_wp2_with fail
  have hA : Below u5.heap.size u5 (u5.alloc (.cells #[.int .i64 f1, .slice (some ⟨gx1, 0, none⟩) n1 n1, .int .i64 y1] 42)) := (Below.refl _ _).alloc (Nat.le_refl _) _
  replace cb0_0 := (hA.cell (p := ⟨w.heap.size, 0, none⟩) zb0).trans cb0_0
  replace zb0 := Nat.lt_of_lt_of_le zb0 hA.size
  replace cb1_0 := (hA.cell (p := ⟨w.heap.size + 1, 0, none⟩) zb1).trans cb1_0
  replace cb1_1 := (hA.cell (p := ⟨w.heap.size + 1, 1, none⟩) zb1).trans cb1_1
  replace cb1_2 := (hA.cell (p := ⟨w.heap.size + 1, 2, none⟩) zb1).trans cb1_2
  replace zb1 := Nat.lt_of_lt_of_le zb1 hA.size
  replace X0 := Lib.hid (X0.out.below hA)
  replace cx0_0 := (hA.cell (p := ⟨u4.heap.size, 0, none⟩) zx0).trans cx0_0
  replace zx0 := Nat.lt_of_lt_of_le zx0 hA.size
  replace X1 := Lib.hid (X1.out.below hA)
  replace HB := Lib.hid (below_step HB.out HB.out.size hA)
  clear hA
  have cx1_0 : (u5.alloc (.cells #[.int .i64 f1, .slice (some ⟨gx1, 0, none⟩) n1 n1, .int .i64 y1] 42)).cell? ⟨u5.heap.size, 0, none⟩ = some (.int .i64 f1) := by go_simp
  have cx1_1 : (u5.alloc (.cells #[.int .i64 f1, .slice (some ⟨gx1, 0, none⟩) n1 n1, .int .i64 y1] 42)).cell? ⟨u5.heap.size, 1, none⟩ = some (.slice (some ⟨gx1, 0, none⟩) n1 n1) := by go_simp
  have cx1_2 : (u5.alloc (.cells #[.int .i64 f1, .slice (some ⟨gx1, 0, none⟩) n1 n1, .int .i64 y1] 42)).cell? ⟨u5.heap.size, 2, none⟩ = some (.int .i64 y1) := by go_simp
  have zx1 : u5.heap.size < (u5.alloc (.cells #[.int .i64 f1, .slice (some ⟨gx1, 0, none⟩) n1 n1, .int .i64 y1] 42)).heap.size := by simp
  have hsVx1 : u5.heap.size < (u5.alloc (.cells #[.int .i64 f1, .slice (some ⟨gx1, 0, none⟩) n1 n1, .int .i64 y1] 42)).heap.size := by simp
  generalize (u5.alloc (.cells #[.int .i64 f1, .slice (some ⟨gx1, 0, none⟩) n1 n1, .int .i64 y1] 42)) = Vx1 at *
  refine (HIM.out _ _ _ X0.out.isIs X1.out.isIs).mono ?_
  rintro e u6 ⟨rfl, hb⟩
  have hsu6 : Vx1.heap.size ≤ u6.heap.size := hb.size
  replace cb0_0 := (hb.cell (p := ⟨w.heap.size, 0, none⟩) zb0).trans cb0_0
  replace zb0 := Nat.lt_of_lt_of_le zb0 hb.size
  replace cb1_0 := (hb.cell (p := ⟨w.heap.size + 1, 0, none⟩) zb1).trans cb1_0
  replace cb1_1 := (hb.cell (p := ⟨w.heap.size + 1, 1, none⟩) zb1).trans cb1_1
  replace cb1_2 := (hb.cell (p := ⟨w.heap.size + 1, 2, none⟩) zb1).trans cb1_2
  replace zb1 := Nat.lt_of_lt_of_le zb1 hb.size
  replace X0 := Lib.hid (X0.out.below hb)
  replace cx0_0 := (hb.cell (p := ⟨u4.heap.size, 0, none⟩) zx0).trans cx0_0
  replace zx0 := Nat.lt_of_lt_of_le zx0 hb.size
  replace X1 := Lib.hid (X1.out.below hb)
  replace cx1_0 := (hb.cell (p := ⟨u5.heap.size, 0, none⟩) zx1).trans cx1_0
  replace cx1_1 := (hb.cell (p := ⟨u5.heap.size, 1, none⟩) zx1).trans cx1_1
  replace cx1_2 := (hb.cell (p := ⟨u5.heap.size, 2, none⟩) zx1).trans cx1_2
  replace zx1 := Nat.lt_of_lt_of_le zx1 hb.size
  replace HB := Lib.hid (below_step HB.out HB.out.size hb)
  clear hb
  go_wp2_with fail
  refine wp_region_slots 5 [[(7, false)], [(2, false)], [(36, true)], [(35, true), (37, true)], [(38, true)]] (fun w' => Below u6.heap.size u6 w') LowR (by kernel_rfl) (by kernel_rfl) (by rfl) (Below.refl _ _).drew (fun _ _ h hb => below_step h h.size hb) ?_
  apply slot_eq
  · intro ρ w' ⟨p1, p2, p3⟩ hS hn
    have d0 := (hS.cell (p := ⟨u4.heap.size, 0, none⟩) zx0).trans cx0_0
    simp at hn
    go_simp
    exact ⟨lowR_refl _, rfl⟩
  apply slot_eq
  · intro ρ w' ⟨p1, p2, p3⟩ hS hn
    have d0 := (hS.cell (p := ⟨w.heap.size, 0, none⟩) zb0).trans cb0_0
    simp at hn
    go_simp
    exact ⟨lowR_refl _, rfl⟩
  refine slot_fact (VecF u6.heap.size n0 zs0) (lasts_vecF _ _ _) ?_ ?_
  · intro ρ w' ⟨p1, p2, p3⟩ hS hn
    simp at hn
    go_simp
    exact got_call (toVec_own a0 n0 cap0 zs0 w' HN0.out hn0 (HI0.out.below (below_step HB.out HB.out.size hS))) fun e w'' ⟨g, he, ho, hb⟩ => ⟨_, he, hb, g, rfl, ho.wider hS.size (Nat.le_refl _)⟩
  apply slot_eq
  · intro ρ w' ⟨p1, p2, p3⟩ hS hn
    simp at hn
    obtain ⟨e1, g, e2, ho⟩ := hn
    go_simp
    exact got_call (eqVec_same _ _ n0 n0 n0 zs0 w' HN0.out hn0 (X0.out.below hS).isInts ho.isInts) fun e w'' ⟨he, hb⟩ => ⟨_, he, hb, rfl⟩
  apply slot_eq
  · intro ρ w' ⟨p1, p2, p3⟩ hS hn
    simp at hn
    go_simp
    exact ⟨lowR_refl _, rfl⟩
  refine slot_end ?_
  rintro vs u7 hS hF
  simp at hF
  obtain ⟨e5, e4, ⟨g, e3, -⟩, e2, e1⟩ := hF
  simp only [List.take_succ_cons, List.take_zero, List.drop_succ_cons, List.drop_zero, putAll, e5, e4, e3, e2, e1]
  clear e5 e4 e3 e2 e1
  simp only [Act.put, List.setIfInBounds_toArray, List.set_cons_succ, List.set_cons_zero]
  have hsu7 : u6.heap.size ≤ u7.heap.size := hS.size
  replace cb0_0 := (hS.cell (p := ⟨w.heap.size, 0, none⟩) zb0).trans cb0_0
  replace zb0 := Nat.lt_of_lt_of_le zb0 hS.size
  replace cb1_0 := (hS.cell (p := ⟨w.heap.size + 1, 0, none⟩) zb1).trans cb1_0
  replace cb1_1 := (hS.cell (p := ⟨w.heap.size + 1, 1, none⟩) zb1).trans cb1_1
  replace cb1_2 := (hS.cell (p := ⟨w.heap.size + 1, 2, none⟩) zb1).trans cb1_2
  replace zb1 := Nat.lt_of_lt_of_le zb1 hS.size
  replace X0 := Lib.hid (X0.out.below hS)
  replace cx0_0 := (hS.cell (p := ⟨u4.heap.size, 0, none⟩) zx0).trans cx0_0
  replace zx0 := Nat.lt_of_lt_of_le zx0 hS.size
  replace X1 := Lib.hid (X1.out.below hS)
  replace cx1_0 := (hS.cell (p := ⟨u5.heap.size, 0, none⟩) zx1).trans cx1_0
  replace cx1_1 := (hS.cell (p := ⟨u5.heap.size, 1, none⟩) zx1).trans cx1_1
  replace cx1_2 := (hS.cell (p := ⟨u5.heap.size, 2, none⟩) zx1).trans cx1_2
  replace zx1 := Nat.lt_of_lt_of_le zx1 hS.size
  replace HB := Lib.hid (below_step HB.out HB.out.size hS)
  clear hS
  clear cx0_0 zx0
  clear X0
  go_wp2_with fail
  refine wp_region_slots 5 [[(8, false)], [(3, false)], [(41, true)], [(40, true), (42, true)], [(43, true)]] (fun w' => Below u7.heap.size u7 w') LowR (by kernel_rfl) (by kernel_rfl) (by rfl) (Below.refl _ _).drew (fun _ _ h hb => below_step h h.size hb) ?_
  apply slot_eq
  · intro ρ w' ⟨p1, p2, p3⟩ hS hn
    have d0 := (hS.cell (p := ⟨u5.heap.size, 0, none⟩) zx1).trans cx1_0; have d1 := (hS.cell (p := ⟨u5.heap.size, 1, none⟩) zx1).trans cx1_1; have d2 := (hS.cell (p := ⟨u5.heap.size, 2, none⟩) zx1).trans cx1_2
    simp at hn
    go_simp
    exact ⟨lowR_refl _, rfl⟩
  apply slot_eq
  · intro ρ w' ⟨p1, p2, p3⟩ hS hn
    have d0 := (hS.cell (p := ⟨w.heap.size + 1, 0, none⟩) zb1).trans cb1_0; have d1 := (hS.cell (p := ⟨w.heap.size + 1, 1, none⟩) zb1).trans cb1_1; have d2 := (hS.cell (p := ⟨w.heap.size + 1, 2, none⟩) zb1).trans cb1_2
    simp at hn
    go_simp
    exact ⟨lowR_refl _, rfl⟩
  refine slot_fact (PostF u7.heap.size f1 n1 y1 zs1) (lasts_postF _ _ _ _ _) ?_ ?_
  · intro ρ w' ⟨p1, p2, p3⟩ hS hn
    simp at hn
    go_simp
    exact got_call (toPost_own f1 a1 n1 cap1 y1 zs1 w' HN1.out hn1 (HI1.out.below (below_step HB.out HB.out.size hS))) fun e w'' ⟨g, he, ho, hb⟩ => ⟨_, he, hb, g, rfl, ho.wider hS.size (Nat.le_refl _)⟩
  apply slot_eq
  · intro ρ w' ⟨p1, p2, p3⟩ hS hn
    simp at hn
    obtain ⟨e1, g, e2, ho⟩ := hn
    go_simp
    exact got_call (eqPost_same f1 _ _ n1 n1 n1 y1 zs1 w' HN1.out hn1 (X1.out.below hS).isInts ho.isInts) fun e w'' ⟨he, hb⟩ => ⟨_, he, hb, rfl⟩
  apply slot_eq
  · intro ρ w' ⟨p1, p2, p3⟩ hS hn
    simp at hn
    go_simp
    exact ⟨lowR_refl _, rfl⟩
  refine slot_end ?_
  rintro vs u8 hS hF
  simp at hF
  obtain ⟨e5, e4, ⟨g, e3, -⟩, e2, e1⟩ := hF
  simp only [List.take_succ_cons, List.take_zero, List.drop_succ_cons, List.drop_zero, putAll, e5, e4, e3, e2, e1]
  clear e5 e4 e3 e2 e1
  simp only [Act.put, List.setIfInBounds_toArray, List.set_cons_succ, List.set_cons_zero]
  have hsu8 : u7.heap.size ≤ u8.heap.size := hS.size
  replace cb0_0 := (hS.cell (p := ⟨w.heap.size, 0, none⟩) zb0).trans cb0_0
  replace zb0 := Nat.lt_of_lt_of_le zb0 hS.size
  replace cb1_0 := (hS.cell (p := ⟨w.heap.size + 1, 0, none⟩) zb1).trans cb1_0
  replace cb1_1 := (hS.cell (p := ⟨w.heap.size + 1, 1, none⟩) zb1).trans cb1_1
  replace cb1_2 := (hS.cell (p := ⟨w.heap.size + 1, 2, none⟩) zb1).trans cb1_2
  replace zb1 := Nat.lt_of_lt_of_le zb1 hS.size
  replace X1 := Lib.hid (X1.out.below hS)
  replace cx1_0 := (hS.cell (p := ⟨u5.heap.size, 0, none⟩) zx1).trans cx1_0
  replace cx1_1 := (hS.cell (p := ⟨u5.heap.size, 1, none⟩) zx1).trans cx1_1
  replace cx1_2 := (hS.cell (p := ⟨u5.heap.size, 2, none⟩) zx1).trans cx1_2
  replace zx1 := Nat.lt_of_lt_of_le zx1 hS.size
  replace HB := Lib.hid (below_step HB.out HB.out.size hS)
  clear hS
  clear cx1_0 cx1_1 cx1_2 zx1
  clear X1
  go_wp2
  go_ret
  exact ⟨rfl, HB.out⟩

theorem walk (a0 : Option Addr) (n0 cap0 : Nat) (zs0 : List Int) (f1 : Int) (a1 : Option Addr) (n1 cap1 : Nat) (y1 : Int) (zs1 : List Int) (w : World) (hr0 : VecIn w a0 n0 zs0) (hr1 : VecIn w a1 n1 zs1) :
    Calls Try.prog 7 #[vecV a0 n0 cap0, postV f1 a1 n1 cap1 y1] w fun e w' => e = .returned (.bool true) ∧ Below w.heap.size w w' := by
  obtain ⟨h10, h20, h30, -⟩ := hr0
  obtain ⟨h11, h21, h31, -⟩ := hr1
  by_cases h0 : n0 ≤ 1048576
  · by_cases h : n0 + n1 ≤ 1048576
    · exact walk_small a0 n0 cap0 zs0 f1 a1 n1 cap1 y1 zs1 w h10 h30 h11 h31 h
    · exact walk_big1 a0 n0 cap0 f1 a1 n1 cap1 y1 w h21 h0 (by omega)
  · exact walk_big0 a0 n0 cap0 f1 a1 n1 cap1 y1 w h20 (by omega)

set_option maxRecDepth 100000 in
theorem lifted (os : Os) (started : os.Started) (H : Type) (enc : TypeId × Value → H) :
    ReturnsInHanded {} Try.checked os 7 .any (Rows.fnExactMayComeSpec.pre6 enc Try.prog Try.f7 Rows.fnExactMayComeRow.domain false) (Rows.fnExactMayComeSpec.post enc Try.prog Try.f7 false true false false) := by
  refine returnsInHanded_of_change (C := Try.checked) own started (by kernel_rfl) Try.func7
    (ChangeSpec.witness6 (enc := enc) (C := Try.checked) false ⟨#[], #[.agg #[.slice none 0 0], .agg #[.int .i64 0, .slice none 0 0, .int .i64 0]], []⟩ 8 (by kernel_rfl) (by kernel_rfl) (by kernel_rfl) (by kernel_rfl)) ?_
  intro W base args ds gs before hval0 hW hcnd _
  have hval : ∀ (j : Nat) t v, Try.f7.params[j]? = some t → args[j]? = some v → Value.okWide Try.prog W .any base t v := hval0
  have hW' := hW
  obtain ⟨p, q, hA0, hV, rfl, hfz, hnd⟩ := hW
  have hA : DataW.TrodAll enc Try.prog W 0 (fun _ => true) true Try.f7.params.toList args.toList ds p := hA0
  rw [Try.params7] at hA hval
  obtain ⟨v0, v1, d0, d1, p0, p1, rfl, rfl, rfl, h0, h1⟩ := trodAll_two hA
  have k0 := h0
  have lt0 : ∀ x ∈ p0, x.block < W.heap.size := by obtain ⟨m, hm⟩ := k0; exact DataW.trod_lt m _ _ _ hm
  have k1 := h1
  have lt1 : ∀ x ∈ p1, x.block < W.heap.size := by obtain ⟨m, hm⟩ := k1; exact DataW.trod_lt m _ _ _ hm
  obtain ⟨rfl, rfl⟩ := trodVars_none hV
  obtain ⟨a0, len0, cap0, zs0, hv0, hr0⟩ := open_vec (hval 0 24 v0 rfl rfl) h0
  subst hv0
  obtain ⟨f1, a1, len1, cap1, y1, zs1, hv1, hr1⟩ := open_post (hval 1 39 v1 rfl rfl) h1
  subst hv1
  clear hA0 hval0
  refine (walk a0 len0 cap0 zs0 f1 a1 len1 cap1 y1 zs1 W hr0 hr1).mono fun e W' ⟨he, bel⟩ => ?_
  subst he
  exact ⟨_, rfl, _, _, _, [], _, [], hW', trodAll_mk1 (shut_bool Try.underlying4 _), (trodAll_mk2 (Below.trod laidOut (by kernel_rfl) (of_decide_eq_true (by kernel_rfl)) k0 bel lt0) (Below.trod laidOut (by kernel_rfl) (of_decide_eq_true (by kernel_rfl)) k1 bel lt1)), rfl, bel.frame _, fun h => by cases h⟩

theorem over : Rows.fnExactMayComeRow.holds Try.pinned (OpenSpec.ofChange Rows.fnExactMayComeSpec) :=
  OpenClaim.holds_of_wide 7 Try.f7 rfl rfl rfl rfl rfl rfl rfl ⟨rfl, rfl, rfl, rfl, rfl⟩ rfl rfl rfl rfl rfl (by kernel_rfl) Try.func7 (by kernel_rfl)
    (of_decide_eq_true (by kernel_rfl)) (by unfold Func.isWrapper; rw [if_neg (by decide +kernel)]; exact ⟨rfl, rfl⟩)
    (fun os started H enc _ => lifted os started H enc)

end Go.Proofs.Ytolmlcbgdihcbaa.lawMayCome
namespace Go.Proofs.Ytolmlcbgdihcbaa
theorem fnExactMayCome_holds : Rows.FnExactMayComeSaid := lawMayCome.over
#print axioms fnExactMayCome_holds
end Go.Proofs.Ytolmlcbgdihcbaa
