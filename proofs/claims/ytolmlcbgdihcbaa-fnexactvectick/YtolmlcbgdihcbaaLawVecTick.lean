/- At every vector and number the law FnExactVecTick answers true: impl.VecTick answers as spec.VecTick, leaves its arguments as they were, and its answer owns its memory. No conditions. -/
import Derived.Test.YtolmlcbgdihcbaaPack5
import Derived.Test.YtolmlcbgdihcbaaRows
import Derived.Deep.DeepCutAuto
namespace Go.Proofs.Ytolmlcbgdihcbaa.lawVecTick
open Go.ChangeShapes Go.WideShapes Go.ChangeAt Go.RowKit Go.Joins
attribute [local go_sem ↓] Go.wp_at_zero Go.wp_at_succ

set_option maxRecDepth 100000 in
set_option maxHeartbeats 1000000 in
theorem walk_big0 (a0 : Option Addr) (n0 cap0 : Nat) (x1 : Int) (w : World) (hm0 : n0 ≤ maxLen)  (h : 1048576 < n0) :
    Calls Try.prog 6 #[vecV a0 n0 cap0, .int .i64 x1] w fun e w' => e = .returned (.bool true) ∧ Below w.heap.size w w' := by
  go_enter Try.func6, Try.ntmps6
  go_wp2_with fail
  have HB : Hid (Below w.heap.size w (w.alloc (.cells #[.slice a0 n0 cap0] 24))) := (Below.refl _ _).alloc (Nat.le_refl _) _
  refine (szVec_big _ _ _ _ _ (by omega) (by omega) (by omega) hm0).mono ?_
  rintro e w0 ⟨rfl, hb⟩
  replace HB := Lib.hid (below_step HB.out HB.out.size hb)
  clear hb
  go_wp2
  go_ret
  exact ⟨rfl, HB.out⟩

set_option maxRecDepth 100000 in
set_option maxHeartbeats 8000000 in
theorem walk_small (a0 : Option Addr) (n0 cap0 : Nat) (zs0 : List Int) (x1 : Int) (w : World) (hl0 : zs0.length = n0) (hi0 : IsIs w a0 zs0) (h : n0 ≤ 1048576) :
    Calls Try.prog 6 #[vecV a0 n0 cap0, .int .i64 x1] w fun e w' => e = .returned (.bool true) ∧ Below w.heap.size w w' := by
  have HI0 : Hid (IsIs w a0 zs0) := hi0
  have HN0 : Hid (zs0.length = n0) := hl0
  have hm0 : n0 ≤ maxLen := by unfold maxLen; omega
  have hn0 : n0 ≤ 1048576 := by omega
  obtain ⟨R, hR⟩ : ∃ R, R = tickV zs0 x1 := ⟨_, rfl⟩
  obtain ⟨ok, hok⟩ : ∃ ok, ok = tickOk zs0 x1 := ⟨_, rfl⟩
  have hr : R.length ≤ 4 := by rw [hR]; exact tickV_len zs0 x1
  have HSP : Hid (∀ W g0, IsIs W (some ⟨g0, 0, none⟩) zs0 → Calls Try.prog 20 #[vecV (some ⟨g0, 0, none⟩) n0 n0, .int .i64 x1] W fun e w' => ∃ g cp, e = .returned (.tuple #[vecV g R.length cp, .bool ok]) ∧ OwnI w' W.heap.size w'.heap.size g R ∧ Below W.heap.size W w') := fun W g0 h0 => by
    rw [hR, hok]
    exact specVecTick_any _ _ _ zs0 x1 W hl0 hm0 h0
  have HIM : Hid (∀ W g0, IsIs W (some ⟨g0, 0, none⟩) zs0 → Calls Try.prog 21 #[vecV (some ⟨g0, 0, none⟩) n0 n0, .int .i64 x1] W fun e w' => ∃ g cp, e = .returned (.tuple #[vecV g R.length cp, .bool ok]) ∧ OwnI w' W.heap.size w'.heap.size g R ∧ Below W.heap.size W w') := fun W g0 h0 => by
    rw [hR, hok]
    exact implVecTick_any _ _ _ zs0 x1 W hl0 hm0 h0
  clear hR hok hl0 hi0
  go_enter Try.func6, Try.ntmps6
  go_wp2_with fail
  have HB : Hid (Below w.heap.size w (w.alloc (.cells #[.slice a0 n0 cap0] 24))) := (Below.refl _ _).alloc (Nat.le_refl _) _
  have cb0_0 : (w.alloc (.cells #[.slice a0 n0 cap0] 24)).cell? ⟨w.heap.size, 0, none⟩ = some (.slice a0 n0 cap0) := by go_simp
  have zb0 : w.heap.size < (w.alloc (.cells #[.slice a0 n0 cap0] 24)).heap.size := by simp
  have hsV0 : w.heap.size < (w.alloc (.cells #[.slice a0 n0 cap0] 24)).heap.size := zb0
  generalize (w.alloc (.cells #[.slice a0 n0 cap0] 24)) = V0 at *
  refine (szVec_small _ _ _ _ _ (by omega) (by omega) (by omega)).mono ?_
  rintro e u1 ⟨rfl, hb⟩
  have hsu1 : V0.heap.size ≤ u1.heap.size := hb.size
  replace cb0_0 := (hb.cell (p := ⟨w.heap.size, 0, none⟩) zb0).trans cb0_0
  replace zb0 := Nat.lt_of_lt_of_le zb0 hb.size
  replace HB := Lib.hid (below_step HB.out HB.out.size hb)
  clear hb
  go_wp2_with fail
  refine (toVec_own a0 n0 cap0 zs0 _ HN0.out hn0 (HI0.out.below HB.out)).mono ?_
  rintro e u2 ⟨qw, rfl, hq, hb⟩
  have hsu2 : u1.heap.size ≤ u2.heap.size := hb.size
  replace cb0_0 := (hb.cell (p := ⟨w.heap.size, 0, none⟩) zb0).trans cb0_0
  replace zb0 := Nat.lt_of_lt_of_le zb0 hb.size
  replace HB := Lib.hid (below_step HB.out HB.out.size hb)
  have hQ := Lib.hid hq.isIs
  clear hq
  clear hb
  go_wp2_with fail
  refine (HSP.out _ _ hQ.out).mono ?_
  rintro e u3 ⟨aw, cpw, rfl, ho, hb⟩
  have hsu3 : u2.heap.size ≤ u3.heap.size := hb.size
  replace cb0_0 := (hb.cell (p := ⟨w.heap.size, 0, none⟩) zb0).trans cb0_0
  replace zb0 := Nat.lt_of_lt_of_le zb0 hb.size
  replace HB := Lib.hid (below_step HB.out HB.out.size hb)
  have Ow := Lib.hid ho
  clear ho hQ
  clear hb
  go_wp2_with fail
  have hA : Below u3.heap.size u3 (u3.alloc (.cells #[.slice aw R.length cpw] 27)) := (Below.refl _ _).alloc (Nat.le_refl _) _
  replace cb0_0 := (hA.cell (p := ⟨w.heap.size, 0, none⟩) zb0).trans cb0_0
  replace zb0 := Nat.lt_of_lt_of_le zb0 hA.size
  replace Ow := Lib.hid (Ow.out.below hA)
  replace HB := Lib.hid (below_step HB.out HB.out.size hA)
  clear hA
  have cbw_0 : (u3.alloc (.cells #[.slice aw R.length cpw] 27)).cell? ⟨u3.heap.size, 0, none⟩ = some (.slice aw R.length cpw) := by go_simp
  have zbw : u3.heap.size < (u3.alloc (.cells #[.slice aw R.length cpw] 27)).heap.size := by simp
  have hsVw : u3.heap.size < (u3.alloc (.cells #[.slice aw R.length cpw] 27)).heap.size := by simp
  generalize (u3.alloc (.cells #[.slice aw R.length cpw] 27)) = Vw at *
  refine (toVec_own a0 n0 cap0 zs0 _ HN0.out hn0 (HI0.out.below HB.out)).mono ?_
  rintro e u4 ⟨gx0, rfl, ho, hb⟩
  have hsu4 : Vw.heap.size ≤ u4.heap.size := hb.size
  replace cb0_0 := (hb.cell (p := ⟨w.heap.size, 0, none⟩) zb0).trans cb0_0
  replace zb0 := Nat.lt_of_lt_of_le zb0 hb.size
  replace Ow := Lib.hid (Ow.out.below hb)
  replace cbw_0 := (hb.cell (p := ⟨u3.heap.size, 0, none⟩) zbw).trans cbw_0
  replace zbw := Nat.lt_of_lt_of_le zbw hb.size
  replace HB := Lib.hid (below_step HB.out HB.out.size hb)
  have X0 := Lib.hid ho
  clear ho
  clear hb
  go_wp2_with fail
  have hA : Below u4.heap.size u4 (u4.alloc (.cells #[.slice (some ⟨gx0, 0, none⟩) n0 n0] 27)) := (Below.refl _ _).alloc (Nat.le_refl _) _
  replace cb0_0 := (hA.cell (p := ⟨w.heap.size, 0, none⟩) zb0).trans cb0_0
  replace zb0 := Nat.lt_of_lt_of_le zb0 hA.size
  replace Ow := Lib.hid (Ow.out.below hA)
  replace cbw_0 := (hA.cell (p := ⟨u3.heap.size, 0, none⟩) zbw).trans cbw_0
  replace zbw := Nat.lt_of_lt_of_le zbw hA.size
  replace X0 := Lib.hid (X0.out.below hA)
  replace HB := Lib.hid (below_step HB.out HB.out.size hA)
  clear hA
  have cx0_0 : (u4.alloc (.cells #[.slice (some ⟨gx0, 0, none⟩) n0 n0] 27)).cell? ⟨u4.heap.size, 0, none⟩ = some (.slice (some ⟨gx0, 0, none⟩) n0 n0) := by go_simp
  have zx0 : u4.heap.size < (u4.alloc (.cells #[.slice (some ⟨gx0, 0, none⟩) n0 n0] 27)).heap.size := by simp
  have hsVx0 : u4.heap.size < (u4.alloc (.cells #[.slice (some ⟨gx0, 0, none⟩) n0 n0] 27)).heap.size := by simp
  generalize (u4.alloc (.cells #[.slice (some ⟨gx0, 0, none⟩) n0 n0] 27)) = Vx0 at *
  refine (HIM.out _ _ X0.out.isIs).mono ?_
  rintro e u5 ⟨ag, cpg, rfl, ho, hb⟩
  have hsu5 : Vx0.heap.size ≤ u5.heap.size := hb.size
  replace cb0_0 := (hb.cell (p := ⟨w.heap.size, 0, none⟩) zb0).trans cb0_0
  replace zb0 := Nat.lt_of_lt_of_le zb0 hb.size
  replace Ow := Lib.hid (Ow.out.below hb)
  replace cbw_0 := (hb.cell (p := ⟨u3.heap.size, 0, none⟩) zbw).trans cbw_0
  replace zbw := Nat.lt_of_lt_of_le zbw hb.size
  replace X0 := Lib.hid (X0.out.below hb)
  replace cx0_0 := (hb.cell (p := ⟨u4.heap.size, 0, none⟩) zx0).trans cx0_0
  replace zx0 := Nat.lt_of_lt_of_le zx0 hb.size
  replace HB := Lib.hid (below_step HB.out HB.out.size hb)
  have OG := Lib.hid ho
  clear ho
  clear hb
  go_wp2_with fail
  have hA : Below u5.heap.size u5 (u5.alloc (.cells #[.slice ag R.length cpg] 27)) := (Below.refl _ _).alloc (Nat.le_refl _) _
  replace cb0_0 := (hA.cell (p := ⟨w.heap.size, 0, none⟩) zb0).trans cb0_0
  replace zb0 := Nat.lt_of_lt_of_le zb0 hA.size
  replace Ow := Lib.hid (Ow.out.below hA)
  replace cbw_0 := (hA.cell (p := ⟨u3.heap.size, 0, none⟩) zbw).trans cbw_0
  replace zbw := Nat.lt_of_lt_of_le zbw hA.size
  replace X0 := Lib.hid (X0.out.below hA)
  replace cx0_0 := (hA.cell (p := ⟨u4.heap.size, 0, none⟩) zx0).trans cx0_0
  replace zx0 := Nat.lt_of_lt_of_le zx0 hA.size
  replace OG := Lib.hid (OG.out.below hA)
  replace HB := Lib.hid (below_step HB.out HB.out.size hA)
  clear hA
  have cbg_0 : (u5.alloc (.cells #[.slice ag R.length cpg] 27)).cell? ⟨u5.heap.size, 0, none⟩ = some (.slice ag R.length cpg) := by go_simp
  have zbg : u5.heap.size < (u5.alloc (.cells #[.slice ag R.length cpg] 27)).heap.size := by simp
  have hsVg : u5.heap.size < (u5.alloc (.cells #[.slice ag R.length cpg] 27)).heap.size := by simp
  generalize (u5.alloc (.cells #[.slice ag R.length cpg] 27)) = Vg at *
  refine (eqVec_same ag aw R.length cpg cpw R _ rfl (by omega) OG.out.isInts Ow.out.isInts).mono ?_
  rintro e u6 ⟨rfl, hb⟩
  have hsu6 : Vg.heap.size ≤ u6.heap.size := hb.size
  replace cb0_0 := (hb.cell (p := ⟨w.heap.size, 0, none⟩) zb0).trans cb0_0
  replace zb0 := Nat.lt_of_lt_of_le zb0 hb.size
  replace Ow := Lib.hid (Ow.out.below hb)
  replace cbw_0 := (hb.cell (p := ⟨u3.heap.size, 0, none⟩) zbw).trans cbw_0
  replace zbw := Nat.lt_of_lt_of_le zbw hb.size
  replace X0 := Lib.hid (X0.out.below hb)
  replace cx0_0 := (hb.cell (p := ⟨u4.heap.size, 0, none⟩) zx0).trans cx0_0
  replace zx0 := Nat.lt_of_lt_of_le zx0 hb.size
  replace OG := Lib.hid (OG.out.below hb)
  replace cbg_0 := (hb.cell (p := ⟨u5.heap.size, 0, none⟩) zbg).trans cbg_0
  replace zbg := Nat.lt_of_lt_of_le zbg hb.size
  replace HB := Lib.hid (below_step HB.out HB.out.size hb)
  clear hb
  go_wp2_with fail
  refine wp_region_slots 5 [[(8, false)], [(2, false)], [(46, true)], [(45, true), (47, true)], [(48, true)]] (fun w' => Below u6.heap.size u6 w') LowR (by kernel_rfl) (by kernel_rfl) (by rfl) (Below.refl _ _).drew (fun _ _ h hb => below_step h h.size hb) ?_
  apply slot_eq
  · intro ρ w' ⟨p1, p2, p3⟩ hS hn
    have d0 := (hS.cell (p := ⟨u4.heap.size, 0, none⟩) zx0).trans cx0_0
    simp at hn
    go_simp
    exact ⟨lowR_refl _, rfl⟩
  apply slot_eq
  · intro ρ w' ⟨p1, p2, p3⟩ hS hn
    have d0 := (hS.cell (p := ⟨w.heap.size, 0, none⟩) zb0).trans cb0_0
    simp at hn
    go_simp
    exact ⟨lowR_refl _, rfl⟩
  refine slot_fact (VecF u6.heap.size n0 zs0) (lasts_vecF _ _ _) ?_ ?_
  · intro ρ w' ⟨p1, p2, p3⟩ hS hn
    simp at hn
    go_simp
    exact got_call (toVec_own a0 n0 cap0 zs0 w' HN0.out hn0 (HI0.out.below (below_step HB.out HB.out.size hS))) fun e w'' ⟨g, he, ho, hb⟩ => ⟨_, he, hb, g, rfl, ho.wider hS.size (Nat.le_refl _)⟩
  apply slot_eq
  · intro ρ w' ⟨p1, p2, p3⟩ hS hn
    simp at hn
    obtain ⟨e1, g, e2, ho⟩ := hn
    go_simp
    exact got_call (eqVec_same _ _ n0 n0 n0 zs0 w' HN0.out hn0 (X0.out.below hS).isInts ho.isInts) fun e w'' ⟨he, hb⟩ => ⟨_, he, hb, rfl⟩
  apply slot_eq
  · intro ρ w' ⟨p1, p2, p3⟩ hS hn
    simp at hn
    go_simp
    exact ⟨lowR_refl _, rfl⟩
  refine slot_end ?_
  rintro vs u7 hS hF
  simp at hF
  obtain ⟨e5, e4, ⟨g, e3, -⟩, e2, e1⟩ := hF
  simp only [List.take_succ_cons, List.take_zero, List.drop_succ_cons, List.drop_zero, putAll, e5, e4, e3, e2, e1]
  clear e5 e4 e3 e2 e1
  simp only [Act.put, List.setIfInBounds_toArray, List.set_cons_succ, List.set_cons_zero]
  have hsu7 : u6.heap.size ≤ u7.heap.size := hS.size
  replace cb0_0 := (hS.cell (p := ⟨w.heap.size, 0, none⟩) zb0).trans cb0_0
  replace zb0 := Nat.lt_of_lt_of_le zb0 hS.size
  replace Ow := Lib.hid (Ow.out.below hS)
  replace cbw_0 := (hS.cell (p := ⟨u3.heap.size, 0, none⟩) zbw).trans cbw_0
  replace zbw := Nat.lt_of_lt_of_le zbw hS.size
  replace X0 := Lib.hid (X0.out.below hS)
  replace cx0_0 := (hS.cell (p := ⟨u4.heap.size, 0, none⟩) zx0).trans cx0_0
  replace zx0 := Nat.lt_of_lt_of_le zx0 hS.size
  replace OG := Lib.hid (OG.out.below hS)
  replace cbg_0 := (hS.cell (p := ⟨u5.heap.size, 0, none⟩) zbg).trans cbg_0
  replace zbg := Nat.lt_of_lt_of_le zbg hS.size
  replace HB := Lib.hid (below_step HB.out HB.out.size hS)
  clear hS
  go_wp2_with fail
  refine (markVec_any Vw.heap.size u4.heap.size n0 n0 _ (1) zs0 _ HN0.out hn0 (by omega) (by omega) X0.out).mono ?_
  rintro e u8 ⟨rfl, -, ho⟩
  clear X0
  replace cb0_0 := cell_marked ho zb0 (fun h => by omega) cb0_0
  replace zb0 := Nat.lt_trans zb0 (lt_marked ho)
  replace Ow := Lib.hid (own_marked ho Ow.out (fun x hx => by omega))
  replace cbw_0 := cell_marked ho zbw (fun h => by omega) cbw_0
  replace zbw := Nat.lt_trans zbw (lt_marked ho)
  replace cx0_0 := cell_marked ho zx0 (fun h => by omega) cx0_0
  replace zx0 := Nat.lt_trans zx0 (lt_marked ho)
  replace OG := Lib.hid (own_marked ho OG.out (fun x hx => by omega))
  replace cbg_0 := cell_marked ho zbg (fun h => by omega) cbg_0
  replace zbg := Nat.lt_trans zbg (lt_marked ho)
  replace HB := Lib.hid (HB.out.trans (low_marked ho HB.out.size (fun x hx => by omega)))
  have hsu8 : u7.heap.size ≤ u8.heap.size := Nat.le_of_lt (lt_marked ho)
  clear ho
  go_wp2_with fail
  refine (eqVec_same ag aw R.length cpg cpw R _ rfl (by omega) OG.out.isInts Ow.out.isInts).mono ?_
  rintro e u9 ⟨rfl, hb⟩
  have hsu9 : u8.heap.size ≤ u9.heap.size := hb.size
  replace cb0_0 := (hb.cell (p := ⟨w.heap.size, 0, none⟩) zb0).trans cb0_0
  replace zb0 := Nat.lt_of_lt_of_le zb0 hb.size
  replace Ow := Lib.hid (Ow.out.below hb)
  replace cbw_0 := (hb.cell (p := ⟨u3.heap.size, 0, none⟩) zbw).trans cbw_0
  replace zbw := Nat.lt_of_lt_of_le zbw hb.size
  replace cx0_0 := (hb.cell (p := ⟨u4.heap.size, 0, none⟩) zx0).trans cx0_0
  replace zx0 := Nat.lt_of_lt_of_le zx0 hb.size
  replace OG := Lib.hid (OG.out.below hb)
  replace cbg_0 := (hb.cell (p := ⟨u5.heap.size, 0, none⟩) zbg).trans cbg_0
  replace zbg := Nat.lt_of_lt_of_le zbg hb.size
  replace HB := Lib.hid (below_step HB.out HB.out.size hb)
  clear hb
  go_wp2_with fail
  clear cx0_0 zx0
  refine (markVec_any Vx0.heap.size u5.heap.size R.length cpg ag 1 R _ rfl (by omega) (by omega) (by omega) OG.out).mono ?_
  rintro e u10 ⟨rfl, hmk, ho⟩
  have MG := Lib.hid hmk
  clear OG
  replace cb0_0 := cell_marked ho zb0 (fun h => by omega) cb0_0
  replace zb0 := Nat.lt_trans zb0 (lt_marked ho)
  replace Ow := Lib.hid (own_marked ho Ow.out (fun x hx => by omega))
  replace cbw_0 := cell_marked ho zbw (fun h => by omega) cbw_0
  replace zbw := Nat.lt_trans zbw (lt_marked ho)
  replace cbg_0 := cell_marked ho zbg (fun h => by omega) cbg_0
  replace zbg := Nat.lt_trans zbg (lt_marked ho)
  replace HB := Lib.hid (HB.out.trans (low_marked ho HB.out.size (fun x hx => by omega)))
  have hsu10 : u9.heap.size ≤ u10.heap.size := Nat.le_of_lt (lt_marked ho)
  clear ho hmk
  obtain ⟨kk, hkk⟩ : ∃ kk : Int, kk = 1 + (R.length : Int) := ⟨_, rfl⟩
  have hk0 : 0 ≤ kk := by omega
  have hk1 : kk ≤ 1000000 := by omega
  have HH : Hid (∀ W, MarkedI W ag R.length 1 → Calls Try.prog 17 #[vecV ag R.length cpg, .int .i64 1] W fun e w' => e = .returned (.int .i64 kk) ∧ Below W.heap.size W w') := fun W h => by
    rw [hkk]
    exact heldVec_any _ _ _ _ _ (by omega) (by omega) (by omega) h
  rw [← hkk]
  clear hkk
  go_wp2_with fail
  refine (HH.out _ MG.out).mono ?_
  rintro e u11 ⟨rfl, hb⟩
  have hsu11 : u10.heap.size ≤ u11.heap.size := hb.size
  replace cb0_0 := (hb.cell (p := ⟨w.heap.size, 0, none⟩) zb0).trans cb0_0
  replace zb0 := Nat.lt_of_lt_of_le zb0 hb.size
  replace Ow := Lib.hid (Ow.out.below hb)
  replace cbw_0 := (hb.cell (p := ⟨u3.heap.size, 0, none⟩) zbw).trans cbw_0
  replace zbw := Nat.lt_of_lt_of_le zbw hb.size
  replace cbg_0 := (hb.cell (p := ⟨u5.heap.size, 0, none⟩) zbg).trans cbg_0
  replace zbg := Nat.lt_of_lt_of_le zbg hb.size
  replace MG := Lib.hid (MG.out.below hb)
  replace HB := Lib.hid (below_step HB.out HB.out.size hb)
  clear hb
  go_wp2_with fail
  refine (toVec_own a0 n0 cap0 zs0 _ HN0.out hn0 (HI0.out.below HB.out)).mono ?_
  rintro e u12 ⟨qh, rfl, hq, hb⟩
  have hsu12 : u11.heap.size ≤ u12.heap.size := hb.size
  replace cb0_0 := (hb.cell (p := ⟨w.heap.size, 0, none⟩) zb0).trans cb0_0
  replace zb0 := Nat.lt_of_lt_of_le zb0 hb.size
  replace Ow := Lib.hid (Ow.out.below hb)
  replace cbw_0 := (hb.cell (p := ⟨u3.heap.size, 0, none⟩) zbw).trans cbw_0
  replace zbw := Nat.lt_of_lt_of_le zbw hb.size
  replace cbg_0 := (hb.cell (p := ⟨u5.heap.size, 0, none⟩) zbg).trans cbg_0
  replace zbg := Nat.lt_of_lt_of_le zbg hb.size
  replace MG := Lib.hid (MG.out.below hb)
  replace HB := Lib.hid (below_step HB.out HB.out.size hb)
  have hQ := Lib.hid hq.isIs
  clear hq
  clear hb
  go_wp2_with fail
  refine (HIM.out _ _ hQ.out).mono ?_
  rintro e u13 ⟨ah, cph, rfl, ho, hb⟩
  have hsu13 : u12.heap.size ≤ u13.heap.size := hb.size
  replace cb0_0 := (hb.cell (p := ⟨w.heap.size, 0, none⟩) zb0).trans cb0_0
  replace zb0 := Nat.lt_of_lt_of_le zb0 hb.size
  replace Ow := Lib.hid (Ow.out.below hb)
  replace cbw_0 := (hb.cell (p := ⟨u3.heap.size, 0, none⟩) zbw).trans cbw_0
  replace zbw := Nat.lt_of_lt_of_le zbw hb.size
  replace cbg_0 := (hb.cell (p := ⟨u5.heap.size, 0, none⟩) zbg).trans cbg_0
  replace zbg := Nat.lt_of_lt_of_le zbg hb.size
  replace MG := Lib.hid (MG.out.below hb)
  replace HB := Lib.hid (below_step HB.out HB.out.size hb)
  have Oh := Lib.hid ho
  clear ho hQ
  clear hb
  go_wp2_with fail
  have hA : Below u13.heap.size u13 (u13.alloc (.cells #[.slice ah R.length cph] 27)) := (Below.refl _ _).alloc (Nat.le_refl _) _
  replace cb0_0 := (hA.cell (p := ⟨w.heap.size, 0, none⟩) zb0).trans cb0_0
  replace zb0 := Nat.lt_of_lt_of_le zb0 hA.size
  replace Ow := Lib.hid (Ow.out.below hA)
  replace cbw_0 := (hA.cell (p := ⟨u3.heap.size, 0, none⟩) zbw).trans cbw_0
  replace zbw := Nat.lt_of_lt_of_le zbw hA.size
  replace cbg_0 := (hA.cell (p := ⟨u5.heap.size, 0, none⟩) zbg).trans cbg_0
  replace zbg := Nat.lt_of_lt_of_le zbg hA.size
  replace MG := Lib.hid (MG.out.below hA)
  replace Oh := Lib.hid (Oh.out.below hA)
  replace HB := Lib.hid (below_step HB.out HB.out.size hA)
  clear hA
  have cbh_0 : (u13.alloc (.cells #[.slice ah R.length cph] 27)).cell? ⟨u13.heap.size, 0, none⟩ = some (.slice ah R.length cph) := by go_simp
  have zbh : u13.heap.size < (u13.alloc (.cells #[.slice ah R.length cph] 27)).heap.size := by simp
  have hsVh : u13.heap.size < (u13.alloc (.cells #[.slice ah R.length cph] 27)).heap.size := by simp
  generalize (u13.alloc (.cells #[.slice ah R.length cph] 27)) = Vh at *
  refine (eqVec_same ah aw R.length cph cpw R _ rfl (by omega) Oh.out.isInts Ow.out.isInts).mono ?_
  rintro e u14 ⟨rfl, hb⟩
  have hsu14 : Vh.heap.size ≤ u14.heap.size := hb.size
  replace cb0_0 := (hb.cell (p := ⟨w.heap.size, 0, none⟩) zb0).trans cb0_0
  replace zb0 := Nat.lt_of_lt_of_le zb0 hb.size
  replace Ow := Lib.hid (Ow.out.below hb)
  replace cbw_0 := (hb.cell (p := ⟨u3.heap.size, 0, none⟩) zbw).trans cbw_0
  replace zbw := Nat.lt_of_lt_of_le zbw hb.size
  replace cbg_0 := (hb.cell (p := ⟨u5.heap.size, 0, none⟩) zbg).trans cbg_0
  replace zbg := Nat.lt_of_lt_of_le zbg hb.size
  replace MG := Lib.hid (MG.out.below hb)
  replace Oh := Lib.hid (Oh.out.below hb)
  replace cbh_0 := (hb.cell (p := ⟨u13.heap.size, 0, none⟩) zbh).trans cbh_0
  replace zbh := Nat.lt_of_lt_of_le zbh hb.size
  replace HB := Lib.hid (below_step HB.out HB.out.size hb)
  clear hb
  go_wp2_with fail
  refine (HH.out _ MG.out).mono ?_
  rintro e u15 ⟨rfl, hb⟩
  have hsu15 : u14.heap.size ≤ u15.heap.size := hb.size
  replace cb0_0 := (hb.cell (p := ⟨w.heap.size, 0, none⟩) zb0).trans cb0_0
  replace zb0 := Nat.lt_of_lt_of_le zb0 hb.size
  replace Ow := Lib.hid (Ow.out.below hb)
  replace cbw_0 := (hb.cell (p := ⟨u3.heap.size, 0, none⟩) zbw).trans cbw_0
  replace zbw := Nat.lt_of_lt_of_le zbw hb.size
  replace cbg_0 := (hb.cell (p := ⟨u5.heap.size, 0, none⟩) zbg).trans cbg_0
  replace zbg := Nat.lt_of_lt_of_le zbg hb.size
  replace MG := Lib.hid (MG.out.below hb)
  replace Oh := Lib.hid (Oh.out.below hb)
  replace cbh_0 := (hb.cell (p := ⟨u13.heap.size, 0, none⟩) zbh).trans cbh_0
  replace zbh := Nat.lt_of_lt_of_le zbh hb.size
  replace HB := Lib.hid (below_step HB.out HB.out.size hb)
  clear hb
  go_wp2
  go_ret
  exact ⟨rfl, HB.out⟩

theorem walk (a0 : Option Addr) (n0 cap0 : Nat) (zs0 : List Int) (x1 : Int) (w : World) (hr0 : VecIn w a0 n0 zs0) (_ : -9223372036854775808 ≤ x1 ∧ x1 ≤ 9223372036854775807) :
    Calls Try.prog 6 #[vecV a0 n0 cap0, .int .i64 x1] w fun e w' => e = .returned (.bool true) ∧ Below w.heap.size w w' := by
  obtain ⟨h10, h20, h30, -⟩ := hr0
  by_cases h : n0 ≤ 1048576
  · exact walk_small a0 n0 cap0 zs0 x1 w h10 h30 h
  · exact walk_big0 a0 n0 cap0 x1 w h20 (by omega)

set_option maxRecDepth 100000 in
theorem lifted (os : Os) (started : os.Started) (H : Type) (enc : TypeId × Value → H) :
    ReturnsInHanded {} Try.checked os 6 .any (Rows.fnExactVecTickSpec.pre6 enc Try.prog Try.f6 Rows.fnExactVecTickRow.domain false) (Rows.fnExactVecTickSpec.post enc Try.prog Try.f6 false true false false) := by
  refine returnsInHanded_of_change (C := Try.checked) own started (by kernel_rfl) Try.func6
    (ChangeSpec.witness6 (enc := enc) (C := Try.checked) false ⟨#[], #[.agg #[.slice none 0 0], .int .i64 0], []⟩ 8 (by kernel_rfl) (by kernel_rfl) (by kernel_rfl) (by kernel_rfl)) ?_
  intro W base args ds gs before hval0 hW hcnd _
  have hval : ∀ (j : Nat) t v, Try.f6.params[j]? = some t → args[j]? = some v → Value.okWide Try.prog W .any base t v := hval0
  have hW' := hW
  obtain ⟨p, q, hA0, hV, rfl, hfz, hnd⟩ := hW
  have hA : DataW.TrodAll enc Try.prog W 0 (fun _ => true) true Try.f6.params.toList args.toList ds p := hA0
  rw [Try.params6] at hA hval
  obtain ⟨v0, v1, d0, d1, p0, p1, rfl, rfl, rfl, h0, h1⟩ := trodAll_two hA
  have k0 := h0
  have lt0 : ∀ x ∈ p0, x.block < W.heap.size := by obtain ⟨m, hm⟩ := k0; exact DataW.trod_lt m _ _ _ hm
  have k1 := h1
  have lt1 : ∀ x ∈ p1, x.block < W.heap.size := by obtain ⟨m, hm⟩ := k1; exact DataW.trod_lt m _ _ _ hm
  obtain ⟨rfl, rfl⟩ := trodVars_none hV
  obtain ⟨a0, len0, cap0, zs0, hv0, hr0⟩ := open_vec (hval 0 24 v0 rfl rfl) h0
  subst hv0
  obtain ⟨a1, hv1, _, _, wf1⟩ := open_int Try.underlying3 (hval 1 3 v1 rfl rfl) h1
  subst hv1
  have wa1 : -9223372036854775808 ≤ a1 ∧ a1 ≤ 9223372036854775807 := by
    simp only [Lit.wf, Bool.and_eq_true, decide_eq_true_eq] at wf1
    exact wf1
  clear hA0 hval0
  refine (walk a0 len0 cap0 zs0 a1 W hr0 wa1).mono fun e W' ⟨he, bel⟩ => ?_
  subst he
  exact ⟨_, rfl, _, _, _, [], _, [], hW', trodAll_mk1 (shut_bool Try.underlying4 _), (trodAll_mk2 (Below.trod laidOut (by kernel_rfl) (of_decide_eq_true (by kernel_rfl)) k0 bel lt0) (Below.trod laidOut (by kernel_rfl) (of_decide_eq_true (by kernel_rfl)) k1 bel lt1)), rfl, bel.frame _, fun h => by cases h⟩

theorem over : Rows.fnExactVecTickRow.holds Try.pinned (OpenSpec.ofChange Rows.fnExactVecTickSpec) :=
  OpenClaim.holds_of_wide 6 Try.f6 rfl rfl rfl rfl rfl rfl rfl ⟨rfl, rfl, rfl, rfl, rfl⟩ rfl rfl rfl rfl rfl (by kernel_rfl) Try.func6 (by kernel_rfl)
    (of_decide_eq_true (by kernel_rfl)) (by unfold Func.isWrapper; rw [if_neg (by decide +kernel)]; exact ⟨rfl, rfl⟩)
    (fun os started H enc _ => lifted os started H enc)

end Go.Proofs.Ytolmlcbgdihcbaa.lawVecTick
namespace Go.Proofs.Ytolmlcbgdihcbaa
theorem fnExactVecTick_holds : Rows.FnExactVecTickSaid := lawVecTick.over
#print axioms fnExactVecTick_holds
end Go.Proofs.Ytolmlcbgdihcbaa
