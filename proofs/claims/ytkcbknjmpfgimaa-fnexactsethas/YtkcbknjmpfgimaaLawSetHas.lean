/- At every set and number the law FnExactSetHas answers true: impl.SetHas answers as spec.SetHas, leaves its arguments as they were, and its answer owns its memory. No conditions. -/
import Derived.Test.YtkcbknjmpfgimaaPack3
import Derived.Test.YtkcbknjmpfgimaaPack4
import Derived.Test.YtkcbknjmpfgimaaPack5
import Derived.Test.YtkcbknjmpfgimaaRows
import Derived.Deep.DeepCutAuto
namespace Go.Proofs.Ytkcbknjmpfgimaa.lawSetHas
open Go.ChangeShapes Go.WideShapes Go.ChangeAt Go.RowKit Go.Joins
set_option maxRecDepth 100000
attribute [local go_sem ↓] Go.wp_at_zero Go.wp_at_succ

set_option maxHeartbeats 1000000 in
theorem walk_big0 (a0 : Option Addr) (n0 cap0 : Nat) (b0 : Option Addr) (m0 cb0 : Nat) (x1 : Int) (w : World) (hn0 : n0 ≤ maxLen) (hm0 : m0 ≤ maxLen)  (h : 1048576 < n0 + m0) :
    Calls Try.prog 4 #[setV a0 n0 cap0 b0 m0 cb0, .int .i64 x1] w fun e w' => e = .returned (.bool true) ∧ Below w.heap.size w w' := by
  go_enter Try.func4, Try.ntmps4
  go_wp2_with fail
  have HB : Hid (Below w.heap.size w (w.alloc (.cells #[.slice a0 n0 cap0, .slice b0 m0 cb0] 25))) := (Below.refl _ _).alloc (Nat.le_refl _) _
  refine (szSet_big _ _ _ _ _ _ _ _ (by omega) (by omega) (by omega) hn0 hm0).mono ?_
  rintro e w0 ⟨rfl, hb⟩
  replace HB := Lib.hid (below_step HB.out HB.out.size hb)
  clear hb
  go_wp2
  go_ret
  exact ⟨rfl, HB.out⟩

set_option maxHeartbeats 8000000 in
theorem walk_small (a0 : Option Addr) (n0 cap0 : Nat) (b0 : Option Addr) (m0 cb0 : Nat) (us0 : List Mk) (ds0 : List Tm) (x1 : Int) (w : World) (hl0 : us0.length = n0) (hk0 : ds0.length = m0) (hi0 : IsSt w a0 b0 us0 ds0) (h : (n0 + m0) ≤ 1048576) :
    Calls Try.prog 4 #[setV a0 n0 cap0 b0 m0 cb0, .int .i64 x1] w fun e w' => e = .returned (.bool true) ∧ Below w.heap.size w w' := by
  have HI0 : Hid (IsSt w a0 b0 us0 ds0) := hi0
  have HN0 : Hid (us0.length = n0) := hl0
  have HK0 : Hid (ds0.length = m0) := hk0
  have hnx0 : n0 ≤ maxLen := by unfold maxLen; omega
  have hmx0 : m0 ≤ maxLen := by unfold maxLen; omega
  have hn0 : n0 ≤ 4194304 := by omega
  have hm0 : m0 ≤ 4194304 := by omega
  obtain ⟨R, hR⟩ : ∃ R, R = (setOkB us0 ds0 && hasB us0 ds0 x1) := ⟨_, rfl⟩
  have HSP : Hid (∀ W g0 h0, IsSt W (some ⟨g0, 0, none⟩) (some ⟨h0, 0, none⟩) us0 ds0 → Calls Try.prog 14 #[setV (some ⟨g0, 0, none⟩) n0 n0 (some ⟨h0, 0, none⟩) m0 m0, .int .i64 x1] W fun e w' => e = .returned (.bool R) ∧ Below W.heap.size W w') := fun W g0 h0 q0 => by
    rw [hR]
    exact specSetHas_any _ _ _ _ _ _ us0 ds0 x1 W HN0.out hnx0 HK0.out hmx0 q0
  have HIM : Hid (∀ W g0 h0, IsSt W (some ⟨g0, 0, none⟩) (some ⟨h0, 0, none⟩) us0 ds0 → Calls Try.prog 15 #[setV (some ⟨g0, 0, none⟩) n0 n0 (some ⟨h0, 0, none⟩) m0 m0, .int .i64 x1] W fun e w' => e = .returned (.bool R) ∧ Below W.heap.size W w') := fun W g0 h0 q0 => by
    rw [hR]
    exact implSetHas_any _ _ _ _ _ _ us0 ds0 x1 W HN0.out (by omega) HK0.out (by omega) q0
  clear hR hl0 hk0 hi0
  go_enter Try.func4, Try.ntmps4
  go_wp2_with fail
  have HB : Hid (Below w.heap.size w (w.alloc (.cells #[.slice a0 n0 cap0, .slice b0 m0 cb0] 25))) := (Below.refl _ _).alloc (Nat.le_refl _) _
  have cb0_0 : (w.alloc (.cells #[.slice a0 n0 cap0, .slice b0 m0 cb0] 25)).cell? ⟨w.heap.size, 0, none⟩ = some (.slice a0 n0 cap0) := by go_simp
  have cb0_1 : (w.alloc (.cells #[.slice a0 n0 cap0, .slice b0 m0 cb0] 25)).cell? ⟨w.heap.size, 1, none⟩ = some (.slice b0 m0 cb0) := by go_simp
  have zb0 : w.heap.size < (w.alloc (.cells #[.slice a0 n0 cap0, .slice b0 m0 cb0] 25)).heap.size := by simp
  have hsV0 : w.heap.size < (w.alloc (.cells #[.slice a0 n0 cap0, .slice b0 m0 cb0] 25)).heap.size := zb0
  generalize (w.alloc (.cells #[.slice a0 n0 cap0, .slice b0 m0 cb0] 25)) = V0 at *
  refine (szSet_small _ _ _ _ _ _ _ _ (by omega) (by omega) (by omega)).mono ?_
  rintro e u1 ⟨rfl, hb⟩
  have hsu1 : V0.heap.size ≤ u1.heap.size := hb.size
  replace cb0_0 := fl_cells hb zb0 cb0_0
  replace cb0_1 := fl_cells hb zb0 cb0_1
  replace zb0 := Nat.lt_of_lt_of_le zb0 hb.size
  replace HB := Lib.hid (below_step HB.out HB.out.size hb)
  clear hb
  go_wp2_with fail
  refine (toSet_own a0 n0 cap0 b0 m0 cb0 us0 ds0 _ HN0.out hn0 HK0.out hm0 (HI0.out.below HB.out)).mono ?_
  rintro e u2 ⟨qw, rw, rfl, hq, hb⟩
  have hsu2 : u1.heap.size ≤ u2.heap.size := hb.size
  replace cb0_0 := fl_cells hb zb0 cb0_0
  replace cb0_1 := fl_cells hb zb0 cb0_1
  replace zb0 := Nat.lt_of_lt_of_le zb0 hb.size
  replace HB := Lib.hid (below_step HB.out HB.out.size hb)
  have hQ := Lib.hid hq.isSt
  clear hq
  clear hb
  go_wp2_with fail
  refine (HSP.out _ _ _ hQ.out).mono ?_
  rintro e u3 ⟨rfl, hb⟩
  have hsu3 : u2.heap.size ≤ u3.heap.size := hb.size
  replace cb0_0 := fl_cells hb zb0 cb0_0
  replace cb0_1 := fl_cells hb zb0 cb0_1
  replace zb0 := Nat.lt_of_lt_of_le zb0 hb.size
  replace HB := Lib.hid (below_step HB.out HB.out.size hb)
  clear hQ
  clear hb
  go_wp2_with fail
  refine (toSet_own a0 n0 cap0 b0 m0 cb0 us0 ds0 _ HN0.out hn0 HK0.out hm0 (HI0.out.below HB.out)).mono ?_
  rintro e u4 ⟨gx0, hx0, rfl, ho, hb⟩
  have hsu4 : u3.heap.size ≤ u4.heap.size := hb.size
  replace cb0_0 := fl_cells hb zb0 cb0_0
  replace cb0_1 := fl_cells hb zb0 cb0_1
  replace zb0 := Nat.lt_of_lt_of_le zb0 hb.size
  replace HB := Lib.hid (below_step HB.out HB.out.size hb)
  have X0 := Lib.hid ho
  clear ho
  clear hb
  go_wp2_with fail
  have hA : Below u4.heap.size u4 (u4.alloc (.cells #[.slice (some ⟨gx0, 0, none⟩) n0 n0, .slice (some ⟨hx0, 0, none⟩) m0 m0] 31)) := (Below.refl _ _).alloc (Nat.le_refl _) _
  replace cb0_0 := fl_cells hA zb0 cb0_0
  replace cb0_1 := fl_cells hA zb0 cb0_1
  replace zb0 := Nat.lt_of_lt_of_le zb0 hA.size
  replace X0 := Lib.hid (X0.out.below hA)
  replace HB := Lib.hid (below_step HB.out HB.out.size hA)
  clear hA
  have cx0_0 : (u4.alloc (.cells #[.slice (some ⟨gx0, 0, none⟩) n0 n0, .slice (some ⟨hx0, 0, none⟩) m0 m0] 31)).cell? ⟨u4.heap.size, 0, none⟩ = some (.slice (some ⟨gx0, 0, none⟩) n0 n0) := by go_simp
  have cx0_1 : (u4.alloc (.cells #[.slice (some ⟨gx0, 0, none⟩) n0 n0, .slice (some ⟨hx0, 0, none⟩) m0 m0] 31)).cell? ⟨u4.heap.size, 1, none⟩ = some (.slice (some ⟨hx0, 0, none⟩) m0 m0) := by go_simp
  have zx0 : u4.heap.size < (u4.alloc (.cells #[.slice (some ⟨gx0, 0, none⟩) n0 n0, .slice (some ⟨hx0, 0, none⟩) m0 m0] 31)).heap.size := by simp
  have hsVx0 : u4.heap.size < (u4.alloc (.cells #[.slice (some ⟨gx0, 0, none⟩) n0 n0, .slice (some ⟨hx0, 0, none⟩) m0 m0] 31)).heap.size := by simp
  generalize (u4.alloc (.cells #[.slice (some ⟨gx0, 0, none⟩) n0 n0, .slice (some ⟨hx0, 0, none⟩) m0 m0] 31)) = Vx0 at *
  refine (HIM.out _ _ _ X0.out.isSt).mono ?_
  rintro e u5 ⟨rfl, hb⟩
  have hsu5 : Vx0.heap.size ≤ u5.heap.size := hb.size
  replace cb0_0 := fl_cells hb zb0 cb0_0
  replace cb0_1 := fl_cells hb zb0 cb0_1
  replace zb0 := Nat.lt_of_lt_of_le zb0 hb.size
  replace X0 := Lib.hid (X0.out.below hb)
  replace cx0_0 := fl_cells hb zx0 cx0_0
  replace cx0_1 := fl_cells hb zx0 cx0_1
  replace zx0 := Nat.lt_of_lt_of_le zx0 hb.size
  replace HB := Lib.hid (below_step HB.out HB.out.size hb)
  clear hb
  go_wp2_with fail
  refine wp_region_slots 5 [[(7, false)], [(2, false)], [(27, true)], [(26, true), (28, true)], [(29, true)]] (fun w' => Below u5.heap.size u5 w') FlR (by kernel_rfl) (by kernel_rfl) (by rfl) (Below.refl _ _).drew (fun _ _ h hb => below_step h h.size hb) ?_
  apply slot_eq
  · intro ρ w' ⟨p1, p2, p3⟩ hS hn
    have d0 := fl_cells hS zx0 cx0_0; have d1 := fl_cells hS zx0 cx0_1
    simp at hn
    go_simp
    exact ⟨flR_refl _, rfl⟩
  apply slot_eq
  · intro ρ w' ⟨p1, p2, p3⟩ hS hn
    have d0 := fl_cells hS zb0 cb0_0; have d1 := fl_cells hS zb0 cb0_1
    simp at hn
    go_simp
    exact ⟨flR_refl _, rfl⟩
  refine slot_fact (StF u5.heap.size n0 m0 us0 ds0) (lasts_stF _ _ _ _ _) ?_ ?_
  · intro ρ w' ⟨p1, p2, p3⟩ hS hn
    simp at hn
    go_simp
    exact got_call (toSet_own a0 n0 cap0 b0 m0 cb0 us0 ds0 w' HN0.out hn0 HK0.out hm0 (HI0.out.below (below_step HB.out HB.out.size hS))) fun e w'' ⟨g, h, he, ho, hb⟩ => ⟨_, he, hb, g, h, rfl, ho.wider hS.size (Nat.le_refl _)⟩
  apply slot_eq
  · intro ρ w' ⟨p1, p2, p3⟩ hS hn
    simp at hn
    obtain ⟨e1, g, h, e2, ho⟩ := hn
    go_simp
    exact got_call (eqSet_same _ n0 n0 _ m0 m0 _ n0 _ m0 us0 ds0 w' HN0.out hn0 HK0.out hm0 (X0.out.below hS).isSt ho.isSt) fun e w'' ⟨he, hb⟩ => ⟨_, he, hb, rfl⟩
  apply slot_eq
  · intro ρ w' ⟨p1, p2, p3⟩ hS hn
    simp at hn
    go_simp
    exact ⟨flR_refl _, rfl⟩
  refine slot_end ?_
  rintro vs u6 hS hF
  simp at hF
  obtain ⟨e5, e4, ⟨g, h, e3, -⟩, e2, e1⟩ := hF
  simp only [List.take_succ_cons, List.take_zero, List.drop_succ_cons, List.drop_zero, putAll, e5, e4, e3, e2, e1]
  clear e5 e4 e3 e2 e1
  simp only [Act.put, List.setIfInBounds_toArray, List.set_cons_succ, List.set_cons_zero]
  have hsu6 : u5.heap.size ≤ u6.heap.size := hS.size
  replace cb0_0 := fl_cells hS zb0 cb0_0
  replace cb0_1 := fl_cells hS zb0 cb0_1
  replace zb0 := Nat.lt_of_lt_of_le zb0 hS.size
  replace X0 := Lib.hid (X0.out.below hS)
  replace cx0_0 := fl_cells hS zx0 cx0_0
  replace cx0_1 := fl_cells hS zx0 cx0_1
  replace zx0 := Nat.lt_of_lt_of_le zx0 hS.size
  replace HB := Lib.hid (below_step HB.out HB.out.size hS)
  clear hS
  clear cx0_0 cx0_1 zx0
  clear X0
  go_wp2
  go_ret
  exact ⟨rfl, HB.out⟩

theorem walk (a0 : Option Addr) (n0 cap0 : Nat) (b0 : Option Addr) (m0 cb0 : Nat) (us0 : List Mk) (ds0 : List Tm) (x1 : Int) (w : World) (hr0 : SetIn w a0 n0 b0 m0 us0 ds0) (_ : -9223372036854775808 ≤ x1 ∧ x1 ≤ 9223372036854775807) :
    Calls Try.prog 4 #[setV a0 n0 cap0 b0 m0 cb0, .int .i64 x1] w fun e w' => e = .returned (.bool true) ∧ Below w.heap.size w w' := by
  obtain ⟨⟨h10, h20, h30⟩, h40, h50, h60⟩ := hr0
  by_cases h : n0 + m0 ≤ 1048576
  · exact walk_small a0 n0 cap0 b0 m0 cb0 us0 ds0 x1 w h10 h40 ⟨h30, h60⟩ h
  · exact walk_big0 a0 n0 cap0 b0 m0 cb0 x1 w h20 h50 (by omega)

theorem lifted (os : Os) (started : os.Started) (H : Type) (enc : TypeId × Value → H) :
    ReturnsInHanded {} Try.checked os 4 .any (Rows.fnExactSetHasSpec.pre6 enc Try.prog Try.f4 Rows.fnExactSetHasRow.domain false) (Rows.fnExactSetHasSpec.post enc Try.prog Try.f4 false true false false) := by
  refine returnsInHanded_of_change (C := Try.checked) own started (by kernel_rfl) Try.func4
    (ChangeSpec.witness6 (enc := enc) (C := Try.checked) false ⟨#[], #[.agg #[.slice none 0 0, .slice none 0 0], .int .i64 0], []⟩ 8 (by kernel_rfl) (by kernel_rfl) (by kernel_rfl) (by kernel_rfl)) ?_
  intro W base args ds gs before hval0 hW hcnd _
  have hval : ∀ (j : Nat) t v, Try.f4.params[j]? = some t → args[j]? = some v → Value.okWide Try.prog W .any base t v := hval0
  have hW' := hW
  obtain ⟨p, q, hA0, hV, rfl, hfz, hnd⟩ := hW
  have hA : DataW.TrodAll enc Try.prog W 0 (fun _ => true) true Try.f4.params.toList args.toList ds p := hA0
  rw [Try.params4] at hA hval
  obtain ⟨v0, v1, d0, d1, p0, p1, rfl, rfl, rfl, h0, h1⟩ := trodAll_two hA
  have k0 := h0
  have lt0 : ∀ x ∈ p0, x.block < W.heap.size := by obtain ⟨m, hm⟩ := k0; exact DataW.trod_lt m _ _ _ hm
  have k1 := h1
  have lt1 : ∀ x ∈ p1, x.block < W.heap.size := by obtain ⟨m, hm⟩ := k1; exact DataW.trod_lt m _ _ _ hm
  obtain ⟨rfl, rfl⟩ := trodVars_none hV
  obtain ⟨a0, len0, cap0, b0, m0, cb0, us0, ds0, hv0, hr0⟩ := open_set (hval 0 25 v0 rfl rfl) h0
  subst hv0
  obtain ⟨a1, hv1, _, _, wf1⟩ := open_int Try.underlying3 (hval 1 3 v1 rfl rfl) h1
  subst hv1
  have wa1 : -9223372036854775808 ≤ a1 ∧ a1 ≤ 9223372036854775807 := by
    simp only [Lit.wf, Bool.and_eq_true, decide_eq_true_eq] at wf1
    exact wf1
  clear hA0 hval0
  refine (walk a0 len0 cap0 b0 m0 cb0 us0 ds0 a1 W hr0 wa1).mono fun e W' ⟨he, bel⟩ => ?_
  subst he
  exact ⟨_, rfl, _, _, _, [], _, [], hW', trodAll_mk1 (shut_bool Try.underlying4 _), (trodAll_mk2 (Below.trod laidOut (by kernel_rfl) (of_decide_eq_true (by kernel_rfl)) k0 bel lt0) (Below.trod laidOut (by kernel_rfl) (of_decide_eq_true (by kernel_rfl)) k1 bel lt1)), rfl, bel.frame _, fun h => by cases h⟩

theorem over : Rows.fnExactSetHasRow.holds Try.pinned (OpenSpec.ofChange Rows.fnExactSetHasSpec) :=
  OpenClaim.holds_of_wide 4 Try.f4 rfl rfl rfl rfl rfl rfl rfl ⟨rfl, rfl, rfl, rfl, rfl⟩ rfl rfl rfl rfl rfl (by kernel_rfl) Try.func4 (by kernel_rfl)
    (of_decide_eq_true (by kernel_rfl)) (by unfold Func.isWrapper; rw [if_neg (by decide +kernel)]; exact ⟨rfl, rfl⟩)
    (fun os started H enc _ => lifted os started H enc)

end Go.Proofs.Ytkcbknjmpfgimaa.lawSetHas
namespace Go.Proofs.Ytkcbknjmpfgimaa
theorem fnExactSetHas_holds : Rows.FnExactSetHasSaid := lawSetHas.over
#print axioms fnExactSetHas_holds
end Go.Proofs.Ytkcbknjmpfgimaa
