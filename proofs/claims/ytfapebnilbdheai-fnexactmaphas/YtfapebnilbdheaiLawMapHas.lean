/- At every list of writes, key and tag the law FnExactMapHas answers true: impl.MapHas answers as spec.MapHas and leaves the list as it was. No conditions. -/
import Derived.Test.YtfapebnilbdheaiIMap2
import Derived.Test.YtfapebnilbdheaiOpenWs
namespace Go.Proofs.Ytfapebnilbdheai.lawMapHas
open Go.ChangeShapes Go.WideShapes Go.ChangeAt Go.RowKit Go.Joins
attribute [local go_sem ↓] Go.wp_at_zero Go.wp_at_succ

/-- Of the box that holds the tag. -/
abbrev BoxT (w W : World) (c s q : Int) : Prop := W.cell? ⟨w.heap.size, 0, none⟩ = some (.int .i64 c) ∧ W.cell? ⟨w.heap.size, 1, none⟩ = some (.int .i64 s) ∧ W.cell? ⟨w.heap.size, 2, none⟩ = some (.int .i64 q) ∧ w.heap.size < W.heap.size ∧ Below w.heap.size w W

theorem boxT_step {w W W' : World} {c s q : Int} (h : BoxT w W c s q) (hb : Below W.heap.size W W') : BoxT w W' c s q := by
  obtain ⟨h0, h1, h2, h3, h4⟩ := h
  exact ⟨held_cell hb h0 h3, held_cell hb h1 h3, held_cell hb h2 h3, Nat.lt_of_lt_of_le h3 hb.size, below_step h4 h4.size hb⟩

theorem boxT_start {w w1 : World} {c s q : Int} {t : Nat} (hb : Below (w.alloc (.cells #[.int .i64 c, .int .i64 s, .int .i64 q] t)).heap.size (w.alloc (.cells #[.int .i64 c, .int .i64 s, .int .i64 q] t)) w1) : BoxT w w1 c s q :=
  ⟨box_cells hb 0 (by simp), box_cells hb 1 (by simp), box_cells hb 2 (by simp), by have := hb.size; simp at this; omega, below_step ((Below.refl _ _).alloc (Nat.le_refl _) _) (by simp) hb⟩

theorem boxT_drew {w W : World} {c s q : Int} (h : BoxT w W c s q) : BoxT w W.drew c s q := boxT_step h (Below.refl _ _).drew

set_option maxHeartbeats 4000000 in
theorem walk (a : Option Addr) (len cap : Nat) (ws : List Wr) (key c s q : Int) (w : World) (hr : ws.length = len ∧ len ≤ maxLen ∧ IsWs w a ws) (_ : -9223372036854775808 ≤ key ∧ key ≤ 9223372036854775807) :
    Calls Try.prog 7 #[.slice a len cap, .int .i64 key, tagV c s q] w fun e w' => e = .returned (.bool true) ∧ Below w.heap.size w w' := by
  obtain ⟨hl, hm, hi⟩ := hr
  have HI := Lib.hid hi
  have HL := Lib.hid hl
  clear hi hl
  go_enter Try.func7, Try.ntmps7
  go_wp2_with fail
  refine (szWriteS_any a len cap 1048576 ws _ (by omega) (by omega) hm HL.out (HI.out.below ((Below.refl _ _).alloc (Nat.le_refl _) _))).mono ?_
  rintro e w1 ⟨r, rfl, hr, hb⟩
  have HT1 := Lib.hid (boxT_start hb)
  clear hb hm
  rcases hr with rfl | ⟨r0, hr⟩
  · go_wp2
    go_ret
    exact ⟨rfl, HT1.out.2.2.2.2⟩
  have hn : len ≤ 1048576 := by omega
  have HF : Hid (Few ws) := few_of_bulk (by omega)
  have HX : Hid (∀ i, i < len → (ws.getD i wz).xs.length ≤ 1048576) := fun i h => HF.out i (by rw [HL.out]; exact h)
  clear hr
  go_wp2_with fail
  go_region_held3 (fun w' => w'.cell? ⟨w.heap.size, 0, none⟩ = some (.int .i64 c) ∧ w'.cell? ⟨w.heap.size, 1, none⟩ = some (.int .i64 s) ∧ w'.cell? ⟨w.heap.size, 2, none⟩ = some (.int .i64 q) ∧ w.heap.size < w'.heap.size ∧ Below w.heap.size w w')
    (first | assumption | exact boxT_drew HT1.out | exact boxT_step (by assumption) hb2 | exact boxT_step (by assumption) hb3 | exact boxT_step (by assumption) hb4)
    (first | (go_at_call 11; refine (toWriteS_any a len cap ws _ hn HL.out HX.out (HI.out.below (by assumption : BoxT w _ c s q).2.2.2.2)).mono ?_; rintro e w2 ⟨γ2, rfl, hO2, hb2⟩) | (go_at_call 28; refine (toTag_any _ _ _ _).mono ?_; rintro e w3 ⟨rfl, hb3⟩) | (go_at_call 27; refine (specMapHas_any _ len len key c s q ws γ2 _ HL.out hn HF.out (by first | exact hO2.holds | exact (hO2.below hb3).holds)).mono ?_; rintro e w4 ⟨rfl, hb4⟩))
  have HT4 : Hid (BoxT w w4 c s q) := ‹_ ∧ _›
  have HB4 : Hid (Below w.heap.size w w4) := HT4.out.2.2.2.2
  clear hO2 hb2 hb3 hb4 HT1
  go_wp2_with fail
  refine (toWriteS_any a len cap ws _ hn HL.out HX.out (HI.out.below HB4.out)).mono ?_
  rintro e w5 ⟨γ5, rfl, hO5, hb⟩
  have HT5 := Lib.hid (boxT_step HT4.out hb)
  have HO5 := Lib.hid hO5
  have c0 := HT5.out.1
  have c1 := HT5.out.2.1
  have c2 := HT5.out.2.2.1
  clear hb hO5 HT4 HB4
  go_wp2_with fail
  refine (toTag_any _ _ _ _).mono ?_
  rintro e w6 ⟨rfl, hb⟩
  have HT6 := Lib.hid (boxT_step HT5.out hb)
  have HO6 := Lib.hid (HO5.out.below hb)
  clear hb HT5 HO5 c0 c1 c2
  go_wp2_with fail
  refine (implMapHas_any _ len len key c s q ws _ HL.out hn (HO6.out.holds.isWs HF.out)).mono ?_
  rintro e w7 ⟨rfl, hb⟩
  have HT7 := Lib.hid (boxT_step HT6.out hb)
  have HO7 := Lib.hid (HO6.out.below hb)
  have HB7 : Hid (Below w.heap.size w w7) := HT7.out.2.2.2.2
  clear hb HT6 HO6
  go_wp2_with fail
  refine (toWriteS_any a len cap ws _ hn HL.out HX.out (HI.out.below HB7.out)).mono ?_
  rintro e w8 ⟨γ8, rfl, hO8, hb⟩
  have HB8 : Hid (Below w.heap.size w w8) := below_step HB7.out HB7.out.size hb
  have HO8 := Lib.hid hO8
  have HO78 := Lib.hid (HO7.out.below hb)
  clear hb hO8 HB7 HO7 HT7
  go_wp2_with fail
  refine (eqWriteS_same _ _ len len len ws _ _ _ HL.out hn HF.out HO78.out.holds HO8.out.holds).mono ?_
  rintro e w9 ⟨rfl, hb⟩
  have HB9 : Hid (Below w.heap.size w w9) := below_step HB8.out HB8.out.size hb
  clear hb
  go_wp2
  go_ret
  exact ⟨rfl, HB9.out⟩

set_option maxRecDepth 100000 in
theorem lifted (os : Os) (started : os.Started) (H : Type) (enc : TypeId × Value → H) :
    ReturnsInHanded {} Try.checked os 7 .any (Rows.fnExactMapHasSpec.pre6 enc Try.prog Try.f7 Rows.fnExactMapHasRow.domain false) (Rows.fnExactMapHasSpec.post enc Try.prog Try.f7 false true false false) := by
  refine returnsInHanded_of_change (C := Try.checked) own started (by kernel_rfl) Try.func7
    (ChangeSpec.witness6 (enc := enc) (C := Try.checked) false ⟨#[], #[.slice none 0 0, .int .i64 0, .agg #[.int .i64 0, .int .i64 0, .int .i64 0]], []⟩ 8 (by kernel_rfl) (by kernel_rfl) (by kernel_rfl) (by kernel_rfl)) ?_
  intro W base args ds gs before hval0 hW hcnd _
  have hval : ∀ (j : Nat) t v, Try.f7.params[j]? = some t → args[j]? = some v → Value.okWide Try.prog W .any base t v := hval0
  have hW' := hW
  obtain ⟨p, q, hA0, hV, rfl, hfz, hnd⟩ := hW
  have hA : DataW.TrodAll enc Try.prog W 0 (fun _ => true) true Try.f7.params.toList args.toList ds p := hA0
  rw [Try.params7] at hA hval
  obtain ⟨v0, v1, v2, d0, d1, d2, p0, p1, p2, rfl, rfl, rfl, h0, h1, h2⟩ := trodAll_three hA
  have k0 := h0
  have lt0 : ∀ x ∈ p0, x.block < W.heap.size := by obtain ⟨m, hm⟩ := k0; exact DataW.trod_lt m _ _ _ hm
  have k1 := h1
  have lt1 : ∀ x ∈ p1, x.block < W.heap.size := by obtain ⟨m, hm⟩ := k1; exact DataW.trod_lt m _ _ _ hm
  have k2 := h2
  have lt2 : ∀ x ∈ p2, x.block < W.heap.size := by obtain ⟨m, hm⟩ := k2; exact DataW.trod_lt m _ _ _ hm
  obtain ⟨rfl, rfl⟩ := trodVars_none hV
  obtain ⟨a0, len0, cap0, xs0, hv0, hr0⟩ := open_ws (hval 0 22 v0 rfl rfl) h0
  subst hv0
  obtain ⟨a1, hv1, _, _, wf1⟩ := open_int Try.underlying3 (hval 1 3 v1 rfl rfl) h1
  subst hv1
  have wa1 : -9223372036854775808 ≤ a1 ∧ a1 ≤ 9223372036854775807 := by
    simp only [Lit.wf, Bool.and_eq_true, decide_eq_true_eq] at wf1
    exact wf1
  obtain ⟨c2, s2, q2, hv2⟩ := open_tag (hval 2 40 v2 rfl rfl) h2
  subst hv2
  clear hA0 hval0
  refine (walk a0 len0 cap0 xs0 a1 c2 s2 q2 W hr0 wa1).mono fun e W' ⟨he, bel⟩ => ?_
  subst he
  exact ⟨_, rfl, _, _, _, [], _, [], hW', trodAll_mk1 (shut_bool Try.underlying4 _), (trodAll_mk3 (Below.trod laidOut (by kernel_rfl) (of_decide_eq_true (by kernel_rfl)) k0 bel lt0) (Below.trod laidOut (by kernel_rfl) (of_decide_eq_true (by kernel_rfl)) k1 bel lt1) (Below.trod laidOut (by kernel_rfl) (of_decide_eq_true (by kernel_rfl)) k2 bel lt2)), rfl, bel.frame _, fun h => by cases h⟩

theorem over : Rows.fnExactMapHasRow.holds Try.pinned (OpenSpec.ofChange Rows.fnExactMapHasSpec) :=
  OpenClaim.holds_of_wide 7 Try.f7 rfl rfl rfl rfl rfl rfl rfl ⟨rfl, rfl, rfl, rfl, rfl⟩ rfl rfl rfl rfl rfl (by kernel_rfl) Try.func7 (by kernel_rfl)
    (of_decide_eq_true (by kernel_rfl)) (by unfold Func.isWrapper; rw [if_neg (by decide +kernel)]; exact ⟨rfl, rfl⟩)
    (fun os started H enc _ => lifted os started H enc)

end Go.Proofs.Ytfapebnilbdheai.lawMapHas
namespace Go.Proofs.Ytfapebnilbdheai
theorem fnExactMapHas_holds : Rows.FnExactMapHasSaid := lawMapHas.over
#print axioms fnExactMapHas_holds
end Go.Proofs.Ytfapebnilbdheai
