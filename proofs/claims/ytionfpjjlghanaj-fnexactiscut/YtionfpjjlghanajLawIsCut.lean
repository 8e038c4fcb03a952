/- At every list of writes the law FnExactIsCut answers true: impl.IsCut answers as spec.IsCut and leaves the list as it was. No conditions. -/
import Derived.Test.YtionfpjjlghanajICuts
import Derived.Test.YtionfpjjlghanajOpenWs
namespace Go.Proofs.Ytionfpjjlghanaj.lawIsCut
open Go.ChangeShapes Go.WideShapes Go.ChangeAt Go.RowKit Go.Joins
attribute [local go_sem ↓] Go.wp_at_zero Go.wp_at_succ

set_option maxHeartbeats 2000000 in
theorem walk (a : Option Addr) (len cap : Nat) (ws : List Wr) (w : World) (hr : ws.length = len ∧ len ≤ maxLen ∧ IsWs w a ws) :
    Calls Try.prog 6 #[.slice a len cap] w fun e w' => e = .returned (.bool true) ∧ Below w.heap.size w w' := by
  obtain ⟨hl, hm, hi⟩ := hr
  have HI := Lib.hid hi
  have HL := Lib.hid hl
  clear hi hl
  go_enter Try.func6, Try.ntmps6
  go_wp2_with fail
  refine (szWriteS_any a len cap 1048576 ws _ (by omega) (by omega) hm HL.out HI.out).mono ?_
  rintro e w1 ⟨r, rfl, hr, hb⟩
  have HB1 := Lib.hid hb
  clear hb hm
  rcases hr with rfl | ⟨r0, hr⟩
  · go_wp2
    go_ret
    exact ⟨rfl, HB1.out⟩
  have hn : len ≤ 1048576 := by omega
  have HF : Hid (Few ws) := few_of_bulk (by omega)
  have HX : Hid (∀ i, i < len → (ws.getD i wz).xs.length ≤ 1048576) := fun i h => HF.out i (by rw [HL.out]; exact h)
  clear hr
  go_wp2_with fail
  refine (toWriteS_any a len cap ws _ hn HL.out HX.out (HI.out.below HB1.out)).mono ?_
  rintro e w2 ⟨γ2, rfl, hO2, hb⟩
  have HB2 : Hid (Below w.heap.size w w2) := below_step HB1.out HB1.out.size hb
  have HO2 := Lib.hid hO2
  clear hb hO2 HB1
  go_wp2_with fail
  refine (specIsCut_any _ len len ws _ HL.out hn HF.out (HO2.out.holds.isWs HF.out)).mono ?_
  rintro e w3 ⟨rfl, hb⟩
  have HB3 : Hid (Below w.heap.size w w3) := below_step HB2.out HB2.out.size hb
  clear hb HB2 HO2
  go_wp2_with fail
  refine (toWriteS_any a len cap ws _ hn HL.out HX.out (HI.out.below HB3.out)).mono ?_
  rintro e w4 ⟨γ4, rfl, hO4, hb⟩
  have HB4 : Hid (Below w.heap.size w w4) := below_step HB3.out HB3.out.size hb
  have HO4 := Lib.hid hO4
  clear hb hO4 HB3
  go_wp2_with fail
  refine (implIsCut_any _ len len ws _ HL.out hn HF.out (HO4.out.holds.isWs HF.out)).mono ?_
  rintro e w5 ⟨rfl, hb⟩
  have HB5 : Hid (Below w.heap.size w w5) := below_step HB4.out HB4.out.size hb
  have HO5 := Lib.hid (HO4.out.below hb)
  clear hb HO4 HB4
  go_wp2_with fail
  refine (toWriteS_any a len cap ws _ hn HL.out HX.out (HI.out.below HB5.out)).mono ?_
  rintro e w6 ⟨γ6, rfl, hO6, hb⟩
  have HB6 : Hid (Below w.heap.size w w6) := below_step HB5.out HB5.out.size hb
  have HO6 := Lib.hid hO6
  have HO56 := Lib.hid (HO5.out.below hb)
  clear hb hO6 HB5 HO5
  go_wp2_with fail
  refine (eqWriteS_same _ _ len len len ws _ _ _ HL.out hn HF.out HO56.out.holds HO6.out.holds).mono ?_
  rintro e w7 ⟨rfl, hb⟩
  have HB7 : Hid (Below w.heap.size w w7) := below_step HB6.out HB6.out.size hb
  clear hb
  go_wp2
  go_ret
  exact ⟨rfl, HB7.out⟩

set_option maxRecDepth 100000 in
theorem lifted (os : Os) (started : os.Started) (H : Type) (enc : TypeId × Value → H) :
    ReturnsInHanded {} Try.checked os 6 .any (Rows.fnExactIsCutSpec.pre6 enc Try.prog Try.f6 Rows.fnExactIsCutRow.domain false) (Rows.fnExactIsCutSpec.post enc Try.prog Try.f6 false true false false) := by
  refine returnsInHanded_of_change (C := Try.checked) own started (by kernel_rfl) Try.func6
    (ChangeSpec.witness6 (enc := enc) (C := Try.checked) false ⟨#[], #[.slice none 0 0], []⟩ 8 (by kernel_rfl) (by kernel_rfl) (by kernel_rfl) (by kernel_rfl)) ?_
  intro W base args ds gs before hval0 hW hcnd _
  have hval : ∀ (j : Nat) t v, Try.f6.params[j]? = some t → args[j]? = some v → Value.okWide Try.prog W .any base t v := hval0
  have hW' := hW
  obtain ⟨p, q, hA0, hV, rfl, hfz, hnd⟩ := hW
  have hA : DataW.TrodAll enc Try.prog W 0 (fun _ => true) true Try.f6.params.toList args.toList ds p := hA0
  rw [Try.params6] at hA hval
  obtain ⟨v0, d0, rfl, rfl, h0⟩ := trodAll_one hA
  have k0 := h0
  have lt0 : ∀ x ∈ p, x.block < W.heap.size := by obtain ⟨m, hm⟩ := k0; exact DataW.trod_lt m _ _ _ hm
  obtain ⟨rfl, rfl⟩ := trodVars_none hV
  obtain ⟨a0, len0, cap0, xs0, hv0, hr0⟩ := open_ws (hval 0 22 v0 rfl rfl) h0
  subst hv0
  clear hA0 hval0
  refine (walk a0 len0 cap0 xs0 W hr0).mono fun e W' ⟨he, bel⟩ => ?_
  subst he
  exact ⟨_, rfl, _, _, _, [], _, [], hW', trodAll_mk1 (shut_bool Try.underlying4 _), (trodAll_mk1 (Below.trod laidOut (by kernel_rfl) (of_decide_eq_true (by kernel_rfl)) k0 bel lt0)), rfl, bel.frame _, fun h => by cases h⟩

theorem over : Rows.fnExactIsCutRow.holds Try.pinned (OpenSpec.ofChange Rows.fnExactIsCutSpec) :=
  OpenClaim.holds_of_wide 6 Try.f6 rfl rfl rfl rfl rfl rfl rfl ⟨rfl, rfl, rfl, rfl, rfl⟩ rfl rfl rfl rfl rfl (by kernel_rfl) Try.func6 (by kernel_rfl)
    (of_decide_eq_true (by kernel_rfl)) (by unfold Func.isWrapper; rw [if_neg (by decide +kernel)]; exact ⟨rfl, rfl⟩)
    (fun os started H enc _ => lifted os started H enc)

end Go.Proofs.Ytionfpjjlghanaj.lawIsCut
namespace Go.Proofs.Ytionfpjjlghanaj
theorem fnExactIsCut_holds : Rows.FnExactIsCutSaid := lawIsCut.over
#print axioms fnExactIsCut_holds
end Go.Proofs.Ytionfpjjlghanaj
