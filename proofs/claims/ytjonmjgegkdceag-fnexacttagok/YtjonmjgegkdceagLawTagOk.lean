/- At every tag the law FnExactTagOk answers true: impl.TagOk answers as spec.TagOk. No conditions. -/
import Derived.Test.YtjonmjgegkdceagSmall
namespace Go.Proofs.Ytjonmjgegkdceag.lawTagOk
open Go.ChangeShapes Go.WideShapes Go.ChangeAt Go.RowKit Go.Joins

set_option maxHeartbeats 400000 in
theorem walk (c s q : Int) (w : World) :
    Calls Try.prog 3 #[tagV c s q] w fun e w' => e = .returned (.bool true) ∧ Below w.heap.size w w' := by
  go_enter Try.func3, Try.ntmps3
  go_wp2_with fail
  refine (toTag_any _ _ _ _).mono ?_
  rintro e w1 ⟨rfl, hb1⟩
  go_wp2_with fail
  refine (specTagOk_any _ _ _ _).mono ?_
  rintro e w2 ⟨rfl, hb2⟩
  obtain ⟨hc, hf⟩ := bcell (hb1.trans (hb2.mono hb1.size))
  go_wp2_with fail
  refine (toTag_any _ _ _ _).mono ?_
  rintro e w3 ⟨rfl, hb3⟩
  go_wp2_with fail
  refine (implTagOk_any _ _ _ _).mono ?_
  rintro e w4 ⟨rfl, hb4⟩
  have HB : Hid (Below w.heap.size w w4) := by
    have h1 := (Below.alloc (Below.refl w.heap.size w) (Nat.le_refl _) (Obj.cells #[Value.int IntKind.i64 c, Value.int IntKind.i64 s, Value.int IntKind.i64 q] 23))
    have z1 := h1.size
    have z2 := hb1.size
    have z3 := hb2.size
    have z4 := hb3.size
    exact (((h1.trans (hb1.mono z1)).trans (hb2.mono (Nat.le_trans z1 z2))).trans (hb3.mono (Nat.le_trans z1 (Nat.le_trans z2 z3)))).trans (hb4.mono (Nat.le_trans z1 (Nat.le_trans z2 (Nat.le_trans z3 z4))))
  clear hb1 hb2 hb3 hb4 hc hf
  go_wp2
  go_ret
  exact ⟨rfl, HB.out⟩

set_option maxRecDepth 100000 in
theorem lifted (os : Os) (started : os.Started) (H : Type) (enc : TypeId × Value → H) :
    ReturnsInHanded {} Try.checked os 3 .any (Rows.fnExactTagOkSpec.pre6 enc Try.prog Try.f3 Rows.fnExactTagOkRow.domain false) (Rows.fnExactTagOkSpec.post enc Try.prog Try.f3 false true false false) := by
  refine returnsInHanded_of_change (C := Try.checked) own started (by kernel_rfl) Try.func3
    (ChangeSpec.witness6 (enc := enc) (C := Try.checked) false ⟨#[], #[.agg #[.int .i64 0, .int .i64 0, .int .i64 0]], []⟩ 8 (by kernel_rfl) (by kernel_rfl) (by kernel_rfl) (by kernel_rfl)) ?_
  intro W base args ds gs before hval0 hW hcnd _
  have hval : ∀ (j : Nat) t v, Try.f3.params[j]? = some t → args[j]? = some v → Value.okWide Try.prog W .any base t v := hval0
  have hW' := hW
  obtain ⟨p, q, hA0, hV, rfl, hfz, hnd⟩ := hW
  have hA : DataW.TrodAll enc Try.prog W 0 (fun _ => true) true Try.f3.params.toList args.toList ds p := hA0
  rw [Try.params3] at hA hval
  obtain ⟨v0, d0, rfl, rfl, h0⟩ := trodAll_one hA
  obtain ⟨rfl, rfl⟩ := trodVars_none hV
  have k0 := h0
  have lt0 : ∀ x ∈ p, x.block < W.heap.size := by obtain ⟨m, hm⟩ := k0; exact DataW.trod_lt m _ _ _ hm
  obtain ⟨c, s, q, hv⟩ := open_tag (hval 0 23 v0 rfl rfl) h0
  subst hv
  clear hA0 hval0
  refine (walk c s q W).mono fun e W' ⟨he, bel⟩ => ?_
  subst he
  exact ⟨_, rfl, _, _, _, [], _, [], hW', trodAll_mk1 (shut_bool Try.underlying4 _), (trodAll_mk1 (Below.trod laidOut (by kernel_rfl) (of_decide_eq_true (by kernel_rfl)) k0 bel lt0)), rfl, bel.frame _, fun h => by cases h⟩

theorem over : Rows.fnExactTagOkRow.holds Try.pinned (OpenSpec.ofChange Rows.fnExactTagOkSpec) :=
  OpenClaim.holds_of_wide 3 Try.f3 rfl rfl rfl rfl rfl rfl rfl ⟨rfl, rfl, rfl, rfl, rfl⟩ rfl rfl rfl rfl rfl (by kernel_rfl) Try.func3 (by kernel_rfl)
    (of_decide_eq_true (by kernel_rfl)) (by unfold Func.isWrapper; rw [if_neg (by decide +kernel)]; exact ⟨rfl, rfl⟩)
    (fun os started H enc _ => lifted os started H enc)

end Go.Proofs.Ytjonmjgegkdceag.lawTagOk
namespace Go.Proofs.Ytjonmjgegkdceag
theorem fnExactTagOk_holds : Rows.FnExactTagOkSaid := lawTagOk.over
#print axioms fnExactTagOk_holds
end Go.Proofs.Ytjonmjgegkdceag
