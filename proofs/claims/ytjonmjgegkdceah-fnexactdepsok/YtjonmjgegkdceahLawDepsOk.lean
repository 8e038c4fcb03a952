/- At every list of dependencies the law FnExactDepsOk answers true: impl.DepsOk answers as spec.DepsOk and leaves the list as it was. No conditions. -/
import Derived.Test.YtjonmjgegkdceahDepsOk2
import Derived.Test.YtjonmjgegkdceahToDepS
import Derived.Test.YtjonmjgegkdceahOpenDeps
namespace Go.Proofs.Ytjonmjgegkdceah.lawDepsOk
open Go.ChangeShapes Go.WideShapes Go.ChangeAt Go.RowKit Go.Joins

set_option maxHeartbeats 1000000 in
theorem walk_big (a : Option Addr) (len cap : Nat) (w : World) (hm : len ≤ maxLen) (h : 1048576 < len) :
    Calls Try.prog 3 #[.slice a len cap] w fun e w' => e = .returned (.bool true) ∧ Below w.heap.size w w' := by
  go_enter Try.func3, Try.ntmps3
  go_wp2_with fail
  refine (szDepS_big _ _ _ _ _ (by omega) (by omega) (by omega) hm).mono ?_
  rintro e w1 ⟨rfl, rfl⟩
  go_wp2
  go_ret
  exact ⟨rfl, Below.refl _ _⟩

set_option maxHeartbeats 1000000 in
theorem walk_small (a : Option Addr) (len cap : Nat) (xs : List Dp) (w : World) (hl : xs.length = len) (hi : IsDeps w a xs) (h : len ≤ 1048576) :
    Calls Try.prog 3 #[.slice a len cap] w fun e w' => e = .returned (.bool true) ∧ Below w.heap.size w w' := by
  have hl' : xs.length ≤ 1048576 := by omega
  have HI : Hid (IsDeps w a xs) := hi
  clear hi
  subst hl
  go_enter Try.func3, Try.ntmps3
  go_wp2_with fail
  refine (szDepS_small _ _ _ _ _ (by omega) (by omega) (by omega)).mono ?_
  rintro e w1 ⟨rfl, rfl⟩
  go_wp2_with fail
  refine (toDepS_all _ _ _ xs _ h rfl HI.out).mono ?_
  rintro e w2 ⟨g, rfl, hg1, hg2, hg3, hb2⟩
  have HG : Hid (HoldsDeps w2 g 0 xs) := hg3
  have HB2 : Hid (Below w1.heap.size w1 w2) := hb2
  clear hg3 hb2
  go_wp2_with fail
  refine (specDepsOk_any _ _ xs _ _ h hg2 HG.out).mono ?_
  rintro e w3 ⟨rfl, hb3⟩
  have HB3 : Hid (Below w1.heap.size w1 w3) := below_step HB2.out HB2.out.size hb3
  clear hb3 HG HB2
  go_wp2_with fail
  refine (toDepS_all _ _ _ xs _ h rfl (HI.out.below HB3.out)).mono ?_
  rintro e w4 ⟨g4, rfl, hg41, hg42, hg43, hb4⟩
  have HG4 : Hid (HoldsDeps w4 g4 0 xs) := hg43
  have HB4 : Hid (Below w1.heap.size w1 w4) := below_step HB3.out HB3.out.size hb4
  clear hb4 HB3 hg43
  go_wp2_with fail
  refine (implDepsOk_any _ _ xs _ _ h hg42 HG4.out).mono ?_
  rintro e w5 ⟨rfl, hb5⟩
  have HG5 : Hid (HoldsDeps w5 g4 0 xs) := HG4.out.below hb5 hg42
  have hg52 : g4 < w5.heap.size := Nat.lt_of_lt_of_le hg42 hb5.size
  have HB5 : Hid (Below w1.heap.size w1 w5) := below_step HB4.out HB4.out.size hb5
  clear hb5 HB4 HG4
  go_wp2_with fail
  refine (toDepS_all _ _ _ xs _ h rfl (HI.out.below HB5.out)).mono ?_
  rintro e w6 ⟨g6, rfl, hg61, hg62, hg63, hb6⟩
  have HG6 : Hid (HoldsDeps w6 g6 0 xs) := hg63
  have HG46 : Hid (HoldsDeps w6 g4 0 xs) := HG5.out.below hb6 hg52
  have hg46 : g4 < w6.heap.size := Nat.lt_of_lt_of_le hg52 hb6.size
  have HB6 : Hid (Below w1.heap.size w1 w6) := below_step HB5.out HB5.out.size hb6
  clear hb6 HB5 HG5 hg63
  go_wp2_with fail
  refine (eqDepS_same _ _ _ _ xs _ _ _ h hg46 hg62 HG46.out HG6.out).mono ?_
  rintro e w7 ⟨rfl, hb7⟩
  have HB7 : Hid (Below w1.heap.size w1 w7) := below_step HB6.out HB6.out.size hb7
  clear hb7 HB6
  go_wp2
  go_ret
  exact ⟨rfl, HB7.out⟩

theorem walk (a : Option Addr) (len cap : Nat) (xs : List Dp) (w : World) (hr : xs.length = len ∧ len ≤ maxLen ∧ IsDeps w a xs) :
    Calls Try.prog 3 #[.slice a len cap] w fun e w' => e = .returned (.bool true) ∧ Below w.heap.size w w' := by
  by_cases h : len ≤ 1048576
  · exact walk_small a len cap xs w hr.1 hr.2.2 h
  · exact walk_big a len cap w hr.2.1 (by omega)

set_option maxRecDepth 100000 in
theorem lifted (os : Os) (started : os.Started) (H : Type) (enc : TypeId × Value → H) :
    ReturnsInHanded {} Try.checked os 3 .any (Rows.fnExactDepsOkSpec.pre6 enc Try.prog Try.f3 Rows.fnExactDepsOkRow.domain false) (Rows.fnExactDepsOkSpec.post enc Try.prog Try.f3 false true false false) := by
  refine returnsInHanded_of_change (C := Try.checked) own started (by kernel_rfl) Try.func3
    (ChangeSpec.witness6 (enc := enc) (C := Try.checked) false ⟨#[], #[.slice none 0 0], []⟩ 8 (by kernel_rfl) (by kernel_rfl) (by kernel_rfl) (by kernel_rfl)) ?_
  intro W base args ds gs before hval0 hW hcnd _
  have hval : ∀ (j : Nat) t v, Try.f3.params[j]? = some t → args[j]? = some v → Value.okWide Try.prog W .any base t v := hval0
  have hW' := hW
  obtain ⟨p, q, hA0, hV, rfl, hfz, hnd⟩ := hW
  have hA : DataW.TrodAll enc Try.prog W 0 (fun _ => true) true Try.f3.params.toList args.toList ds p := hA0
  rw [Try.params3] at hA hval
  obtain ⟨v0, d0, rfl, rfl, h0⟩ := trodAll_one hA
  have k0 := h0
  have lt0 : ∀ x ∈ p, x.block < W.heap.size := by obtain ⟨m, hm⟩ := k0; exact DataW.trod_lt m _ _ _ hm
  obtain ⟨rfl, rfl⟩ := trodVars_none hV
  obtain ⟨a0, len0, cap0, xs0, hv0, hr0⟩ := open_deps (hval 0 22 v0 rfl rfl) h0
  subst hv0
  clear hA0 hval0
  refine (walk a0 len0 cap0 xs0 W hr0).mono fun e W' ⟨he, bel⟩ => ?_
  subst he
  exact ⟨_, rfl, _, _, _, [], _, [], hW', trodAll_mk1 (shut_bool Try.underlying4 _), (trodAll_mk1 (Below.trod laidOut (by kernel_rfl) (of_decide_eq_true (by kernel_rfl)) k0 bel lt0)), rfl, bel.frame _, fun h => by cases h⟩

theorem over : Rows.fnExactDepsOkRow.holds Try.pinned (OpenSpec.ofChange Rows.fnExactDepsOkSpec) :=
  OpenClaim.holds_of_wide 3 Try.f3 rfl rfl rfl rfl rfl rfl rfl ⟨rfl, rfl, rfl, rfl, rfl⟩ rfl rfl rfl rfl rfl (by kernel_rfl) Try.func3 (by kernel_rfl)
    (of_decide_eq_true (by kernel_rfl)) (by unfold Func.isWrapper; rw [if_neg (by decide +kernel)]; exact ⟨rfl, rfl⟩)
    (fun os started H enc _ => lifted os started H enc)

end Go.Proofs.Ytjonmjgegkdceah.lawDepsOk
namespace Go.Proofs.Ytjonmjgegkdceah
theorem fnExactDepsOk_holds : Rows.FnExactDepsOkSaid := lawDepsOk.over
#print axioms fnExactDepsOk_holds
end Go.Proofs.Ytjonmjgegkdceah
