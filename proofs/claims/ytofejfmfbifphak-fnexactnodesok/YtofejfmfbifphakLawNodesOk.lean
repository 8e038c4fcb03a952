/- At every list of numbers the law FnExactNodesOk answers true: impl.NodesOk answers as spec.NodesOk and leaves the list as it was. No conditions. -/
import Derived.Test.YtofejfmfbifphakNodes
namespace Go.Proofs.Ytofejfmfbifphak.lawNodesOk
open Go.ChangeShapes Go.WideShapes Go.ChangeAt Go.RowKit Go.Joins
attribute [local go_sem ↓] Go.wp_at_zero Go.wp_at_succ

set_option maxRecDepth 100000 in
set_option maxHeartbeats 2000000 in
theorem walk (a : Option Addr) (n cap : Nat) (zs : List Int) (w : World) (hr : zs.length = n ∧ n ≤ maxLen ∧ IsIs w a zs ∧ ∀ z ∈ zs, Rng64 z) :
    Calls Try.prog 5 #[.slice a n cap] w fun e w' => e = .returned (.bool true) ∧ Below w.heap.size w w' := by
  obtain ⟨hl, hm, hi, -⟩ := hr
  have hm' : n ≤ 9223372036854775807 := hm
  have HI := Lib.hid hi
  have HN := Lib.hid hl
  clear hi hl hm
  go_enter Try.func5, Try.ntmps5
  by_cases hbig : n ≤ 1048576
  · go_wp2_with fail
    refine (toIntS_own a n cap zs _ HN.out hbig HI.out).mono ?_
    rintro e w1 ⟨rfl, ho, hb⟩
    have HO := Lib.hid ho
    have HB1 := Lib.hid hb
    clear ho hb
    go_wp2_with fail
    refine (specNodesOk_any _ n n zs _ HN.out hbig HO.out.isInts).mono ?_
    rintro e w2 ⟨rfl, hb⟩
    have HB2 : Hid (Below w.heap.size w w2) := below_step HB1.out HB1.out.size hb
    clear hb HB1 HO
    go_wp2_with fail
    refine (toIntS_own a n cap zs _ HN.out hbig (HI.out.below HB2.out)).mono ?_
    rintro e w3 ⟨rfl, ho, hb⟩
    have HO := Lib.hid ho
    have HB3 : Hid (Below w.heap.size w w3) := below_step HB2.out HB2.out.size hb
    clear ho hb HB2
    go_wp2_with fail
    refine (implNodesOk_any _ n n zs _ HN.out hbig HO.out.isInts).mono ?_
    rintro e w4 ⟨rfl, hb⟩
    have HO4 := Lib.hid (HO.out.below hb)
    have HB4 : Hid (Below w.heap.size w w4) := below_step HB3.out HB3.out.size hb
    clear hb HB3 HO
    go_wp2_with fail
    refine (toIntS_own a n cap zs _ HN.out hbig (HI.out.below HB4.out)).mono ?_
    rintro e w5 ⟨rfl, ho, hb⟩
    have HO5 := Lib.hid (HO4.out.below hb)
    have HP := Lib.hid ho
    have HB5 : Hid (Below w.heap.size w w5) := below_step HB4.out HB4.out.size hb
    clear ho hb HB4 HO4
    go_wp2_with fail
    refine (eqIntS_same _ _ n _ _ zs _ HN.out hbig HO5.out.isInts HP.out.isInts).mono ?_
    rintro e w6 ⟨rfl, hb⟩
    have HB6 : Hid (Below w.heap.size w w6) := below_step HB5.out HB5.out.size hb
    clear hb
    go_wp2
    go_ret
    exact ⟨rfl, HB6.out⟩
  · have hb' : (1048576 : Int) < (n : Int) := by omega
    go_wp2
    go_ret
    exact ⟨rfl, Below.refl _ _⟩

set_option maxRecDepth 100000 in
theorem lifted (os : Os) (started : os.Started) (H : Type) (enc : TypeId × Value → H) :
    ReturnsInHanded {} Try.checked os 5 .any (Rows.fnExactNodesOkSpec.pre6 enc Try.prog Try.f5 Rows.fnExactNodesOkRow.domain false) (Rows.fnExactNodesOkSpec.post enc Try.prog Try.f5 false true false false) := by
  refine returnsInHanded_of_change (C := Try.checked) own started (by kernel_rfl) Try.func5
    (ChangeSpec.witness6 (enc := enc) (C := Try.checked) false ⟨#[], #[.slice none 0 0], []⟩ 8 (by kernel_rfl) (by kernel_rfl) (by kernel_rfl) (by kernel_rfl)) ?_
  intro W base args ds gs before hval0 hW hcnd _
  have hval : ∀ (j : Nat) t v, Try.f5.params[j]? = some t → args[j]? = some v → Value.okWide Try.prog W .any base t v := hval0
  have hW' := hW
  obtain ⟨p, q, hA0, hV, rfl, hfz, hnd⟩ := hW
  have hA : DataW.TrodAll enc Try.prog W 0 (fun _ => true) true Try.f5.params.toList args.toList ds p := hA0
  rw [Try.params5] at hA hval
  obtain ⟨v0, d0, rfl, rfl, h0⟩ := trodAll_one hA
  have k0 := h0
  have lt0 : ∀ x ∈ p, x.block < W.heap.size := by obtain ⟨m, hm⟩ := k0; exact DataW.trod_lt m _ _ _ hm
  obtain ⟨rfl, rfl⟩ := trodVars_none hV
  obtain ⟨a0, len0, cap0, zs0, hv0, hr0⟩ := open_intS (hval 0 32 v0 rfl rfl) h0
  subst hv0
  clear hA0 hval0
  refine (walk a0 len0 cap0 zs0 W hr0).mono fun e W' ⟨he, bel⟩ => ?_
  subst he
  exact ⟨_, rfl, _, _, _, [], _, [], hW', trodAll_mk1 (shut_bool Try.underlying4 _), (trodAll_mk1 (Below.trod laidOut (by kernel_rfl) (of_decide_eq_true (by kernel_rfl)) k0 bel lt0)), rfl, bel.frame _, fun h => by cases h⟩

set_option maxRecDepth 100000 in
theorem over : Rows.fnExactNodesOkRow.holds Try.pinned (OpenSpec.ofChange Rows.fnExactNodesOkSpec) :=
  OpenClaim.holds_of_wide 5 Try.f5 rfl rfl rfl rfl rfl rfl rfl ⟨rfl, rfl, rfl, rfl, rfl⟩ rfl rfl rfl rfl rfl (by kernel_rfl) Try.func5 (by kernel_rfl)
    (of_decide_eq_true (by kernel_rfl)) (by unfold Func.isWrapper; rw [if_neg (by decide +kernel)]; exact ⟨rfl, rfl⟩)
    (fun os started H enc _ => lifted os started H enc)

end Go.Proofs.Ytofejfmfbifphak.lawNodesOk
namespace Go.Proofs.Ytofejfmfbifphak
set_option maxRecDepth 100000 in
theorem fnExactNodesOk_holds : Rows.FnExactNodesOkSaid := lawNodesOk.over
#print axioms fnExactNodesOk_holds
end Go.Proofs.Ytofejfmfbifphak
