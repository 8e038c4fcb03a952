/- At every list of writes and of dependencies the law FnExactCovered answers true: impl.Covered answers as spec.Covered, and leaves both lists as they were. No conditions. -/
import Derived.Test.YtionfpjjlghanajICuts
import Derived.Test.YtionfpjjlghanajOpenWs
import Derived.Test.YtionfpjjlghanajOpenDeps
namespace Go.Proofs.Ytionfpjjlghanaj.lawCovered
open Go.ChangeShapes Go.WideShapes Go.ChangeAt Go.RowKit Go.Joins
attribute [local go_sem ↓] Go.wp_at_zero Go.wp_at_succ

set_option maxHeartbeats 8000000 in
theorem walk (a : Option Addr) (n cap : Nat) (us : List Wr) (b : Option Addr) (m cap' : Nat) (ds : List Dp) (w : World) (hr : us.length = n ∧ n ≤ maxLen ∧ IsWs w a us) (hr' : ds.length = m ∧ m ≤ maxLen ∧ IsDeps w b ds) :
    Calls Try.prog 4 #[.slice a n cap, .slice b m cap'] w fun e w' => e = .returned (.bool true) ∧ Below w.heap.size w w' := by
  obtain ⟨hl, hm, hi⟩ := hr
  obtain ⟨hl', hm', hi'⟩ := hr'
  have HI := Lib.hid hi
  have HJ := Lib.hid hi'
  have HN := Lib.hid hl
  have HM := Lib.hid hl'
  clear hi hl hi' hl'
  go_enter Try.func4, Try.ntmps4
  go_wp2_with fail
  refine (szWriteS_any a n cap 1048576 us _ (by omega) (by omega) hm HN.out HI.out).mono ?_
  rintro e w2 ⟨r, rfl, hr, hb⟩
  have HB2 := Lib.hid hb
  clear hb hm
  rcases hr with rfl | ⟨r0, hr⟩
  · go_wp2
    go_ret
    exact ⟨rfl, HB2.out⟩
  have HRR := Lib.hid hr
  have r1 : r ≤ 1048576 := by omega
  clear hr
  by_cases hbig : r < (m : Int)
  · go_wp2_with fail
    refine (szDepS_big b m cap' r _ r0 r1 hbig hm').mono ?_
    rintro e w3 ⟨rfl, rfl⟩
    go_wp2
    go_ret
    exact ⟨rfl, HB2.out⟩
  have hsm : (m : Int) ≤ r := by omega
  have hz0 : 0 ≤ r - (m : Int) := by omega
  go_wp2_with fail
  refine (szDepS_small b m cap' r _ r0 r1 hsm).mono ?_
  rintro e w3' ⟨rfl, rfl⟩
  have hn : n ≤ 1048576 := by have := HRR.out; omega
  have hm : m ≤ 1048576 := by omega
  have hbu : bulk us ≤ 1048576 := by have := HRR.out; omega
  have HF : Hid (Few us) := few_of_bulk hbu
  have HX : Hid (∀ i, i < n → (us.getD i wz).xs.length ≤ 1048576) := fun i h => HF.out i (by rw [HN.out]; exact h)
  clear HRR hbig hm'
  go_wp2_with fail
  refine (toWriteS_any a n cap us _ hn HN.out HX.out (HI.out.below HB2.out)).mono ?_
  rintro e w3 ⟨γ3, rfl, hO3, hb⟩
  have HB3 : Hid (Below w.heap.size w w3) := below_step HB2.out HB2.out.size hb
  have HO3 := Lib.hid hO3
  clear hb hO3 HB2
  go_wp2_with fail
  refine (toDepS_own b m cap' ds _ hm HM.out (HJ.out.below HB3.out)).mono ?_
  rintro e w4 ⟨g4, rfl, g41, g42, g43, g44, hb⟩
  have HB4 : Hid (Below w.heap.size w w4) := below_step HB3.out HB3.out.size hb
  have HO34 := Lib.hid (HO3.out.below hb)
  have HD4 : Hid (IsDeps w4 (some ⟨g4, 0, none⟩) ds) := .inr ⟨g4, 0, rfl, g42, g43⟩
  clear hb g41 g42 g43 g44 HB3 HO3
  go_wp2_with fail
  refine (specCovered_any _ _ n m n m us ds _ HN.out hn HF.out HM.out hm (HO34.out.holds.isWs HF.out) HD4.out).mono ?_
  rintro e w5 ⟨rfl, hb⟩
  have HB5 : Hid (Below w.heap.size w w5) := below_step HB4.out HB4.out.size hb
  clear hb HB4 HO34 HD4
  go_wp2_with fail
  refine (toWriteS_any a n cap us _ hn HN.out HX.out (HI.out.below HB5.out)).mono ?_
  rintro e w6 ⟨γ6, rfl, hO6, hb⟩
  have HB6 : Hid (Below w.heap.size w w6) := below_step HB5.out HB5.out.size hb
  have HO6 := Lib.hid hO6
  clear hb hO6 HB5
  go_wp2_with fail
  refine (toDepS_own b m cap' ds _ hm HM.out (HJ.out.below HB6.out)).mono ?_
  rintro e w7 ⟨g7, rfl, g71, g72, g73, g74, hb⟩
  have HB7 : Hid (Below w.heap.size w w7) := below_step HB6.out HB6.out.size hb
  have HO7 := Lib.hid (HO6.out.below hb)
  have HD7 : Hid (IsDeps w7 (some ⟨g7, 0, none⟩) ds) := .inr ⟨g7, 0, rfl, g72, g73⟩
  clear hb g71 g72 g73 g74 HB6 HO6
  go_wp2_with fail
  refine (implCovered_any _ _ n m n m us ds _ HN.out hn HM.out hm (HO7.out.holds.isWs HF.out) HD7.out).mono ?_
  rintro e w8 ⟨rfl, hb⟩
  have HB8 : Hid (Below w.heap.size w w8) := below_step HB7.out HB7.out.size hb
  have HO8 := Lib.hid (HO7.out.below hb)
  have HD8 := Lib.hid (HD7.out.below hb)
  clear hb HB7 HO7 HD7
  go_wp2_with fail
  refine (toWriteS_any a n cap us _ hn HN.out HX.out (HI.out.below HB8.out)).mono ?_
  rintro e w9 ⟨γ9, rfl, hO9, hb⟩
  have HB9 : Hid (Below w.heap.size w w9) := below_step HB8.out HB8.out.size hb
  have HO89 := Lib.hid (HO8.out.below hb)
  have HD9 := Lib.hid (HD8.out.below hb)
  have HO9 := Lib.hid hO9
  clear hb hO9 HB8 HO8 HD8
  go_wp2_with fail
  refine (eqWriteS_same _ _ n n n us _ _ _ HN.out hn HF.out HO89.out.holds HO9.out.holds).mono ?_
  rintro e w10 ⟨rfl, hb⟩
  have HB10 : Hid (Below w.heap.size w w10) := below_step HB9.out HB9.out.size hb
  have HD10 := Lib.hid (HD9.out.below hb)
  clear hb HB9 HO89 HO9 HD9
  go_wp2_with fail
  refine (toDepS_own b m cap' ds _ hm HM.out (HJ.out.below HB10.out)).mono ?_
  rintro e w11 ⟨g11, rfl, -, g112, g113, -, hb⟩
  have HB11 : Hid (Below w.heap.size w w11) := below_step HB10.out HB10.out.size hb
  have HD1011 := Lib.hid (HD10.out.below hb)
  have HD11 : Hid (IsDeps w11 (some ⟨g11, 0, none⟩) ds) := .inr ⟨g11, 0, rfl, g112, g113⟩
  clear hb g112 g113 HB10 HD10
  have HEQ := Lib.hid (eqDepS_gen (some ⟨g7, 0, none⟩) (some ⟨g11, 0, none⟩) ds m m w11 (by rw [HM.out]; exact hm) HD1011.out HD11.out)
  rw [HM.out] at HEQ
  go_wp2_with fail
  refine HEQ.out.mono ?_
  rintro e w12 ⟨rfl, hb⟩
  have HB12 : Hid (Below w.heap.size w w12) := below_step HB11.out HB11.out.size hb
  clear hb
  go_wp2
  go_ret
  exact ⟨rfl, HB12.out⟩

set_option maxRecDepth 100000 in
theorem lifted (os : Os) (started : os.Started) (H : Type) (enc : TypeId × Value → H) :
    ReturnsInHanded {} Try.checked os 4 .any (Rows.fnExactCoveredSpec.pre6 enc Try.prog Try.f4 Rows.fnExactCoveredRow.domain false) (Rows.fnExactCoveredSpec.post enc Try.prog Try.f4 false true false false) := by
  refine returnsInHanded_of_change (C := Try.checked) own started (by kernel_rfl) Try.func4
    (ChangeSpec.witness6 (enc := enc) (C := Try.checked) false ⟨#[], #[.slice none 0 0, .slice none 0 0], []⟩ 8 (by kernel_rfl) (by kernel_rfl) (by kernel_rfl) (by kernel_rfl)) ?_
  intro W base args ds gs before hval0 hW hcnd _
  have hval : ∀ (j : Nat) t v, Try.f4.params[j]? = some t → args[j]? = some v → Value.okWide Try.prog W .any base t v := hval0
  have hW' := hW
  obtain ⟨p, q, hA0, hV, rfl, hfz, hnd⟩ := hW
  have hA : DataW.TrodAll enc Try.prog W 0 (fun _ => true) true Try.f4.params.toList args.toList ds p := hA0
  rw [Try.params4] at hA hval
  obtain ⟨v0, v1, d0, d1, p0, p1, rfl, rfl, rfl, h0, h1⟩ := trodAll_two hA
  have k0 := h0
  have lt0 : ∀ x ∈ p0, x.block < W.heap.size := by obtain ⟨m, hm⟩ := k0; exact DataW.trod_lt m _ _ _ hm
  have k1 := h1
  have lt1 : ∀ x ∈ p1, x.block < W.heap.size := by obtain ⟨m, hm⟩ := k1; exact DataW.trod_lt m _ _ _ hm
  obtain ⟨rfl, rfl⟩ := trodVars_none hV
  obtain ⟨a0, len0, cap0, xs0, hv0, hr0⟩ := open_ws (hval 0 22 v0 rfl rfl) h0
  subst hv0
  obtain ⟨a1, len1, cap1, xs1, hv1, hr1⟩ := open_deps (hval 1 33 v1 rfl rfl) h1
  subst hv1
  clear hA0 hval0
  refine (walk a0 len0 cap0 xs0 a1 len1 cap1 xs1 W hr0 hr1).mono fun e W' ⟨he, bel⟩ => ?_
  subst he
  exact ⟨_, rfl, _, _, _, [], _, [], hW', trodAll_mk1 (shut_bool Try.underlying4 _), (trodAll_mk2 (Below.trod laidOut (by kernel_rfl) (of_decide_eq_true (by kernel_rfl)) k0 bel lt0) (Below.trod laidOut (by kernel_rfl) (of_decide_eq_true (by kernel_rfl)) k1 bel lt1)), rfl, bel.frame _, fun h => by cases h⟩

theorem over : Rows.fnExactCoveredRow.holds Try.pinned (OpenSpec.ofChange Rows.fnExactCoveredSpec) :=
  OpenClaim.holds_of_wide 4 Try.f4 rfl rfl rfl rfl rfl rfl rfl ⟨rfl, rfl, rfl, rfl, rfl⟩ rfl rfl rfl rfl rfl (by kernel_rfl) Try.func4 (by kernel_rfl)
    (of_decide_eq_true (by kernel_rfl)) (by unfold Func.isWrapper; rw [if_neg (by decide +kernel)]; exact ⟨rfl, rfl⟩)
    (fun os started H enc _ => lifted os started H enc)

end Go.Proofs.Ytionfpjjlghanaj.lawCovered
namespace Go.Proofs.Ytionfpjjlghanaj
theorem fnExactCovered_holds : Rows.FnExactCoveredSaid := lawCovered.over
#print axioms fnExactCovered_holds
end Go.Proofs.Ytionfpjjlghanaj
