/- At every two lists of numbers the law FnExactDiffer answers true: impl.Differ answers as spec.Differ, leaves the lists as they were, and its answer owns its memory. No conditions. -/
import Derived.Test.YtlbcpppmpbbkdalDiffI
import Derived.Test.YtlbcpppmpbbkdalDiffS
import Derived.Test.YtlbcpppmpbbkdalIntsIn
import Derived.ChangeMaps5
namespace Go.Proofs.Ytlbcpppmpbbkdal.lawDiffer
open Go.ChangeShapes Go.WideShapes Go.ChangeAt Go.RowKit Go.Joins
attribute [local go_sem ↓] Go.wp_at_zero Go.wp_at_succ

set_option maxRecDepth 100000 in
set_option maxHeartbeats 16000000 in
theorem walk (a : Option Addr) (n cap : Nat) (xs : List Int) (a' : Option Addr) (m cap' : Nat) (ys : List Int) (w : World) (hr : xs.length = n ∧ n ≤ maxLen ∧ IsIs w a xs ∧ ∀ z ∈ xs, Rng64 z) (hs : ys.length = m ∧ m ≤ maxLen ∧ IsIs w a' ys ∧ ∀ z ∈ ys, Rng64 z) :
    Calls Try.prog 3 #[.slice a n cap, .slice a' m cap'] w fun e w' => e = .returned (.bool true) ∧ Below w.heap.size w w' := by
  obtain ⟨hl, hm, hi, -⟩ := hr
  obtain ⟨hl', hm', hi', -⟩ := hs
  have hmx : n ≤ 9223372036854775807 := hm
  have hmy : m ≤ 9223372036854775807 := hm'
  have HI := Lib.hid hi
  have HN := Lib.hid hl
  have HJ := Lib.hid hi'
  have HO := Lib.hid hl'
  clear hi hl hm hi' hl' hm'
  go_enter Try.func3, Try.ntmps3
  by_cases hbig : n ≤ 1048576
  rotate_left
  · have hb' : (1048576 : Int) < (n : Int) := by omega
    go_wp2
    go_ret
    exact ⟨rfl, Below.refl _ _⟩
  by_cases hbig' : m ≤ 1048576
  rotate_left
  · have hb' : (1048576 : Int) < (m : Int) := by omega
    go_wp2
    go_ret
    exact ⟨rfl, Below.refl _ _⟩
  obtain ⟨ds, hds⟩ : ∃ ds, diffB xs ys = ds := ⟨_, rfl⟩
  have HZ := Lib.hid hds
  obtain ⟨L, hL⟩ : ∃ L, ds.length = L := ⟨_, rfl⟩
  have HLN := Lib.hid hL
  have hLn : L ≤ 8 := by rw [← hL, ← hds]; exact diffB_len xs ys
  clear hds hL
  have HB0 : Hid (Below w.heap.size w w) := Below.refl _ _
  go_wp2_with fail
  refine (toIntS_own a n cap xs _ HN.out hbig (HI.out.below HB0.out)).mono ?_
  rintro e w1 ⟨rfl, hO, hb⟩
  have HB1 : Hid (Below w.heap.size w w1) := below_step HB0.out HB0.out.size hb
  have HP1 := Lib.hid hO
  clear hb HB0  hO
  go_wp2_with fail
  refine (toIntS_own a' m cap' ys _ HO.out hbig' (HJ.out.below HB1.out)).mono ?_
  rintro e w2 ⟨rfl, hO, hb⟩
  have HB2 : Hid (Below w.heap.size w w2) := below_step HB1.out HB1.out.size hb
  have HP2 := Lib.hid (HP1.out.below hb)
  have HQ2 := Lib.hid hO
  clear hb HB1 HP1 hO
  go_wp2_with fail
  refine (specDiffer_any _ _ n m n m xs ys _ HN.out HO.out hbig hbig' HP2.out.isInts HQ2.out.isInts).mono ?_
  rintro e w3 ⟨v3, rfl, hrow, hb⟩
  rw [HZ.out] at hrow
  obtain ⟨as_, cs, rfl, hsO⟩ := hrow.form
  rw [HLN.out]
  have HB3 : Hid (Below w.heap.size w w3) := below_step HB2.out HB2.out.size hb
  have HD : Hid (IsInts w3 as_ ds) := hsO.isInts
  have HS3 : Hid (Below w3.heap.size w3 w3) := Below.refl _ _
  have hw3 : w.heap.size ≤ w3.heap.size := HB3.out.size
  clear hb HB2  hrow hsO HP2 HQ2
  go_wp2_with fail
  refine (toIntS_lt a n cap xs _ HN.out hbig (HI.out.below HB3.out)).mono ?_
  rintro e w4 ⟨rfl, hs34, hO, hb⟩
  have HB4 : Hid (Below w.heap.size w w4) := below_step HB3.out HB3.out.size hb
  have HS4 : Hid (Below w3.heap.size w3 w4) := below_step HS3.out HS3.out.size hb
  have HX4 := Lib.hid hO
  clear hb HB3 HS3 hO
  go_wp2_with fail
  refine (toIntS_lt a' m cap' ys _ HO.out hbig' (HJ.out.below HB4.out)).mono ?_
  rintro e w5 ⟨rfl, hs45, hO, hb⟩
  have HB5 : Hid (Below w.heap.size w w5) := below_step HB4.out HB4.out.size hb
  have HS5 : Hid (Below w3.heap.size w3 w5) := below_step HS4.out HS4.out.size hb
  have HX5 := Lib.hid (HX4.out.below hb)
  have HY5 := Lib.hid hO
  clear hb HB4 HS4 HX4 hO
  go_wp2_with fail
  refine (implDiffer_any _ _ n m n m xs ys _ HN.out HO.out hbig hbig' HX5.out.isInts HY5.out.isInts).mono ?_
  rintro e w6 ⟨v6, rfl, hrow, hb⟩
  rw [HZ.out] at hrow
  obtain ⟨ag, cg, rfl, hg⟩ := hrow.form
  rw [HLN.out]
  have hs56 : w5.heap.size ≤ w6.heap.size := hb.size
  have HB6 : Hid (Below w.heap.size w w6) := below_step HB5.out HB5.out.size hb
  have HS6 : Hid (Below w3.heap.size w3 w6) := below_step HS5.out HS5.out.size hb
  have HX6 := Lib.hid (HX5.out.below hb)
  have HY6 := Lib.hid (HY5.out.below hb)
  have HG6 := Lib.hid hg
  clear hb HB5 HS5 HX5 HY5 hrow hg
  go_wp2_with fail
  refine (eqIntS_same _ _ L _ _ ds _ HLN.out (by omega) HG6.out.isInts (HD.out.below HS6.out)).mono ?_
  rintro e w7 ⟨rfl, hb⟩
  have HB7 : Hid (Below w.heap.size w w7) := below_step HB6.out HB6.out.size hb
  have HS7 : Hid (Below w3.heap.size w3 w7) := below_step HS6.out HS6.out.size hb
  have HX7 := Lib.hid (HX6.out.below hb)
  have HY7 := Lib.hid (HY6.out.below hb)
  have HG7 := Lib.hid (HG6.out.below hb)
  clear hb HB6 HS6 HX6 HY6 HG6 
  go_wp2_with fail
  refine (toIntS_own a n cap xs _ HN.out hbig (HI.out.below HB7.out)).mono ?_
  rintro e w8 ⟨rfl, hO, hb⟩
  have HB8 : Hid (Below w.heap.size w w8) := below_step HB7.out HB7.out.size hb
  have HS8 : Hid (Below w3.heap.size w3 w8) := below_step HS7.out HS7.out.size hb
  have HX8 := Lib.hid (HX7.out.below hb)
  have HY8 := Lib.hid (HY7.out.below hb)
  have HG8 := Lib.hid (HG7.out.below hb)
  have HW8 := Lib.hid hO.isInts
  clear hb HB7 HS7 HX7 HY7 HG7 hO
  go_wp2_with fail
  refine (eqIntS_same _ _ n _ _ xs _ HN.out hbig HX8.out.isInts HW8.out).mono ?_
  rintro e w9 ⟨rfl, hb⟩
  have HB9 : Hid (Below w.heap.size w w9) := below_step HB8.out HB8.out.size hb
  have HS9 : Hid (Below w3.heap.size w3 w9) := below_step HS8.out HS8.out.size hb
  have HX9 := Lib.hid (HX8.out.below hb)
  have HY9 := Lib.hid (HY8.out.below hb)
  have HG9 := Lib.hid (HG8.out.below hb)
  clear hb HB8 HS8 HX8 HY8 HG8 HW8
  go_wp2_with fail
  refine (toIntS_own a' m cap' ys _ HO.out hbig' (HJ.out.below HB9.out)).mono ?_
  rintro e w10 ⟨rfl, hO, hb⟩
  have HB10 : Hid (Below w.heap.size w w10) := below_step HB9.out HB9.out.size hb
  have HS10 : Hid (Below w3.heap.size w3 w10) := below_step HS9.out HS9.out.size hb
  have HX10 := Lib.hid (HX9.out.below hb)
  have HY10 := Lib.hid (HY9.out.below hb)
  have HG10 := Lib.hid (HG9.out.below hb)
  have HW10 := Lib.hid hO.isInts
  clear hb HB9 HS9 HX9 HY9 HG9 hO
  go_wp2_with fail
  refine (eqIntS_same _ _ m _ _ ys _ HO.out hbig' HY10.out.isInts HW10.out).mono ?_
  rintro e w11 ⟨rfl, hb⟩
  have HB11 : Hid (Below w.heap.size w w11) := below_step HB10.out HB10.out.size hb
  have HS11 : Hid (Below w3.heap.size w3 w11) := below_step HS10.out HS10.out.size hb
  have HX11 := Lib.hid (HX10.out.below hb)
  have HY11 := Lib.hid (HY10.out.below hb)
  have HG11 := Lib.hid (HG10.out.below hb)
  clear hb HB10 HS10 HX10 HY10 HG10 HW10
  go_wp2_with fail
  refine (markIntS_any _ _ n n _ 1 xs _ HN.out hbig (by omega) (by omega) HX11.out).mono ?_
  rintro e w12 ⟨rfl, -, ho⟩
  have hbl : Below w3.heap.size w11 w12 := ho.below fun x hx => hx.1
  have HB12 : Hid (Below w.heap.size w w12) := HB11.out.trans (hbl.mono hw3)
  have HS12 : Hid (Below w3.heap.size w3 w12) := HS11.out.trans hbl
  have HY12 := Lib.hid (HY11.out.only ho fun x hx => by have := hx.2; omega)
  have HG12 := Lib.hid (HG11.out.only ho fun x hx => by have := hx.2; omega)
  obtain ⟨k, hk⟩ : ∃ k : Int, 1 + (n : Int) = k := ⟨_, rfl⟩
  rw [hk]
  have k0 : 0 ≤ k := by omega
  have k1 : k ≤ 1048577 := by omega
  clear hbl ho HB11 HS11 HX11 HY11 HG11 hk
  go_wp2_with fail
  refine (markIntS_any _ _ m m _ k ys _ HO.out hbig' (by omega) (by omega) HY12.out).mono ?_
  rintro e w13 ⟨rfl, -, ho⟩
  have hbl : Below w4.heap.size w12 w13 := ho.below fun x hx => hx.1
  have HB13 : Hid (Below w.heap.size w w13) := HB12.out.trans (hbl.mono (by omega))
  have HS13 : Hid (Below w3.heap.size w3 w13) := HS12.out.trans (hbl.mono (by omega))
  have HG13 := Lib.hid (HG12.out.only ho fun x hx => by have := hx.2; omega)
  obtain ⟨k2, hk⟩ : ∃ k2 : Int, k + (m : Int) = k2 := ⟨_, rfl⟩
  rw [hk]
  have k3 : 0 ≤ k2 := by omega
  clear hbl ho HB12 HS12 HY12 HG12 hk
  go_wp2_with fail
  refine (eqIntS_same _ _ L _ _ ds _ HLN.out (by omega) HG13.out.isInts (HD.out.below HS13.out)).mono ?_
  rintro e w14 ⟨rfl, hb⟩
  have HB14 : Hid (Below w.heap.size w w14) := below_step HB13.out HB13.out.size hb
  have HS14 : Hid (Below w3.heap.size w3 w14) := below_step HS13.out HS13.out.size hb
  have HG14 := Lib.hid (HG13.out.below hb)
  clear hb HB13 HS13 HG13 
  go_wp2_with fail
  refine (markIntS_any _ _ L _ _ 1 ds _ HLN.out (by omega) (by omega) (by omega) HG14.out).mono ?_
  rintro e w15 ⟨rfl, hmk, ho⟩
  have hbl : Below w5.heap.size w14 w15 := ho.below fun x hx => hx.1
  have HB15 : Hid (Below w.heap.size w w15) := HB14.out.trans (hbl.mono (by omega))
  have HS15 : Hid (Below w3.heap.size w3 w15) := HS14.out.trans (hbl.mono (by omega))
  have HM15 := Lib.hid hmk
  clear hbl ho hmk HB14 HS14 HG14
  go_wp2_with fail
  refine (heldIntS_any L _ _ 1 _ (by omega) (by omega) (by omega) HM15.out).mono ?_
  rintro e w16 ⟨rfl, rfl⟩
  have HB16 := HB15
  have HS16 := HS15
  have HM16 := HM15
  clear HB15 HS15 HM15
  go_wp2_with fail
  refine (toIntS_own a n cap xs _ HN.out hbig (HI.out.below HB16.out)).mono ?_
  rintro e w17 ⟨rfl, hO, hb⟩
  have HB17 : Hid (Below w.heap.size w w17) := below_step HB16.out HB16.out.size hb
  have HS17 : Hid (Below w3.heap.size w3 w17) := below_step HS16.out HS16.out.size hb
  have HM17 := Lib.hid (HM16.out.below hb)
  have HP17 := Lib.hid hO
  clear hb HB16 HS16 HM16 hO
  go_wp2_with fail
  refine (toIntS_own a' m cap' ys _ HO.out hbig' (HJ.out.below HB17.out)).mono ?_
  rintro e w18 ⟨rfl, hO, hb⟩
  have HB18 : Hid (Below w.heap.size w w18) := below_step HB17.out HB17.out.size hb
  have HS18 : Hid (Below w3.heap.size w3 w18) := below_step HS17.out HS17.out.size hb
  have HM18 := Lib.hid (HM17.out.below hb)
  have HP18 := Lib.hid (HP17.out.below hb)
  have HQ18 := Lib.hid hO
  clear hb HB17 HS17 HM17 HP17 hO
  go_wp2_with fail
  refine (implDiffer_any _ _ n m n m xs ys _ HN.out HO.out hbig hbig' HP18.out.isInts HQ18.out.isInts).mono ?_
  rintro e w19 ⟨v19, rfl, hrow, hb⟩
  rw [HZ.out] at hrow
  obtain ⟨ah, ch, rfl, hh⟩ := hrow.form
  rw [HLN.out]
  have HB19 : Hid (Below w.heap.size w w19) := below_step HB18.out HB18.out.size hb
  have HS19 : Hid (Below w3.heap.size w3 w19) := below_step HS18.out HS18.out.size hb
  have HM19 := Lib.hid (HM18.out.below hb)
  have HH19 := Lib.hid hh.isInts
  clear hb HB18 HS18 HM18 hrow hh HP18 HQ18
  go_wp2_with fail
  refine (eqIntS_same _ _ L _ _ ds _ HLN.out (by omega) HH19.out (HD.out.below HS19.out)).mono ?_
  rintro e w20 ⟨rfl, hb⟩
  have HB20 : Hid (Below w.heap.size w w20) := below_step HB19.out HB19.out.size hb
  have HS20 : Hid (Below w3.heap.size w3 w20) := below_step HS19.out HS19.out.size hb
  have HM20 := Lib.hid (HM19.out.below hb)
  clear hb HB19 HS19 HM19 HH19
  go_wp2_with fail
  refine (heldIntS_any L _ _ 1 _ (by omega) (by omega) (by omega) HM20.out).mono ?_
  rintro e w21 ⟨rfl, rfl⟩
  go_wp2
  go_ret
  exact ⟨rfl, HB20.out⟩

set_option maxRecDepth 100000 in
theorem lifted (os : Os) (started : os.Started) (H : Type) (enc : TypeId × Value → H) :
    ReturnsInHanded {} Try.checked os 3 .any (Rows.fnExactDifferSpec.pre6 enc Try.prog Try.f3 Rows.fnExactDifferRow.domain false) (Rows.fnExactDifferSpec.post enc Try.prog Try.f3 false true false false) := by
  refine returnsInHanded_of_change (C := Try.checked) own started (by kernel_rfl) Try.func3
    (ChangeSpec.witness6 (enc := enc) (C := Try.checked) false ⟨#[], #[.slice none 0 0, .slice none 0 0], []⟩ 8 (by kernel_rfl) (by kernel_rfl) (by kernel_rfl) (by kernel_rfl)) ?_
  intro W base args ds gs before hval0 hW hcnd _
  have hval : ∀ (j : Nat) t v, Try.f3.params[j]? = some t → args[j]? = some v → Value.okWide Try.prog W .any base t v := hval0
  have hW' := hW
  obtain ⟨p, q, hA0, hV, rfl, hfz, hnd⟩ := hW
  have hA : DataW.TrodAll enc Try.prog W 0 (fun _ => true) true Try.f3.params.toList args.toList ds p := hA0
  rw [Try.params3] at hA hval
  obtain ⟨v0, v1, d0, d1, p0, p1, rfl, rfl, rfl, h0, h1⟩ := trodAll_two hA
  have k0 := h0
  have lt0 : ∀ x ∈ p0, x.block < W.heap.size := by obtain ⟨m, hm⟩ := k0; exact DataW.trod_lt m _ _ _ hm
  have k1 := h1
  have lt1 : ∀ x ∈ p1, x.block < W.heap.size := by obtain ⟨m, hm⟩ := k1; exact DataW.trod_lt m _ _ _ hm
  obtain ⟨rfl, rfl⟩ := trodVars_none hV
  obtain ⟨a0, len0, cap0, zs0, hv0, hr0⟩ := open_intS (hval 0 22 v0 rfl rfl) h0
  subst hv0
  obtain ⟨a1, len1, cap1, zs1, hv1, hr1⟩ := open_intS (hval 1 22 v1 rfl rfl) h1
  subst hv1
  clear hA0 hval0
  refine (walk a0 len0 cap0 zs0 a1 len1 cap1 zs1 W hr0 hr1).mono fun e W' ⟨he, bel⟩ => ?_
  subst he
  exact ⟨_, rfl, _, _, _, [], _, [], hW', trodAll_mk1 (shut_bool Try.underlying4 _), (trodAll_mk2 (Below.trod laidOut (by kernel_rfl) (of_decide_eq_true (by kernel_rfl)) k0 bel lt0) (Below.trod laidOut (by kernel_rfl) (of_decide_eq_true (by kernel_rfl)) k1 bel lt1)), rfl, bel.frame _, fun h => by cases h⟩

theorem over : Rows.fnExactDifferRow.holds Try.pinned (OpenSpec.ofChange Rows.fnExactDifferSpec) :=
  OpenClaim.holds_of_wide 3 Try.f3 rfl rfl rfl rfl rfl rfl rfl ⟨rfl, rfl, rfl, rfl, rfl⟩ rfl rfl rfl rfl rfl (by kernel_rfl) Try.func3 (by kernel_rfl)
    (of_decide_eq_true (by kernel_rfl)) (by unfold Func.isWrapper; rw [if_neg (by decide +kernel)]; exact ⟨rfl, rfl⟩)
    (fun os started H enc _ => lifted os started H enc)

end Go.Proofs.Ytlbcpppmpbbkdal.lawDiffer
namespace Go.Proofs.Ytlbcpppmpbbkdal
theorem fnExactDiffer_holds : Rows.FnExactDifferSaid := lawDiffer.over
#print axioms fnExactDiffer_holds
end Go.Proofs.Ytlbcpppmpbbkdal
