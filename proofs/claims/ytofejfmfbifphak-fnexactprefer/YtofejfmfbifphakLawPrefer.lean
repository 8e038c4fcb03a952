/- At every ring, key and number the law FnExactPrefer answers true: impl.Prefer answers as spec.Prefer, leaves the ring as it was, and its answer owns its memory. No conditions. -/
import Derived.Test.YtofejfmfbifphakPreferS
import Derived.Test.YtofejfmfbifphakPreferI
import Derived.ChangeMaps5
namespace Go.Proofs.Ytofejfmfbifphak.lawPrefer
open Go.ChangeShapes Go.WideShapes Go.ChangeAt Go.RowKit Go.Joins
attribute [local go_sem ↓] Go.wp_at_zero Go.wp_at_succ

set_option maxRecDepth 100000 in
set_option maxHeartbeats 8000000 in
theorem walk (a : Option Addr) (n cap : Nat) (ps : List Pt) (s : ByteArray) (m : Int) (w : World) (hr : ps.length = n ∧ n ≤ maxLen ∧ IsPts w a ps ∧ ∀ i, i < ps.length → Rng64 (ps.getD i pz).t ∧ Rng64 (ps.getD i pz).n) (hs : s.size ≤ maxLen) (_ : -9223372036854775808 ≤ m ∧ m ≤ 9223372036854775807) :
    Calls Try.prog 6 #[.slice a n cap, .string s, .int .i64 m] w fun e w' => e = .returned (.bool true) ∧ Below w.heap.size w w' := by
  obtain ⟨hl, hm, hi, hrg⟩ := hr
  have hm' : n ≤ 9223372036854775807 := hm
  have hs' : s.size ≤ 9223372036854775807 := hs
  have HI := Lib.hid hi
  have HN := Lib.hid hl
  have HRG : Hid (∀ i, i < ps.length → Rng64 (ps.getD i pz).n) := fun i h => (hrg i h).2
  clear hi hl hm hs hrg
  go_enter Try.func6, Try.ntmps6
  by_cases hsb : s.size ≤ 1048576
  rotate_left
  · have hb' : (1048576 : Int) < (s.size : Int) := by omega
    go_wp2
    go_ret
    exact ⟨rfl, Below.refl _ _⟩
  by_cases hbig : n ≤ 1048576
  rotate_left
  · go_wp2_with fail
    refine (szPointS_big a n cap 1048576 _ (by omega) (by omega) (by omega) hm').mono ?_
    rintro e w1 ⟨rfl, rfl⟩
    go_wp2
    go_ret
    exact ⟨rfl, Below.refl _ _⟩
  go_wp2_with fail
  refine (szPointS_small a n cap 1048576 _ (by omega) (by omega) (by omega)).mono ?_
  rintro e w1 ⟨rfl, hw⟩
  have hw' := hw.symm
  subst hw'
  clear hw
  go_wp2_with fail
  refine (toPointS_own a n cap ps _ HN.out hbig HI.out).mono ?_
  rintro e w2 ⟨rfl, -, hO2, hb⟩
  have HB2 := Lib.hid hb
  have HO2 := Lib.hid hO2
  clear hb hO2
  go_wp2_with fail
  refine (specPrefer_any _ n n ps s m _ HN.out hbig hs' HO2.out.isPts).mono ?_
  rintro e w3 ⟨v3, rfl, hrow, hb⟩
  have HPL : Hid ((preferL (seqN ps (firstS ps (hashL s.data.toList))) m).length ≤ n) := by
    have h := prefer_len (seqN ps (firstS ps (hashL s.data.toList))) m n
    rw [List.take_of_length_le (by rw [seqN_len, HN.out]; exact Nat.le_refl _)] at h
    exact Lib.hid h
  obtain ⟨zs, hzs⟩ : ∃ zs, preferL (seqN ps (firstS ps (hashL s.data.toList))) m = zs := ⟨_, rfl⟩
  have HZS := Lib.hid hzs
  rw [hzs] at hrow HPL
  clear hzs
  obtain ⟨as_, cs, rfl, hsO⟩ := hrow.form
  have HS : Hid (IsInts w3 as_ zs) := hsO.isInts
  have HB3 : Hid (Below w.heap.size w w3) := below_step HB2.out HB2.out.size hb
  clear hb hrow hsO HB2 HO2
  go_wp2_with fail
  refine (toPointS_own a n cap ps _ HN.out hbig (HI.out.below HB3.out)).mono ?_
  rintro e w4 ⟨rfl, hs34, hO4, hb⟩
  have HB4 : Hid (Below w.heap.size w w4) := below_step HB3.out HB3.out.size hb
  have HS4 : Hid (Below w3.heap.size w3 w4) := hb
  have HO4 := Lib.hid hO4
  have hw3 : w.heap.size ≤ w3.heap.size := HB3.out.size
  clear hb hO4 HB3
  go_wp2_with fail
  refine (implPrefer_any _ n n ps s m _ HN.out hbig hs' HRG.out HO4.out.isPts).mono ?_
  rintro e w5 ⟨v5, rfl, hrow, hb⟩
  rw [HZS.out] at hrow
  obtain ⟨ag, cg, rfl, hg⟩ := hrow.form
  have HB5 : Hid (Below w.heap.size w w5) := below_step HB4.out HB4.out.size hb
  have HS5 : Hid (Below w3.heap.size w3 w5) := below_step HS4.out HS4.out.size hb
  have HO5 := Lib.hid (HO4.out.below hb)
  have HG5 := Lib.hid hg
  have hs45 : w4.heap.size ≤ w5.heap.size := hb.size
  clear hb hrow hg HB4 HS4 HO4
  obtain ⟨L, hL⟩ : ∃ L, zs.length = L := ⟨_, rfl⟩
  have HLN := Lib.hid hL
  have hLn : L ≤ n := by rw [← hL]; exact HPL.out
  rw [hL]
  clear HPL hL
  go_wp2_with fail
  refine (eqIntS_same _ _ L _ _ zs _ HLN.out (by omega) HG5.out.isInts (HS.out.below HS5.out)).mono ?_
  rintro e w6 ⟨rfl, hb⟩
  have HB6 : Hid (Below w.heap.size w w6) := below_step HB5.out HB5.out.size hb
  have HS6 : Hid (Below w3.heap.size w3 w6) := below_step HS5.out HS5.out.size hb
  have HO6 := Lib.hid (HO5.out.below hb)
  have HG6 := Lib.hid (HG5.out.below hb)
  clear hb HB5 HS5 HO5 HG5
  go_wp2_with fail
  refine (toPointS_own a n cap ps _ HN.out hbig (HI.out.below HB6.out)).mono ?_
  rintro e w7 ⟨rfl, -, hO7, hb⟩
  have HB7 : Hid (Below w.heap.size w w7) := below_step HB6.out HB6.out.size hb
  have HS7 : Hid (Below w3.heap.size w3 w7) := below_step HS6.out HS6.out.size hb
  have HO7 := Lib.hid (HO6.out.below hb)
  have HG7 := Lib.hid (HG6.out.below hb)
  have HW7 := Lib.hid hO7.isPts
  clear hb hO7 HB6 HS6 HO6 HG6
  go_wp2_with fail
  refine (eqPointS_same _ _ n _ _ ps _ HN.out hbig HO7.out.isPts HW7.out).mono ?_
  rintro e w8 ⟨rfl, hb⟩
  have HB8 : Hid (Below w.heap.size w w8) := below_step HB7.out HB7.out.size hb
  have HS8 : Hid (Below w3.heap.size w3 w8) := below_step HS7.out HS7.out.size hb
  have HO8 := Lib.hid (HO7.out.below hb)
  have HG8 := Lib.hid (HG7.out.below hb)
  clear hb HB7 HS7 HO7 HG7 HW7
  go_wp2_with fail
  refine (markPointS_any _ _ n n _ 1 ps _ HN.out hbig (by omega) (by omega) HO8.out).mono ?_
  rintro e w9 ⟨rfl, -, ho⟩
  have hbl : Below w3.heap.size w8 w9 := ho.below fun x hx => hx.1
  have HB9 : Hid (Below w.heap.size w w9) := HB8.out.trans (hbl.mono hw3)
  have HS9 : Hid (Below w3.heap.size w3 w9) := HS8.out.trans hbl
  have HG9 := Lib.hid (HG8.out.only ho fun x hx => by have := hx.2; omega)
  obtain ⟨k, hk⟩ : ∃ k : Int, 1 + 2 * (n : Int) = k := ⟨_, rfl⟩
  rw [hk]
  have k0 : 0 ≤ k := by omega
  clear hbl ho HB8 HS8 HO8 HG8 hk
  go_wp2_with fail
  refine (eqIntS_same _ _ L _ _ zs _ HLN.out (by omega) HG9.out.isInts (HS.out.below HS9.out)).mono ?_
  rintro e w10 ⟨rfl, hb⟩
  have HB10 : Hid (Below w.heap.size w w10) := below_step HB9.out HB9.out.size hb
  have HS10 : Hid (Below w3.heap.size w3 w10) := below_step HS9.out HS9.out.size hb
  have HG10 := Lib.hid (HG9.out.below hb)
  clear hb HB9 HS9 HG9
  go_wp2_with fail
  refine (markIntS_any _ _ L _ _ 1 zs _ HLN.out (by omega) (by omega) (by omega) HG10.out).mono ?_
  rintro e w11 ⟨rfl, hmk, ho⟩
  have hbl : Below w4.heap.size w10 w11 := ho.below fun x hx => hx.1
  have HB11 : Hid (Below w.heap.size w w11) := HB10.out.trans (hbl.mono (by omega))
  have HS11 : Hid (Below w3.heap.size w3 w11) := HS10.out.trans (hbl.mono (by omega))
  have HM11 := Lib.hid hmk
  clear hbl ho hmk HB10 HS10 HG10
  go_wp2_with fail
  refine (heldIntS_any L _ _ 1 _ (by omega) (by omega) (by omega) HM11.out).mono ?_
  rintro e w12 ⟨rfl, rfl⟩
  go_wp2_with fail
  refine (toPointS_own a n cap ps _ HN.out hbig (HI.out.below HB11.out)).mono ?_
  rintro e w13 ⟨rfl, -, hO13, hb⟩
  have HB13 : Hid (Below w.heap.size w w13) := below_step HB11.out HB11.out.size hb
  have HS13 : Hid (Below w3.heap.size w3 w13) := below_step HS11.out HS11.out.size hb
  have HM13 := Lib.hid (HM11.out.below hb)
  have HW13 := Lib.hid hO13.isPts
  clear hb hO13 HB11 HS11 HM11
  go_wp2_with fail
  refine (implPrefer_any _ n n ps s m _ HN.out hbig hs' HRG.out HW13.out).mono ?_
  rintro e w14 ⟨v14, rfl, hrow, hb⟩
  rw [HZS.out] at hrow
  obtain ⟨ah, ch, rfl, hh⟩ := hrow.form
  have HB14 : Hid (Below w.heap.size w w14) := below_step HB13.out HB13.out.size hb
  have HS14 : Hid (Below w3.heap.size w3 w14) := below_step HS13.out HS13.out.size hb
  have HM14 := Lib.hid (HM13.out.below hb)
  have HH := Lib.hid hh.isInts
  clear hb hrow hh HB13 HS13 HM13 HW13
  rw [HLN.out]
  go_wp2_with fail
  refine (eqIntS_same _ _ L _ _ zs _ HLN.out (by omega) HH.out (HS.out.below HS14.out)).mono ?_
  rintro e w15 ⟨rfl, hb⟩
  have HB15 : Hid (Below w.heap.size w w15) := below_step HB14.out HB14.out.size hb
  have HM15 := Lib.hid (HM14.out.below hb)
  clear hb HB14 HS14 HM14 HH
  go_wp2_with fail
  refine (heldIntS_any L _ _ 1 _ (by omega) (by omega) (by omega) HM15.out).mono ?_
  rintro e w16 ⟨rfl, rfl⟩
  go_wp2
  go_ret
  exact ⟨rfl, HB15.out⟩

set_option maxRecDepth 100000 in
theorem lifted (os : Os) (started : os.Started) (H : Type) (enc : TypeId × Value → H) :
    ReturnsInHanded {} Try.checked os 6 .any (Rows.fnExactPreferSpec.pre6 enc Try.prog Try.f6 Rows.fnExactPreferRow.domain false) (Rows.fnExactPreferSpec.post enc Try.prog Try.f6 false true false false) := by
  refine returnsInHanded_of_change (C := Try.checked) own started (by kernel_rfl) Try.func6
    (ChangeSpec.witness6 (enc := enc) (C := Try.checked) false ⟨#[], #[.slice none 0 0, .string ⟨#[]⟩, .int .i64 0], []⟩ 8 (by kernel_rfl) (by kernel_rfl) (by kernel_rfl) (by kernel_rfl)) ?_
  intro W base args ds gs before hval0 hW hcnd _
  have hval : ∀ (j : Nat) t v, Try.f6.params[j]? = some t → args[j]? = some v → Value.okWide Try.prog W .any base t v := hval0
  have hW' := hW
  obtain ⟨p, q, hA0, hV, rfl, hfz, hnd⟩ := hW
  have hA : DataW.TrodAll enc Try.prog W 0 (fun _ => true) true Try.f6.params.toList args.toList ds p := hA0
  rw [Try.params6] at hA hval
  obtain ⟨v0, v1, v2, d0, d1, d2, p0, p1, p2, rfl, rfl, rfl, h0, h1, h2⟩ := trodAll_three hA
  have k0 := h0
  have lt0 : ∀ x ∈ p0, x.block < W.heap.size := by obtain ⟨m, hm⟩ := k0; exact DataW.trod_lt m _ _ _ hm
  have k1 := h1
  have lt1 : ∀ x ∈ p1, x.block < W.heap.size := by obtain ⟨m, hm⟩ := k1; exact DataW.trod_lt m _ _ _ hm
  have k2 := h2
  have lt2 : ∀ x ∈ p2, x.block < W.heap.size := by obtain ⟨m, hm⟩ := k2; exact DataW.trod_lt m _ _ _ hm
  obtain ⟨rfl, rfl⟩ := trodVars_none hV
  obtain ⟨a0, len0, cap0, ps0, hv0, hr0⟩ := open_pts (hval 0 36 v0 rfl rfl) h0
  subst hv0
  obtain ⟨s1, hv1, _, _, hs1⟩ := Go.ChangeMaps.open_string Try.underlying9 (hval 1 9 v1 rfl rfl) h1
  subst hv1
  obtain ⟨a2, hv2, _, _, wf2⟩ := open_int Try.underlying3 (hval 2 3 v2 rfl rfl) h2
  subst hv2
  have wa2 : -9223372036854775808 ≤ a2 ∧ a2 ≤ 9223372036854775807 := by
    simp only [Lit.wf, Bool.and_eq_true, decide_eq_true_eq] at wf2
    exact wf2
  clear hA0 hval0
  refine (walk a0 len0 cap0 ps0 s1 a2 W hr0 hs1 wa2).mono fun e W' ⟨he, bel⟩ => ?_
  subst he
  exact ⟨_, rfl, _, _, _, [], _, [], hW', trodAll_mk1 (shut_bool Try.underlying4 _), (trodAll_mk3 (Below.trod laidOut (by kernel_rfl) (of_decide_eq_true (by kernel_rfl)) k0 bel lt0) (Below.trod laidOut (by kernel_rfl) (of_decide_eq_true (by kernel_rfl)) k1 bel lt1) (Below.trod laidOut (by kernel_rfl) (of_decide_eq_true (by kernel_rfl)) k2 bel lt2)), rfl, bel.frame _, fun h => by cases h⟩

set_option maxRecDepth 100000 in
theorem over : Rows.fnExactPreferRow.holds Try.pinned (OpenSpec.ofChange Rows.fnExactPreferSpec) :=
  OpenClaim.holds_of_wide 6 Try.f6 rfl rfl rfl rfl rfl rfl rfl ⟨rfl, rfl, rfl, rfl, rfl⟩ rfl rfl rfl rfl rfl (by kernel_rfl) Try.func6 (by kernel_rfl)
    (of_decide_eq_true (by kernel_rfl)) (by unfold Func.isWrapper; rw [if_neg (by decide +kernel)]; exact ⟨rfl, rfl⟩)
    (fun os started H enc _ => lifted os started H enc)

end Go.Proofs.Ytofejfmfbifphak.lawPrefer
namespace Go.Proofs.Ytofejfmfbifphak
set_option maxRecDepth 100000 in
theorem fnExactPrefer_holds : Rows.FnExactPreferSaid := lawPrefer.over
#print axioms fnExactPrefer_holds
end Go.Proofs.Ytofejfmfbifphak
