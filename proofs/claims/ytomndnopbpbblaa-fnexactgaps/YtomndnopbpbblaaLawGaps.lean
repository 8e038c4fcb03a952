/- At every list of events and every place the law FnExactGaps answers true: impl.Gaps answers as spec.Gaps, leaves the list as it was, and its answer owns its memory. No conditions. -/
import Derived.Test.YtomndnopbpbblaaPack13
import Derived.Test.YtomndnopbpbblaaPack14
import Derived.Test.YtomndnopbpbblaaPack10
namespace Go.Proofs.Ytomndnopbpbblaa.lawGaps
open Go.ChangeShapes Go.WideShapes Go.ChangeAt Go.RowKit Go.Joins
attribute [local go_sem ↓] Go.wp_at_zero Go.wp_at_succ

set_option maxRecDepth 100000 in
set_option maxHeartbeats 16000000 in
theorem walk (a : Option Addr) (n cap : Nat) (es : List Ev) (z : Int) (w : World) (hr : es.length = n ∧ n ≤ maxLen ∧ (∀ i, i < es.length → (es.getD i evz).ws.length ≤ maxLen) ∧ IsEs w a es ∧ EsR es) (_wz : -9223372036854775808 ≤ z ∧ z ≤ 9223372036854775807) :
    Calls Try.prog 4 #[.slice a n cap, .int .i64 z] w fun e w' => e = .returned (.bool true) ∧ Below w.heap.size w w' := by
  obtain ⟨hl, hm, hlm, hi, hrr⟩ := hr
  have HI := Lib.hid hi
  have HN := Lib.hid hl
  have HLM := Lib.hid hlm
  have HRR := Lib.hid hrr
  clear hi hl hlm hrr
  go_enter Try.func4, Try.ntmps4
  go_wp2_with fail
  refine (szEventS_any a n cap 1048576 es _ (by omega) (by omega) hm HN.out HLM.out HI.out).mono ?_
  rintro e w1 ⟨r, rfl, hr, hb⟩
  have HB1 := Lib.hid hb
  clear hb hm
  rcases hr with rfl | ⟨r0, hr⟩
  · go_wp2
    go_ret
    exact ⟨rfl, HB1.out⟩
  have hn : n ≤ 1048576 := by omega
  have hhe : heftB (evW es) ≤ 1048576 := by omega
  have HF : Hid (FewE es) := fewE_heft hhe
  have HHE := Lib.hid hhe
  clear hr hhe
  obtain ⟨ds, hds⟩ : ∃ ds, gapsL es z = ds := ⟨_, rfl⟩
  obtain ⟨L, hL⟩ : ∃ L, ds.length = L := ⟨_, rfl⟩
  have HZ := Lib.hid hds
  have HLN := Lib.hid hL
  have hwg : wgt ds ≤ 1048576 := by rw [← hds]; exact Nat.le_trans (gaps_wgt es z) (Nat.le_trans (written_wgt es) HHE.out)
  have HDF : Hid (Few ds) := few_wgt hwg
  have hLn : L ≤ 1048576 := by rw [← hL]; unfold wgt at hwg; omega
  have hbk : bulk ds ≤ 1048576 := by unfold wgt at hwg; omega
  have HMB : Hid (∀ i, i < es.length → (es.getD i evz).m ≤ 9223372036854775807) := fun i hi => (HRR.out i hi).2.1.2
  clear hwg
  clear hds hL
  go_wp2_with fail
  refine (toEventS_any a n cap es _ HN.out hn HF.out (HI.out.below HB1.out)).mono ?_
  rintro e w2 ⟨xs2, rfl, he2, hO, hb⟩
  have HB2 : Hid (Below w.heap.size w w2) := below_step HB1.out HB1.out.size hb
  have HP2 : Hid (IsEs w2 (some ⟨w1.heap.size, 0, none⟩) es) := by have := hO.isEs (by rw [he2]; exact HF.out); rwa [he2] at this
  clear hb HB1 hO he2
  go_wp2_with fail
  refine (specGaps_any _ n n es z _ HN.out hn HF.out HHE.out HMB.out HP2.out).mono ?_
  rintro e w3 ⟨v3, rfl, hrow⟩
  rw [HZ.out] at hrow
  obtain ⟨gd, cs, gs3, rfl, hgx, hgr, hb⟩ := hrow
  rw [HLN.out]
  have HD : Hid (IsWs w3 (some ⟨gd, 0, none⟩) ds) := hgr.isWs hgx HDF.out
  have HB3 : Hid (Below w.heap.size w w3) := below_step HB2.out HB2.out.size hb
  have HS3 : Hid (Below w3.heap.size w3 w3) := Below.refl _ _
  have hw3 : w.heap.size ≤ w3.heap.size := HB3.out.size
  clear hb HB2 HP2 hgx hgr
  go_wp2_with fail
  refine (toEventS_any a n cap es _ HN.out hn HF.out (HI.out.below HB3.out)).mono ?_
  rintro e w4 ⟨xs4, rfl, he4, hO, hb⟩
  have HB4 : Hid (Below w.heap.size w w4) := below_step HB3.out HB3.out.size hb
  have HS4 : Hid (Below w3.heap.size w3 w4) := below_step HS3.out HS3.out.size hb
  have hs34 : w3.heap.size ≤ w4.heap.size := hb.size
  have HX4 := Lib.hid hO
  have HE4 := Lib.hid he4
  have hel : xs4.length = n := by have h1 := congrArg List.length he4; rw [HN.out, evsOf_len] at h1; exact h1
  have HTM : Hid (TameE xs4 1) := tameE_heft (by omega) (by omega) (by rw [he4]; exact HHE.out) (by omega)
  have HFB : Hid (FewE (evsOf xs4)) := by rw [he4]; exact HF.out
  clear hb HB3 HS3 hO he4
  have HWB : Hid (∀ W A, OwnE W w3.heap.size w4.heap.size A xs4 → IsEs W A es) := fun W A h => by have := h.isEs HFB.out; rwa [HE4.out] at this
  go_wp2_with fail
  refine (implGaps_any _ n n es z _ HN.out hn HF.out HHE.out HRR.out (HWB.out _ _ HX4.out)).mono ?_
  rintro e w5 ⟨v5, es5, rfl, hes, hrow, hb⟩
  rw [HZ.out] at hes
  obtain ⟨ag, cg, L5, rfl, hl5, hg⟩ := hrow.ownA hes
  obtain rfl : L5 = L := hl5.symm.trans HLN.out
  have hs45 : w4.heap.size ≤ w5.heap.size := hb.size
  have HB5 : Hid (Below w.heap.size w w5) := below_step HB4.out HB4.out.size hb
  have HS5 : Hid (Below w3.heap.size w3 w5) := below_step HS4.out HS4.out.size hb
  have HX5 := Lib.hid (HX4.out.below hb)
  have HG5 := Lib.hid hg
  clear hb HB4 HS4 HX4 hrow hg hes hl5
  generalize gammaG es5 = γg at *
  go_wp2_with fail
  refine (eqWriteS_gen _ _ L5 _ _ ds _ HLN.out (by omega) HDF.out (HG5.out.isWs HDF.out) (HD.out.below HS5.out)).mono ?_
  rintro e w6 ⟨rfl, hb⟩
  have HB6 : Hid (Below w.heap.size w w6) := below_step HB5.out HB5.out.size hb
  have HS6 : Hid (Below w3.heap.size w3 w6) := below_step HS5.out HS5.out.size hb
  have HX6 := Lib.hid (HX5.out.below hb)
  have HG6 := Lib.hid (HG5.out.below hb)
  clear hb HB5 HS5 HX5 HG5
  go_wp2_with fail
  refine (toEventS_any a n cap es _ HN.out hn HF.out (HI.out.below HB6.out)).mono ?_
  rintro e w7 ⟨xs7, rfl, he7, hO, hb⟩
  have HB7 : Hid (Below w.heap.size w w7) := below_step HB6.out HB6.out.size hb
  have HS7 : Hid (Below w3.heap.size w3 w7) := below_step HS6.out HS6.out.size hb
  have HX7 := Lib.hid (HX6.out.below hb)
  have HG7 := Lib.hid (HG6.out.below hb)
  have HW7 : Hid (IsEs w7 (some ⟨w6.heap.size, 0, none⟩) es) := by have := hO.isEs (by rw [he7]; exact HF.out); rwa [he7] at this
  clear hb HB6 HS6 HX6 HG6 hO he7
  go_wp2_with fail
  refine (eqEventS_same _ _ n n n es _ HN.out hn HF.out (HWB.out _ _ HX7.out) HW7.out).mono ?_
  rintro e w8 ⟨rfl, hb⟩
  have HB8 : Hid (Below w.heap.size w w8) := below_step HB7.out HB7.out.size hb
  have HS8 : Hid (Below w3.heap.size w3 w8) := below_step HS7.out HS7.out.size hb
  have HX8 := Lib.hid (HX7.out.below hb)
  have HG8 := Lib.hid (HG7.out.below hb)
  clear hb HB7 HS7 HX7 HG7 HW7
  go_wp2_with fail
  refine (markEventS_any _ _ n n _ 1 xs4 _ hel hn HTM.out HX8.out).mono ?_
  rintro e w9 ⟨rfl, -, ho⟩
  have hbl : Below w3.heap.size w8 w9 := ho.below fun x hx => hx.1
  have HB9 : Hid (Below w.heap.size w w9) := HB8.out.trans (hbl.mono hw3)
  have HS9 : Hid (Below w3.heap.size w3 w9) := HS8.out.trans hbl
  have HG9 := Lib.hid (HG8.out.only ho fun x hx => hx.2)
  have HK := Lib.hid (markKE_bd xs4 1)
  obtain ⟨k, hk⟩ : ∃ k, markKE xs4 1 = k := ⟨_, rfl⟩
  rw [hk] at HK ⊢
  have k0 : 0 ≤ k := by have := HK.out.1; omega
  clear hbl ho HB8 HS8 HX8 HG8 HK hk
  go_wp2_with fail
  refine (eqWriteS_gen _ _ L5 _ _ ds _ HLN.out (by omega) HDF.out (HG9.out.isWs HDF.out) (HD.out.below HS9.out)).mono ?_
  rintro e w10 ⟨rfl, hb⟩
  have HB10 : Hid (Below w.heap.size w w10) := below_step HB9.out HB9.out.size hb
  have HS10 : Hid (Below w3.heap.size w3 w10) := below_step HS9.out HS9.out.size hb
  have HG10 := Lib.hid (HG9.out.below hb)
  clear hb HB9 HS9 HG9
  go_wp2_with fail
  refine (markWriteS_all _ _ L5 _ _ 1 ds γg _ HLN.out (by omega) (by omega) (by omega) (by omega) HG10.out).mono ?_
  rintro e w11 ⟨rfl, hmk, ho⟩
  have hbl : Below w4.heap.size w10 w11 := ho.below fun x hx => hx.1
  have HB11 : Hid (Below w.heap.size w w11) := HB10.out.trans (hbl.mono (by omega))
  have HS11 : Hid (Below w3.heap.size w3 w11) := HS10.out.trans (hbl.mono (by omega))
  have HM11 := Lib.hid hmk
  have k3 : 0 ≤ markK ds 1 L5 := by
    unfold markK
    omega
  clear hbl ho hmk HB10 HS10 HG10
  go_wp2_with fail
  refine (heldWriteS_all L5 _ _ 1 ds γg _ HLN.out (by omega) (by omega) (by omega) (by omega) HM11.out).mono ?_
  rintro e w12 ⟨rfl, hw⟩
  subst w12
  go_wp2_with fail
  refine (toEventS_any a n cap es _ HN.out hn HF.out (HI.out.below HB11.out)).mono ?_
  rintro e w12 ⟨xs12, rfl, he12, hO, hb⟩
  have HB12 : Hid (Below w.heap.size w w12) := below_step HB11.out HB11.out.size hb
  have HS12 : Hid (Below w3.heap.size w3 w12) := below_step HS11.out HS11.out.size hb
  have HM12 := Lib.hid (HM11.out.below hb)
  have HP12 : Hid (IsEs w12 (some ⟨w11.heap.size, 0, none⟩) es) := by have := hO.isEs (by rw [he12]; exact HF.out); rwa [he12] at this
  clear hb HB11 HS11 HM11 hO he12
  go_wp2_with fail
  refine (implGaps_any _ n n es z _ HN.out hn HF.out HHE.out HRR.out HP12.out).mono ?_
  rintro e w13 ⟨v13, es13, rfl, hes, hrow, hb⟩
  rw [HZ.out] at hes
  obtain ⟨ah, ch, L13, rfl, hl13, hh⟩ := hrow.ownA hes
  obtain rfl : L13 = L5 := hl13.symm.trans HLN.out
  have HH := Lib.hid (hh.isWs HDF.out)
  have HB13 : Hid (Below w.heap.size w w13) := below_step HB12.out HB12.out.size hb
  have HS13 : Hid (Below w3.heap.size w3 w13) := below_step HS12.out HS12.out.size hb
  have HM13 := Lib.hid (HM12.out.below hb)
  clear hb HB12 HS12 HM12 hrow hh HP12 hes hl13
  go_wp2_with fail
  refine (eqWriteS_gen _ _ L13 _ _ ds _ HLN.out (by omega) HDF.out HH.out (HD.out.below HS13.out)).mono ?_
  rintro e w14 ⟨rfl, hb⟩
  have HB14 : Hid (Below w.heap.size w w14) := below_step HB13.out HB13.out.size hb
  have HS14 : Hid (Below w3.heap.size w3 w14) := below_step HS13.out HS13.out.size hb
  have HM14 := Lib.hid (HM13.out.below hb)
  clear hb HB13 HS13 HM13 HH
  go_wp2_with fail
  refine (heldWriteS_all L13 _ _ 1 ds γg _ HLN.out (by omega) (by omega) (by omega) (by omega) HM14.out).mono ?_
  rintro e w15 ⟨rfl, hw⟩
  subst w15
  go_wp2
  go_ret
  exact ⟨rfl, HB14.out⟩

set_option maxRecDepth 100000 in
theorem lifted (os : Os) (started : os.Started) (H : Type) (enc : TypeId × Value → H) :
    ReturnsInHanded {} Try.checked os 4 .any (Rows.fnExactGapsSpec.pre6 enc Try.prog Try.f4 Rows.fnExactGapsRow.domain false) (Rows.fnExactGapsSpec.post enc Try.prog Try.f4 false true false false) := by
  refine returnsInHanded_of_change (C := Try.checked) own started (by kernel_rfl) Try.func4
    (ChangeSpec.witness6 (enc := enc) (C := Try.checked) false ⟨#[], #[.slice none 0 0, .int .i64 0], []⟩ 8 (by kernel_rfl) (by kernel_rfl) (by kernel_rfl) (by kernel_rfl)) ?_
  intro W base args ds gs before hval0 hW hcnd _
  have hval : ∀ (j : Nat) t v, Try.f4.params[j]? = some t → args[j]? = some v → Value.okWide Try.prog W .any base t v := hval0
  have hW' := hW
  obtain ⟨p, q, hA0, hV, rfl, hfz, hnd⟩ := hW
  have hA : DataW.TrodAll enc Try.prog W 0 (fun _ => true) true Try.f4.params.toList args.toList ds p := hA0
  rw [Try.params4] at hA hval
  obtain ⟨v0, v1, d0, d1, p0, p1, rfl, rfl, rfl, h0, h1⟩ := trodAll_two hA
  have k0 := h0
  have lt0 : ∀ x ∈ p0, x.block < W.heap.size := by obtain ⟨m, hm⟩ := k0; exact DataW.trod_lt m _ _ _ hm
  have k1 := h1
  have lt1 : ∀ x ∈ p1, x.block < W.heap.size := by obtain ⟨m, hm⟩ := k1; exact DataW.trod_lt m _ _ _ hm
  obtain ⟨rfl, rfl⟩ := trodVars_none hV
  obtain ⟨a0, len0, cap0, es0, hv0, hr0⟩ := open_es (hval 0 22 v0 rfl rfl) h0
  subst hv0
  obtain ⟨a1, hv1, _, _, wf1⟩ := open_int Try.underlying3 (hval 1 3 v1 rfl rfl) h1
  subst hv1
  have wa1 : -9223372036854775808 ≤ a1 ∧ a1 ≤ 9223372036854775807 := by
    simp only [Lit.wf, Bool.and_eq_true, decide_eq_true_eq] at wf1
    exact wf1
  clear hA0 hval0
  refine (walk a0 len0 cap0 es0 a1 W hr0 wa1).mono fun e W' ⟨he, bel⟩ => ?_
  subst he
  exact ⟨_, rfl, _, _, _, [], _, [], hW', trodAll_mk1 (shut_bool Try.underlying4 _), (trodAll_mk2 (Below.trod laidOut (by kernel_rfl) (of_decide_eq_true (by kernel_rfl)) k0 bel lt0) (Below.trod laidOut (by kernel_rfl) (of_decide_eq_true (by kernel_rfl)) k1 bel lt1)), rfl, bel.frame _, fun h => by cases h⟩

theorem over : Rows.fnExactGapsRow.holds Try.pinned (OpenSpec.ofChange Rows.fnExactGapsSpec) :=
  OpenClaim.holds_of_wide 4 Try.f4 rfl rfl rfl rfl rfl rfl rfl ⟨rfl, rfl, rfl, rfl, rfl⟩ rfl rfl rfl rfl rfl (by kernel_rfl) Try.func4 (by kernel_rfl)
    (of_decide_eq_true (by kernel_rfl)) (by unfold Func.isWrapper; rw [if_neg (by decide +kernel)]; exact ⟨rfl, rfl⟩)
    (fun os started H enc _ => lifted os started H enc)

end Go.Proofs.Ytomndnopbpbblaa.lawGaps
namespace Go.Proofs.Ytomndnopbpbblaa
theorem fnExactGaps_holds : Rows.FnExactGapsSaid := lawGaps.over
#print axioms fnExactGaps_holds
end Go.Proofs.Ytomndnopbpbblaa
