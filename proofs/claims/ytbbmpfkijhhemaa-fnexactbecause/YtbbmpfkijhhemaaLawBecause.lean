/- At every list of writes and every mask the law FnExactBecause answers true: impl.Because answers as spec.Because, and leaves the list as it was, and its answer owns its memory. No conditions. -/
import Derived.Test.YtbbmpfkijhhemaaPack10
import Derived.Test.YtbbmpfkijhhemaaPack9
namespace Go.Proofs.Ytbbmpfkijhhemaa.lawBecause
open Go.ChangeShapes Go.WideShapes Go.ChangeAt Go.RowKit Go.Joins
attribute [local go_sem ↓] Go.wp_at_zero Go.wp_at_succ

set_option maxRecDepth 100000 in
theorem becB_len (ws : List Wr) (mask : Int) : (becB ws mask).length ≤ 42 := by
  unfold becB
  split
  · rename_i h
    have := becL_len h.1 mask ws.length
    rwa [List.take_length] at this
  · simp

set_option maxRecDepth 100000 in
set_option maxHeartbeats 8000000 in
theorem walk (a : Option Addr) (n cap : Nat) (us : List Wr) (mask : Int) (w : World) (hr : us.length = n ∧ n ≤ maxLen ∧ IsWs w a us) (hM : -9223372036854775808 ≤ mask ∧ mask ≤ 9223372036854775807) :
    Calls Try.prog 4 #[.slice a n cap, .int .i64 mask] w fun e w' => e = .returned (.bool true) ∧ Below w.heap.size w w' := by
  obtain ⟨hl, hm, hi⟩ := hr
  have hM1 := hM.2
  clear hM
  have HI := Lib.hid hi
  have HN := Lib.hid hl
  clear hi hl
  go_enter Try.func4, Try.ntmps4
  go_wp2_with fail
  refine (szWriteS_any a n cap 1048576 us _ (by omega) (by omega) hm HN.out HI.out).mono ?_
  rintro e w2 ⟨r, rfl, hr, hb⟩
  have HB2 := Lib.hid hb
  clear hb hm
  rcases hr with rfl | ⟨r0, hr⟩
  · go_wp2
    go_ret
    exact ⟨rfl, HB2.out⟩
  have HRR := Lib.hid hr
  have r1 : r ≤ 1048576 := by omega
  clear hr
  have hn : n ≤ 1048576 := by have := HRR.out; omega
  have hbu : bulk us ≤ 1048576 := by have := HRR.out; omega
  have HF : Hid (Few us) := few_of_bulk hbu
  have HX : Hid (∀ i, i < n → (us.getD i wz).xs.length ≤ 1048576) := fun i h => HF.out i (by rw [HN.out]; exact h)
  clear HRR
  go_wp2_with fail
  refine (toWriteS_any a n cap us _ hn HN.out HX.out (HI.out.below HB2.out)).mono ?_
  rintro e w3 ⟨γ3, rfl, hO3, hb⟩
  have HB3 : Hid (Below w.heap.size w w3) := below_step HB2.out HB2.out.size hb
  have HO3 := Lib.hid hO3
  clear hb hO3 HB2
  have HLL : Hid ((becB us mask).length ≤ 1048576) := by have := becB_len us mask; exact Lib.hid (by omega)
  go_wp2_with fail
  refine (specBecause_any _ n n us mask _ HN.out hn HF.out (HO3.out.holds.isWs HF.out) hM1).mono ?_
  rintro e w5 ⟨v5, rfl, hrow, hb⟩
  obtain ⟨sa, sc, rfl, hs5⟩ := hrow.form
  have HB5 : Hid (Below w.heap.size w w5) := below_step HB3.out HB3.out.size hb
  have HS : Hid (IsDeps w5 sa (becB us mask)) := hs5.isDeps
  clear hb hrow hs5 HB3 HO3
  have hw5 : w.heap.size ≤ w5.heap.size := HB5.out.size
  go_wp2_with fail
  refine (toWriteS_any a n cap us _ hn HN.out HX.out (HI.out.below HB5.out)).mono ?_
  rintro e w7 ⟨γ6, rfl, hO6, hb⟩
  have HB7 : Hid (Below w.heap.size w w7) := below_step HB5.out HB5.out.size hb
  have HS7 : Hid (Below w5.heap.size w5 w7) := hb
  have HO7 : Hid (OwnA w7 w5.heap.size w7.heap.size (some ⟨w5.heap.size, 0, none⟩) us γ6) := hO6.gen.ownA
  clear hb hO6 HB5
  have hs57 : w5.heap.size ≤ w7.heap.size := HS7.out.size
  go_wp2_with fail
  refine (implBecause_any _ n n us mask _ HN.out hn HF.out (HO7.out.isWs HF.out) hM1).mono ?_
  rintro e w8 ⟨v8, rfl, hrow, hb⟩
  obtain ⟨ga, gc, rfl, hg8⟩ := hrow.form
  have HB8 : Hid (Below w.heap.size w w8) := below_step HB7.out HB7.out.size hb
  have HS8 : Hid (Below w5.heap.size w5 w8) := below_step HS7.out HS7.out.size hb
  have HO8 := Lib.hid (HO7.out.below hb)
  have HG8 := Lib.hid hg8
  have hs78 : w7.heap.size ≤ w8.heap.size := hb.size
  clear hb hrow hg8 HB7 HS7 HO7
  obtain ⟨ls, hls⟩ : ∃ ls, ls = becB us mask := ⟨_, rfl⟩
  have HLS : Hid (becB us mask = ls) := hls.symm
  rw [HLS.out] at HG8 HS HLL
  rw [HLS.out]
  clear hls
  go_wp2_with fail
  refine (eqDepS_gen _ _ ls _ _ _ HLL.out HG8.out.isDeps (HS.out.below HS8.out)).mono ?_
  rintro e w9 ⟨rfl, hb⟩
  have HB9 : Hid (Below w.heap.size w w9) := below_step HB8.out HB8.out.size hb
  have HS9 : Hid (Below w5.heap.size w5 w9) := below_step HS8.out HS8.out.size hb
  have HO9 := Lib.hid (HO8.out.below hb)
  have HG9 := Lib.hid (HG8.out.below hb)
  clear hb HB8 HS8 HO8 HG8
  go_wp2_with fail
  refine (toWriteS_any a n cap us _ hn HN.out HX.out (HI.out.below HB9.out)).mono ?_
  rintro e w10 ⟨γ10, rfl, hO10, hb⟩
  have HB10 : Hid (Below w.heap.size w w10) := below_step HB9.out HB9.out.size hb
  have HS10 : Hid (Below w5.heap.size w5 w10) := below_step HS9.out HS9.out.size hb
  have HO10 := Lib.hid (HO9.out.below hb)
  have HG10 := Lib.hid (HG9.out.below hb)
  have HQ10 : Hid (IsWs w10 (some ⟨w9.heap.size, 0, none⟩) us) := hO10.holds.isWs HF.out
  clear hb hO10 HB9 HS9 HO9 HG9
  go_wp2_with fail
  refine (eqWriteS_gen _ _ n n n us _ HN.out hn HF.out (HO10.out.isWs HF.out) HQ10.out).mono ?_
  rintro e w11 ⟨rfl, hb⟩
  have HB13 : Hid (Below w.heap.size w w11) := below_step HB10.out HB10.out.size hb
  have HS13 : Hid (Below w5.heap.size w5 w11) := below_step HS10.out HS10.out.size hb
  have HO13 := Lib.hid (HO10.out.below hb)
  have HG13 := Lib.hid (HG10.out.below hb)
  clear hb HB10 HS10 HO10 HG10 HQ10
  have HK1 : Hid (0 ≤ markK us 1 n ∧ markK us 1 n ≤ 20000000) := by
    have h1 := bulk_take_le us n
    unfold markK
    constructor <;> omega
  go_wp2_with fail
  refine (markWriteS_all _ _ n n _ 1 us γ6 _ HN.out hn hbu (by omega) (by omega) HO13.out).mono ?_
  rintro e w15 ⟨rfl, -, ho⟩
  have hbl : Below w5.heap.size w11 w15 := ho.below fun x hx => hx.1
  have HB15 : Hid (Below w.heap.size w w15) := HB13.out.trans (hbl.mono hw5)
  have HS15 : Hid (Below w5.heap.size w5 w15) := HS13.out.trans hbl
  have HG15 := Lib.hid (HG13.out.only ho fun x hx => .inl hx.2)
  obtain ⟨k0, k1⟩ := HK1.out
  clear hbl ho HB13 HS13 HO13 HG13 HK1
  generalize markK us 1 n = k at *
  go_wp2_with fail
  refine (eqDepS_gen _ _ ls _ _ _ HLL.out HG15.out.isDeps (HS.out.below HS15.out)).mono ?_
  rintro e w16 ⟨rfl, hb⟩
  have HB16 : Hid (Below w.heap.size w w16) := below_step HB15.out HB15.out.size hb
  have HS16 : Hid (Below w5.heap.size w5 w16) := below_step HS15.out HS15.out.size hb
  have HG16 := Lib.hid (HG15.out.below hb)
  clear hb HB15 HS15 HG15
  go_wp2_with fail
  refine (markDepS_all _ _ ls.length _ _ 1 ls _ rfl HLL.out (by omega) (by omega) HG16.out).mono ?_
  rintro e w17 ⟨rfl, hmk, ho⟩
  have hbl : Below w7.heap.size w16 w17 := ho.below fun x hx => hx.1
  have HB17 : Hid (Below w.heap.size w w17) := HB16.out.trans (hbl.mono (by omega))
  have HS17 : Hid (Below w5.heap.size w5 w17) := HS16.out.trans (hbl.mono (by omega))
  have HM17 := Lib.hid hmk
  have k3 : 0 ≤ 1 + 4 * (ls.length : Int) := by omega
  clear hbl ho hmk HB16 HS16 HG16
  go_wp2_with fail
  refine (heldDepS_all ls.length _ _ 1 ls _ rfl HLL.out (by omega) (by omega) HM17.out).mono ?_
  rintro e w18 ⟨rfl, rfl⟩
  go_wp2_with fail
  refine (toWriteS_any a n cap us _ hn HN.out HX.out (HI.out.below HB17.out)).mono ?_
  rintro e w20 ⟨γ19, rfl, hO19, hb⟩
  have HB20 : Hid (Below w.heap.size w w20) := below_step HB17.out HB17.out.size hb
  have HS20 : Hid (Below w5.heap.size w5 w20) := below_step HS17.out HS17.out.size hb
  have HM20 := Lib.hid (HM17.out.below hb)
  have HO20 : Hid (IsWs w20 _ us) := hO19.holds.isWs HF.out
  clear hb hO19 HB17 HS17 HM17
  go_wp2_with fail
  refine (implBecause_any _ n n us mask _ HN.out hn HF.out HO20.out hM1).mono ?_
  rintro e w21 ⟨v21, rfl, hrow, hb⟩
  rw [HLS.out] at hrow
  obtain ⟨ha, hc, rfl, hh⟩ := hrow.form
  have HB21 : Hid (Below w.heap.size w w21) := below_step HB20.out HB20.out.size hb
  have HS21 : Hid (Below w5.heap.size w5 w21) := below_step HS20.out HS20.out.size hb
  have HM21 := Lib.hid (HM20.out.below hb)
  have HH := Lib.hid hh.isDeps
  clear hb hh hrow HB20 HS20 HM20 HO20
  go_wp2_with fail
  refine (eqDepS_gen _ _ ls _ _ _ HLL.out HH.out (HS.out.below HS21.out)).mono ?_
  rintro e w22 ⟨rfl, hb⟩
  have HB22 : Hid (Below w.heap.size w w22) := below_step HB21.out HB21.out.size hb
  have HM22 := Lib.hid (HM21.out.below hb)
  clear hb HB21 HS21 HM21 HH
  go_wp2_with fail
  refine (heldDepS_all ls.length _ _ 1 ls _ rfl HLL.out (by omega) (by omega) HM22.out).mono ?_
  rintro e w23 ⟨rfl, rfl⟩
  go_wp2
  go_ret
  exact ⟨rfl, HB22.out⟩

set_option maxRecDepth 100000 in
theorem lifted (os : Os) (started : os.Started) (H : Type) (enc : TypeId × Value → H) :
    ReturnsInHanded {} Try.checked os 4 .any (Rows.fnExactBecauseSpec.pre6 enc Try.prog Try.f4 Rows.fnExactBecauseRow.domain false) (Rows.fnExactBecauseSpec.post enc Try.prog Try.f4 false true false false) := by
  refine returnsInHanded_of_change (C := Try.checked) own started (by kernel_rfl) Try.func4
    (ChangeSpec.witness6 (enc := enc) (C := Try.checked) false ⟨#[], #[.slice none 0 0, .int .i64 0], []⟩ 8 (by kernel_rfl) (by kernel_rfl) (by kernel_rfl) (by kernel_rfl)) ?_
  intro W base args ds gs before hval0 hW hcnd _
  have hval : ∀ (j : Nat) t v, Try.f4.params[j]? = some t → args[j]? = some v → Value.okWide Try.prog W .any base t v := hval0
  have hW' := hW
  obtain ⟨p, q, hA0, hV, rfl, hfz, hnd⟩ := hW
  have hA : DataW.TrodAll enc Try.prog W 0 (fun _ => true) true Try.f4.params.toList args.toList ds p := hA0
  rw [Try.params4] at hA hval
  obtain ⟨v0, v1, d0, d1, p0, p1, rfl, rfl, rfl, h0, h1⟩ := trodAll_two hA
  have k0 := h0
  have lt0 : ∀ x ∈ p0, x.block < W.heap.size := by obtain ⟨m, hm⟩ := k0; exact DataW.trod_lt m _ _ _ hm
  have k1 := h1
  have lt1 : ∀ x ∈ p1, x.block < W.heap.size := by obtain ⟨m, hm⟩ := k1; exact DataW.trod_lt m _ _ _ hm
  obtain ⟨rfl, rfl⟩ := trodVars_none hV
  obtain ⟨a0, len0, cap0, xs0, hv0, hr0⟩ := open_ws (hval 0 38 v0 rfl rfl) h0
  subst hv0
  obtain ⟨a1, hv1, _, _, wf1⟩ := open_int Try.underlying3 (hval 1 3 v1 rfl rfl) h1
  subst hv1
  have wa1 : -9223372036854775808 ≤ a1 ∧ a1 ≤ 9223372036854775807 := by
    simp only [Lit.wf, Bool.and_eq_true, decide_eq_true_eq] at wf1
    exact wf1
  clear hA0 hval0
  refine (walk a0 len0 cap0 xs0 a1 W hr0 wa1).mono fun e W' ⟨he, bel⟩ => ?_
  subst he
  exact ⟨_, rfl, _, _, _, [], _, [], hW', trodAll_mk1 (shut_bool Try.underlying4 _), (trodAll_mk2 (Below.trod laidOut (by kernel_rfl) (of_decide_eq_true (by kernel_rfl)) k0 bel lt0) (Below.trod laidOut (by kernel_rfl) (of_decide_eq_true (by kernel_rfl)) k1 bel lt1)), rfl, bel.frame _, fun h => by cases h⟩

theorem over : Rows.fnExactBecauseRow.holds Try.pinned (OpenSpec.ofChange Rows.fnExactBecauseSpec) :=
  OpenClaim.holds_of_wide 4 Try.f4 rfl rfl rfl rfl rfl rfl rfl ⟨rfl, rfl, rfl, rfl, rfl⟩ rfl rfl rfl rfl rfl (by kernel_rfl) Try.func4 (by kernel_rfl)
    (of_decide_eq_true (by kernel_rfl)) (by unfold Func.isWrapper; rw [if_neg (by decide +kernel)]; exact ⟨rfl, rfl⟩)
    (fun os started H enc _ => lifted os started H enc)

end Go.Proofs.Ytbbmpfkijhhemaa.lawBecause
namespace Go.Proofs.Ytbbmpfkijhhemaa
theorem fnExactBecause_holds : Rows.FnExactBecauseSaid := lawBecause.over
#print axioms fnExactBecause_holds
end Go.Proofs.Ytbbmpfkijhhemaa
