/- At every list of writes and of dependencies the law FnExactLacks answers true: impl.Lacks answers as spec.Lacks, and leaves both lists as they were, and its answer owns its memory. No conditions. -/
import Derived.Test.YtionfpjjlghanajICuts
import Derived.Test.YtionfpjjlghanajOpenWs
import Derived.Test.YtionfpjjlghanajOpenDeps
import Derived.Test.YtionfpjjlghanajOwnDeps
import Derived.Test.YtionfpjjlghanajOwn
namespace Go.Proofs.Ytionfpjjlghanaj.lawLacks
open Go.ChangeShapes Go.WideShapes Go.ChangeAt Go.RowKit Go.Joins
attribute [local go_sem ↓] Go.wp_at_zero Go.wp_at_succ

set_option maxHeartbeats 8000000 in
theorem walk (a : Option Addr) (n cap : Nat) (us : List Wr) (b : Option Addr) (m cap' : Nat) (ds : List Dp) (w : World) (hr : us.length = n ∧ n ≤ maxLen ∧ IsWs w a us) (hr' : ds.length = m ∧ m ≤ maxLen ∧ IsDeps w b ds) :
    Calls Try.prog 5 #[.slice a n cap, .slice b m cap'] w fun e w' => e = .returned (.bool true) ∧ Below w.heap.size w w' := by
  obtain ⟨hl, hm, hi⟩ := hr
  obtain ⟨hl', hm', hi'⟩ := hr'
  have HI := Lib.hid hi
  have HJ := Lib.hid hi'
  have HN := Lib.hid hl
  have HM := Lib.hid hl'
  clear hi hl hi' hl'
  go_enter Try.func5, Try.ntmps5
  go_wp2_with fail
  refine (szWriteS_any a n cap 1048576 us _ (by omega) (by omega) hm HN.out HI.out).mono ?_
  rintro e w2 ⟨r, rfl, hr, hb⟩
  have HB2 := Lib.hid hb
  clear hb hm
  rcases hr with rfl | ⟨r0, hr⟩
  · go_wp2
    go_ret
    exact ⟨rfl, HB2.out⟩
  have HRR := Lib.hid hr
  have r1 : r ≤ 1048576 := by omega
  clear hr
  by_cases hbig : r < (m : Int)
  · go_wp2_with fail
    refine (szDepS_big b m cap' r _ r0 r1 hbig hm').mono ?_
    rintro e w3 ⟨rfl, rfl⟩
    go_wp2
    go_ret
    exact ⟨rfl, HB2.out⟩
  have hsm : (m : Int) ≤ r := by omega
  have hz0 : 0 ≤ r - (m : Int) := by omega
  go_wp2_with fail
  refine (szDepS_small b m cap' r _ r0 r1 hsm).mono ?_
  rintro e w3' ⟨rfl, rfl⟩
  have hn : n ≤ 1048576 := by have := HRR.out; omega
  have hm : m ≤ 1048576 := by omega
  have hbu : bulk us ≤ 1048576 := by have := HRR.out; omega
  have HF : Hid (Few us) := few_of_bulk hbu
  have HX : Hid (∀ i, i < n → (us.getD i wz).xs.length ≤ 1048576) := fun i h => HF.out i (by rw [HN.out]; exact h)
  clear HRR hbig hm'
  go_wp2_with fail
  refine (toWriteS_any a n cap us _ hn HN.out HX.out (HI.out.below HB2.out)).mono ?_
  rintro e w3 ⟨γ3, rfl, hO3, hb⟩
  have HB3 : Hid (Below w.heap.size w w3) := below_step HB2.out HB2.out.size hb
  have HO3 := Lib.hid hO3
  clear hb hO3 HB2
  go_wp2_with fail
  refine (toDepS_own b m cap' ds _ hm HM.out (HJ.out.below HB3.out)).mono ?_
  rintro e w4 ⟨g4, rfl, g41, g42, g43, g44, hb⟩
  have HB4 : Hid (Below w.heap.size w w4) := below_step HB3.out HB3.out.size hb
  have HO34 := Lib.hid (HO3.out.below hb)
  have HD4 : Hid (IsDeps w4 (some ⟨g4, 0, none⟩) ds) := .inr ⟨g4, 0, rfl, g42, g43⟩
  clear hb g41 g42 g43 g44 HB3 HO3
  have HLL : Hid ((lacksL us ds).length ≤ 1048576) := by
    have h1 := lacks_len us ds m
    rw [List.take_of_length_le (by rw [HM.out]; exact Nat.le_refl _)] at h1
    exact Lib.hid (by omega)
  go_wp2_with fail
  refine (specLacks_any _ _ n m n m us ds _ HN.out hn HF.out HM.out hm (HO34.out.holds.isWs HF.out) HD4.out).mono ?_
  rintro e w5 ⟨v5, rfl, hrow, hb⟩
  obtain ⟨sa, sc, rfl, hs5⟩ := hrow.form
  have HB5 : Hid (Below w.heap.size w w5) := below_step HB4.out HB4.out.size hb
  have HS : Hid (IsDeps w5 sa (lacksL us ds)) := hs5.isDeps
  clear hb hrow hs5 HB4 HO34 HD4
  have hw5 : w.heap.size ≤ w5.heap.size := HB5.out.size
  go_wp2_with fail
  refine (toWriteS_any a n cap us _ hn HN.out HX.out (HI.out.below HB5.out)).mono ?_
  rintro e w6 ⟨γ6, rfl, hO6, hb⟩
  have HB6 : Hid (Below w.heap.size w w6) := below_step HB5.out HB5.out.size hb
  have HS6 : Hid (Below w5.heap.size w5 w6) := hb
  have HO6 : Hid (OwnA w6 w5.heap.size w6.heap.size (some ⟨w5.heap.size, 0, none⟩) us γ6) := hO6.gen.ownA
  clear hb hO6 HB5
  go_wp2_with fail
  refine (toDepS_own b m cap' ds _ hm HM.out (HJ.out.below HB6.out)).mono ?_
  rintro e w7 ⟨g7, rfl, g71, g72, g73, g74, hb⟩
  have HB7 : Hid (Below w.heap.size w w7) := below_step HB6.out HB6.out.size hb
  have HS7 : Hid (Below w5.heap.size w5 w7) := below_step HS6.out HS6.out.size hb
  have HO7 := Lib.hid (HO6.out.below hb)
  have HD7 : Hid (OwnD w7 w6.heap.size w7.heap.size (some ⟨g7, 0, none⟩) ds) := .inr ⟨g7, rfl, g71, g72, g72, g73, g74⟩
  have hs67 : w6.heap.size ≤ w7.heap.size := hb.size
  have hs56 : w5.heap.size ≤ w6.heap.size := HS6.out.size
  clear hb g71 g72 g73 g74 HB6 HS6 HO6
  go_wp2_with fail
  refine (implLacks_any _ _ n m n m us ds _ HN.out hn HM.out hm (HO7.out.isWs HF.out) HD7.out.isDeps).mono ?_
  rintro e w8 ⟨v8, rfl, hrow, hb⟩
  obtain ⟨ga, gc, rfl, hg8⟩ := hrow.form
  have HB8 : Hid (Below w.heap.size w w8) := below_step HB7.out HB7.out.size hb
  have HS8 : Hid (Below w5.heap.size w5 w8) := below_step HS7.out HS7.out.size hb
  have HO8 := Lib.hid (HO7.out.below hb)
  have HD8 := Lib.hid (HD7.out.below hb)
  have HG8 := Lib.hid hg8
  have hs78 : w7.heap.size ≤ w8.heap.size := hb.size
  clear hb hrow hg8 HB7 HS7 HO7 HD7
  obtain ⟨ls, hls⟩ : ∃ ls, ls = lacksL us ds := ⟨_, rfl⟩
  have HLS : Hid (lacksL us ds = ls) := hls.symm
  rw [HLS.out] at HG8 HS HLL
  rw [HLS.out]
  clear hls
  go_wp2_with fail
  refine (eqDepS_gen _ _ ls _ _ _ HLL.out HG8.out.isDeps (HS.out.below HS8.out)).mono ?_
  rintro e w9 ⟨rfl, hb⟩
  have HB9 : Hid (Below w.heap.size w w9) := below_step HB8.out HB8.out.size hb
  have HS9 : Hid (Below w5.heap.size w5 w9) := below_step HS8.out HS8.out.size hb
  have HO9 := Lib.hid (HO8.out.below hb)
  have HD9 := Lib.hid (HD8.out.below hb)
  have HG9 := Lib.hid (HG8.out.below hb)
  clear hb HB8 HS8 HO8 HD8 HG8
  go_wp2_with fail
  refine (toWriteS_any a n cap us _ hn HN.out HX.out (HI.out.below HB9.out)).mono ?_
  rintro e w10 ⟨γ10, rfl, hO10, hb⟩
  have HB10 : Hid (Below w.heap.size w w10) := below_step HB9.out HB9.out.size hb
  have HS10 : Hid (Below w5.heap.size w5 w10) := below_step HS9.out HS9.out.size hb
  have HO10 := Lib.hid (HO9.out.below hb)
  have HD10 := Lib.hid (HD9.out.below hb)
  have HG10 := Lib.hid (HG9.out.below hb)
  have HQ10 : Hid (IsWs w10 (some ⟨w9.heap.size, 0, none⟩) us) := hO10.holds.isWs HF.out
  clear hb hO10 HB9 HS9 HO9 HD9 HG9
  go_wp2_with fail
  refine (eqWriteS_gen _ _ n n n us _ HN.out hn HF.out (HO10.out.isWs HF.out) HQ10.out).mono ?_
  rintro e w11 ⟨rfl, hb⟩
  have HB11 : Hid (Below w.heap.size w w11) := below_step HB10.out HB10.out.size hb
  have HS11 : Hid (Below w5.heap.size w5 w11) := below_step HS10.out HS10.out.size hb
  have HO11 := Lib.hid (HO10.out.below hb)
  have HD11 := Lib.hid (HD10.out.below hb)
  have HG11 := Lib.hid (HG10.out.below hb)
  clear hb HB10 HS10 HO10 HD10 HG10 HQ10
  go_wp2_with fail
  refine (toDepS_own b m cap' ds _ hm HM.out (HJ.out.below HB11.out)).mono ?_
  rintro e w12 ⟨g12, rfl, -, g122, g123, -, hb⟩
  have HB12 : Hid (Below w.heap.size w w12) := below_step HB11.out HB11.out.size hb
  have HS12 : Hid (Below w5.heap.size w5 w12) := below_step HS11.out HS11.out.size hb
  have HO12 := Lib.hid (HO11.out.below hb)
  have HD12 := Lib.hid (HD11.out.below hb)
  have HG12 := Lib.hid (HG11.out.below hb)
  have HQ12 : Hid (IsDeps w12 (some ⟨g12, 0, none⟩) ds) := .inr ⟨g12, 0, rfl, g122, g123⟩
  clear hb g122 g123 HB11 HS11 HO11 HD11 HG11
  have HEQ := Lib.hid (eqDepS_gen (some ⟨g7, 0, none⟩) (some ⟨g12, 0, none⟩) ds m m w12 (by rw [HM.out]; exact hm) HD12.out.isDeps HQ12.out)
  rw [HM.out] at HEQ
  go_wp2_with fail
  refine HEQ.out.mono ?_
  rintro e w13 ⟨rfl, hb⟩
  have HB13 : Hid (Below w.heap.size w w13) := below_step HB12.out HB12.out.size hb
  have HS13 : Hid (Below w5.heap.size w5 w13) := below_step HS12.out HS12.out.size hb
  have HO13 := Lib.hid (HO12.out.below hb)
  have HD13 := Lib.hid (HD12.out.below hb)
  have HG13 := Lib.hid (HG12.out.below hb)
  clear hb HB12 HS12 HO12 HD12 HG12 HQ12 HEQ
  have HK1 : Hid (0 ≤ markK us 1 n ∧ markK us 1 n ≤ 20000000) := by
    have h1 := bulk_take_le us n
    unfold markK
    constructor <;> omega
  go_wp2_with fail
  refine (markWriteS_all _ _ n n _ 1 us γ6 _ HN.out hn hbu (by omega) (by omega) HO13.out).mono ?_
  rintro e w14 ⟨rfl, -, ho⟩
  have hbl : Below w5.heap.size w13 w14 := ho.below fun x hx => hx.1
  have HB14 : Hid (Below w.heap.size w w14) := HB13.out.trans (hbl.mono hw5)
  have HS14 : Hid (Below w5.heap.size w5 w14) := HS13.out.trans hbl
  have HD14 := Lib.hid (HD13.out.only ho fun x hx => .inl hx.2)
  have HG14 := Lib.hid (HG13.out.only ho fun x hx => .inl (by have := hx.2; omega))
  obtain ⟨k0, k1⟩ := HK1.out
  clear hbl ho HB13 HS13 HO13 HD13 HG13 HK1
  generalize markK us 1 n = k at *
  go_wp2_with fail
  refine (markDepS_all _ _ m m _ k ds _ HM.out hm k0 (by omega) HD14.out).mono ?_
  rintro e w15 ⟨rfl, -, ho⟩
  have hbl : Below w5.heap.size w14 w15 := ho.below fun x hx => by have := hx.1; omega
  have HB15 : Hid (Below w.heap.size w w15) := HB14.out.trans (hbl.mono hw5)
  have HS15 : Hid (Below w5.heap.size w5 w15) := HS14.out.trans hbl
  have HG15 := Lib.hid (HG14.out.only ho fun x hx => .inl hx.2)
  have k2 : 0 ≤ k + 4 * (m : Int) := by omega
  clear hbl ho HB14 HS14 HD14 HG14
  generalize k + 4 * (m : Int) = k' at *
  go_wp2_with fail
  refine (eqDepS_gen _ _ ls _ _ _ HLL.out HG15.out.isDeps (HS.out.below HS15.out)).mono ?_
  rintro e w16 ⟨rfl, hb⟩
  have HB16 : Hid (Below w.heap.size w w16) := below_step HB15.out HB15.out.size hb
  have HS16 : Hid (Below w5.heap.size w5 w16) := below_step HS15.out HS15.out.size hb
  have HG16 := Lib.hid (HG15.out.below hb)
  clear hb HB15 HS15 HG15
  go_wp2_with fail
  refine (markDepS_all _ _ ls.length _ _ 1 ls _ rfl HLL.out (by omega) (by omega) HG16.out).mono ?_
  rintro e w17 ⟨rfl, hmk, ho⟩
  have hbl : Below w7.heap.size w16 w17 := ho.below fun x hx => hx.1
  have HB17 : Hid (Below w.heap.size w w17) := HB16.out.trans (hbl.mono (by omega))
  have HS17 : Hid (Below w5.heap.size w5 w17) := HS16.out.trans (hbl.mono (by omega))
  have HM17 := Lib.hid hmk
  have k3 : 0 ≤ 1 + 4 * (ls.length : Int) := by omega
  clear hbl ho hmk HB16 HS16 HG16
  go_wp2_with fail
  refine (heldDepS_all ls.length _ _ 1 ls _ rfl HLL.out (by omega) (by omega) HM17.out).mono ?_
  rintro e w18 ⟨rfl, rfl⟩
  go_wp2_with fail
  refine (toWriteS_any a n cap us _ hn HN.out HX.out (HI.out.below HB17.out)).mono ?_
  rintro e w19 ⟨γ19, rfl, hO19, hb⟩
  have HB19 : Hid (Below w.heap.size w w19) := below_step HB17.out HB17.out.size hb
  have HS19 : Hid (Below w5.heap.size w5 w19) := below_step HS17.out HS17.out.size hb
  have HM19 := Lib.hid (HM17.out.below hb)
  have HO19 : Hid (IsWs w19 _ us) := hO19.holds.isWs HF.out
  clear hb hO19 HB17 HS17 HM17
  go_wp2_with fail
  refine (toDepS_own b m cap' ds _ hm HM.out (HJ.out.below HB19.out)).mono ?_
  rintro e w20 ⟨g20, rfl, -, g202, g203, -, hb⟩
  have HB20 : Hid (Below w.heap.size w w20) := below_step HB19.out HB19.out.size hb
  have HS20 : Hid (Below w5.heap.size w5 w20) := below_step HS19.out HS19.out.size hb
  have HM20 := Lib.hid (HM19.out.below hb)
  have HO20 := Lib.hid (HO19.out.below hb)
  have HD20 : Hid (IsDeps w20 (some ⟨g20, 0, none⟩) ds) := .inr ⟨g20, 0, rfl, g202, g203⟩
  clear hb g202 g203 HB19 HS19 HM19 HO19
  go_wp2_with fail
  refine (implLacks_any _ _ n m n m us ds _ HN.out hn HM.out hm HO20.out HD20.out).mono ?_
  rintro e w21 ⟨v21, rfl, hrow, hb⟩
  rw [HLS.out] at hrow
  obtain ⟨ha, hc, rfl, hh⟩ := hrow.form
  have HB21 : Hid (Below w.heap.size w w21) := below_step HB20.out HB20.out.size hb
  have HS21 : Hid (Below w5.heap.size w5 w21) := below_step HS20.out HS20.out.size hb
  have HM21 := Lib.hid (HM20.out.below hb)
  have HH := Lib.hid hh.isDeps
  clear hb hh hrow HB20 HS20 HM20 HO20 HD20
  go_wp2_with fail
  refine (eqDepS_gen _ _ ls _ _ _ HLL.out HH.out (HS.out.below HS21.out)).mono ?_
  rintro e w22 ⟨rfl, hb⟩
  have HB22 : Hid (Below w.heap.size w w22) := below_step HB21.out HB21.out.size hb
  have HM22 := Lib.hid (HM21.out.below hb)
  clear hb HB21 HS21 HM21 HH
  go_wp2_with fail
  refine (heldDepS_all ls.length _ _ 1 ls _ rfl HLL.out (by omega) (by omega) HM22.out).mono ?_
  rintro e w23 ⟨rfl, rfl⟩
  go_wp2
  go_ret
  exact ⟨rfl, HB22.out⟩

set_option maxRecDepth 100000 in
theorem lifted (os : Os) (started : os.Started) (H : Type) (enc : TypeId × Value → H) :
    ReturnsInHanded {} Try.checked os 5 .any (Rows.fnExactLacksSpec.pre6 enc Try.prog Try.f5 Rows.fnExactLacksRow.domain false) (Rows.fnExactLacksSpec.post enc Try.prog Try.f5 false true false false) := by
  refine returnsInHanded_of_change (C := Try.checked) own started (by kernel_rfl) Try.func5
    (ChangeSpec.witness6 (enc := enc) (C := Try.checked) false ⟨#[], #[.slice none 0 0, .slice none 0 0], []⟩ 8 (by kernel_rfl) (by kernel_rfl) (by kernel_rfl) (by kernel_rfl)) ?_
  intro W base args ds gs before hval0 hW hcnd _
  have hval : ∀ (j : Nat) t v, Try.f5.params[j]? = some t → args[j]? = some v → Value.okWide Try.prog W .any base t v := hval0
  have hW' := hW
  obtain ⟨p, q, hA0, hV, rfl, hfz, hnd⟩ := hW
  have hA : DataW.TrodAll enc Try.prog W 0 (fun _ => true) true Try.f5.params.toList args.toList ds p := hA0
  rw [Try.params5] at hA hval
  obtain ⟨v0, v1, d0, d1, p0, p1, rfl, rfl, rfl, h0, h1⟩ := trodAll_two hA
  have k0 := h0
  have lt0 : ∀ x ∈ p0, x.block < W.heap.size := by obtain ⟨m, hm⟩ := k0; exact DataW.trod_lt m _ _ _ hm
  have k1 := h1
  have lt1 : ∀ x ∈ p1, x.block < W.heap.size := by obtain ⟨m, hm⟩ := k1; exact DataW.trod_lt m _ _ _ hm
  obtain ⟨rfl, rfl⟩ := trodVars_none hV
  obtain ⟨a0, len0, cap0, xs0, hv0, hr0⟩ := open_ws (hval 0 22 v0 rfl rfl) h0
  subst hv0
  obtain ⟨a1, len1, cap1, xs1, hv1, hr1⟩ := open_deps (hval 1 33 v1 rfl rfl) h1
  subst hv1
  clear hA0 hval0
  refine (walk a0 len0 cap0 xs0 a1 len1 cap1 xs1 W hr0 hr1).mono fun e W' ⟨he, bel⟩ => ?_
  subst he
  exact ⟨_, rfl, _, _, _, [], _, [], hW', trodAll_mk1 (shut_bool Try.underlying4 _), (trodAll_mk2 (Below.trod laidOut (by kernel_rfl) (of_decide_eq_true (by kernel_rfl)) k0 bel lt0) (Below.trod laidOut (by kernel_rfl) (of_decide_eq_true (by kernel_rfl)) k1 bel lt1)), rfl, bel.frame _, fun h => by cases h⟩

theorem over : Rows.fnExactLacksRow.holds Try.pinned (OpenSpec.ofChange Rows.fnExactLacksSpec) :=
  OpenClaim.holds_of_wide 5 Try.f5 rfl rfl rfl rfl rfl rfl rfl ⟨rfl, rfl, rfl, rfl, rfl⟩ rfl rfl rfl rfl rfl (by kernel_rfl) Try.func5 (by kernel_rfl)
    (of_decide_eq_true (by kernel_rfl)) (by unfold Func.isWrapper; rw [if_neg (by decide +kernel)]; exact ⟨rfl, rfl⟩)
    (fun os started H enc _ => lifted os started H enc)

end Go.Proofs.Ytionfpjjlghanaj.lawLacks
namespace Go.Proofs.Ytionfpjjlghanaj
theorem fnExactLacks_holds : Rows.FnExactLacksSaid := lawLacks.over
#print axioms fnExactLacks_holds
end Go.Proofs.Ytionfpjjlghanaj
