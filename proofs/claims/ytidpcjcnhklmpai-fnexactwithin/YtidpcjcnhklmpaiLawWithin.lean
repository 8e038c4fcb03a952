/- At every two lists of writes the law FnExactWithin answers true: impl.Within answers as spec.Within and leaves both lists as they were. No conditions. -/
import Derived.Test.YtidpcjcnhklmpaiPack9
namespace Go.Proofs.Ytidpcjcnhklmpai.lawWithin
open Go.ChangeShapes Go.WideShapes Go.ChangeAt Go.RowKit Go.Joins
attribute [local go_sem ↓] Go.wp_at_zero Go.wp_at_succ

set_option maxHeartbeats 8000000 in
theorem walk (a : Option Addr) (n cap : Nat) (us : List Wr) (b : Option Addr) (m cap' : Nat) (vs : List Wr) (w : World) (hr : us.length = n ∧ n ≤ maxLen ∧ IsWs w a us) (hr' : vs.length = m ∧ m ≤ maxLen ∧ IsWs w b vs) :
    Calls Try.prog 8 #[.slice a n cap, .slice b m cap'] w fun e w' => e = .returned (.bool true) ∧ Below w.heap.size w w' := by
  obtain ⟨hl, hm, hi⟩ := hr
  obtain ⟨hl', hm', hi'⟩ := hr'
  have HI := Lib.hid hi
  have HJ := Lib.hid hi'
  have HN := Lib.hid hl
  have HM := Lib.hid hl'
  clear hi hl hi' hl'
  go_enter Try.func8, Try.ntmps8
  go_wp2_with fail
  refine (szWriteS_any a n cap 1048576 us _ (by omega) (by omega) hm HN.out HI.out).mono ?_
  rintro e w1 ⟨r, rfl, hr, hb⟩
  have HB1 := Lib.hid hb
  clear hb hm
  rcases hr with rfl | ⟨r0, hr⟩
  · go_wp2
    go_ret
    exact ⟨rfl, HB1.out⟩
  have HRR := Lib.hid hr
  have r1 : r ≤ 1048576 := by omega
  clear hr
  go_wp2_with fail
  refine (szWriteS_any b m cap' r vs _ r0 r1 hm' HM.out (HJ.out.below HB1.out)).mono ?_
  rintro e w2 ⟨r', rfl, hr, hb⟩
  have HB2 : Hid (Below w.heap.size w w2) := below_step HB1.out HB1.out.size hb
  clear hb hm' HB1
  rcases hr with rfl | ⟨r0', hr⟩
  · go_wp2
    go_ret
    exact ⟨rfl, HB2.out⟩
  have hnm : n + m ≤ 1048576 := by have := HRR.out; omega
  have hbu : bulk us ≤ 1048576 := by have := HRR.out; omega
  have hbv : bulk vs ≤ 1048576 := by have := HRR.out; omega
  have HF : Hid (Few us) := few_of_bulk hbu
  have HG : Hid (Few vs) := few_of_bulk hbv
  have HX : Hid (∀ i, i < n → (us.getD i wz).xs.length ≤ 1048576) := fun i h => HF.out i (by rw [HN.out]; exact h)
  have HY : Hid (∀ i, i < m → (vs.getD i wz).xs.length ≤ 1048576) := fun i h => HG.out i (by rw [HM.out]; exact h)
  have hn : n ≤ 1048576 := by omega
  have hm : m ≤ 1048576 := by omega
  clear hr HRR
  go_wp2_with fail
  refine (toWriteS_any a n cap us _ hn HN.out HX.out (HI.out.below HB2.out)).mono ?_
  rintro e w3 ⟨γ3, rfl, hO3, hb⟩
  have HB3 : Hid (Below w.heap.size w w3) := below_step HB2.out HB2.out.size hb
  have HO3 := Lib.hid hO3
  clear hb hO3 HB2
  go_wp2_with fail
  refine (toWriteS_any b m cap' vs _ hm HM.out HY.out (HJ.out.below HB3.out)).mono ?_
  rintro e w4 ⟨γ4, rfl, hO4, hb⟩
  have HB4 : Hid (Below w.heap.size w w4) := below_step HB3.out HB3.out.size hb
  have HO34 := Lib.hid (HO3.out.below hb)
  have HO4 := Lib.hid hO4
  clear hb hO4 HB3 HO3
  go_wp2_with fail
  refine (specWithin_any _ _ n m n m us vs γ3 γ4 _ HN.out HM.out hnm HF.out HG.out HO34.out.holds HO4.out.holds).mono ?_
  rintro e w5 ⟨rfl, hb⟩
  have HB5 : Hid (Below w.heap.size w w5) := below_step HB4.out HB4.out.size hb
  clear hb HB4 HO34 HO4
  go_wp2_with fail
  refine (toWriteS_any a n cap us _ hn HN.out HX.out (HI.out.below HB5.out)).mono ?_
  rintro e w6 ⟨γ6, rfl, hO6, hb⟩
  have HB6 : Hid (Below w.heap.size w w6) := below_step HB5.out HB5.out.size hb
  have HO6 : Hid (IsWs w6 (some ⟨w5.heap.size, 0, none⟩) us) := hO6.holds.isWs HF.out
  clear hb hO6 HB5
  go_wp2_with fail
  refine (toWriteS_any b m cap' vs _ hm HM.out HY.out (HJ.out.below HB6.out)).mono ?_
  rintro e w7 ⟨γ7, rfl, hO7, hb⟩
  have HB7 : Hid (Below w.heap.size w w7) := below_step HB6.out HB6.out.size hb
  have HO67 := Lib.hid (HO6.out.below hb)
  have HO7 : Hid (IsWs w7 (some ⟨w6.heap.size, 0, none⟩) vs) := hO7.holds.isWs HG.out
  clear hb hO7 HO6 HB6
  go_wp2_with fail
  refine (implWithin_any _ _ n m n m us vs _ HN.out HM.out hn hm HF.out HG.out HO67.out HO7.out).mono ?_
  rintro e w8 ⟨rfl, hb⟩
  have HB8 : Hid (Below w.heap.size w w8) := below_step HB7.out HB7.out.size hb
  have HO68 := Lib.hid (HO67.out.below hb)
  have HO78 := Lib.hid (HO7.out.below hb)
  clear hb HO67 HO7 HB7
  go_wp2_with fail
  refine (toWriteS_any a n cap us _ hn HN.out HX.out (HI.out.below HB8.out)).mono ?_
  rintro e w10 ⟨γ10, rfl, hO10, hb⟩
  have HB10 : Hid (Below w.heap.size w w10) := below_step HB8.out HB8.out.size hb
  have HO610 := Lib.hid (HO68.out.below hb)
  have HO710 := Lib.hid (HO78.out.below hb)
  have HO10 : Hid (IsWs w10 (some ⟨w8.heap.size, 0, none⟩) us) := hO10.holds.isWs HF.out
  clear hb hO10 HB8 HO68 HO78
  go_wp2_with fail
  refine (eqWriteS_gen _ _ n n n us _ HN.out hn HF.out HO610.out HO10.out).mono ?_
  rintro e w11 ⟨rfl, hb⟩
  have HB11 : Hid (Below w.heap.size w w11) := below_step HB10.out HB10.out.size hb
  have HO711 := Lib.hid (HO710.out.below hb)
  clear hb HB10 HO610 HO710 HO10
  go_wp2_with fail
  refine (toWriteS_any b m cap' vs _ hm HM.out HY.out (HJ.out.below HB11.out)).mono ?_
  rintro e w12 ⟨γ12, rfl, hO12, hb⟩
  have HB12 : Hid (Below w.heap.size w w12) := below_step HB11.out HB11.out.size hb
  have HO712 := Lib.hid (HO711.out.below hb)
  have HO12 : Hid (IsWs w12 (some ⟨w11.heap.size, 0, none⟩) vs) := hO12.holds.isWs HG.out
  clear hb hO12 HB11 HO711
  go_wp2_with fail
  refine (eqWriteS_gen _ _ m m m vs _ HM.out hm HG.out HO712.out HO12.out).mono ?_
  rintro e w13 ⟨rfl, hb⟩
  have HB13 : Hid (Below w.heap.size w w13) := below_step HB12.out HB12.out.size hb
  clear hb
  go_wp2
  go_ret
  exact ⟨rfl, HB13.out⟩

set_option maxRecDepth 100000 in
theorem lifted (os : Os) (started : os.Started) (H : Type) (enc : TypeId × Value → H) :
    ReturnsInHanded {} Try.checked os 8 .any (Rows.fnExactWithinSpec.pre6 enc Try.prog Try.f8 Rows.fnExactWithinRow.domain false) (Rows.fnExactWithinSpec.post enc Try.prog Try.f8 false true false false) := by
  refine returnsInHanded_of_change (C := Try.checked) own started (by kernel_rfl) Try.func8
    (ChangeSpec.witness6 (enc := enc) (C := Try.checked) false ⟨#[], #[.slice none 0 0, .slice none 0 0], []⟩ 8 (by kernel_rfl) (by kernel_rfl) (by kernel_rfl) (by kernel_rfl)) ?_
  intro W base args ds gs before hval0 hW hcnd _
  have hval : ∀ (j : Nat) t v, Try.f8.params[j]? = some t → args[j]? = some v → Value.okWide Try.prog W .any base t v := hval0
  have hW' := hW
  obtain ⟨p, q, hA0, hV, rfl, hfz, hnd⟩ := hW
  have hA : DataW.TrodAll enc Try.prog W 0 (fun _ => true) true Try.f8.params.toList args.toList ds p := hA0
  rw [Try.params8] at hA hval
  obtain ⟨v0, v1, d0, d1, p0, p1, rfl, rfl, rfl, h0, h1⟩ := trodAll_two hA
  have k0 := h0
  have lt0 : ∀ x ∈ p0, x.block < W.heap.size := by obtain ⟨m, hm⟩ := k0; exact DataW.trod_lt m _ _ _ hm
  have k1 := h1
  have lt1 : ∀ x ∈ p1, x.block < W.heap.size := by obtain ⟨m, hm⟩ := k1; exact DataW.trod_lt m _ _ _ hm
  obtain ⟨rfl, rfl⟩ := trodVars_none hV
  obtain ⟨a0, len0, cap0, xs0, hv0, hr0⟩ := open_ws (hval 0 22 v0 rfl rfl) h0
  subst hv0
  obtain ⟨a1, len1, cap1, xs1, hv1, hr1⟩ := open_ws (hval 1 22 v1 rfl rfl) h1
  subst hv1
  clear hA0 hval0
  refine (walk a0 len0 cap0 xs0 a1 len1 cap1 xs1 W hr0 hr1).mono fun e W' ⟨he, bel⟩ => ?_
  subst he
  exact ⟨_, rfl, _, _, _, [], _, [], hW', trodAll_mk1 (shut_bool Try.underlying4 _), (trodAll_mk2 (Below.trod laidOut (by kernel_rfl) (of_decide_eq_true (by kernel_rfl)) k0 bel lt0) (Below.trod laidOut (by kernel_rfl) (of_decide_eq_true (by kernel_rfl)) k1 bel lt1)), rfl, bel.frame _, fun h => by cases h⟩

theorem over : Rows.fnExactWithinRow.holds Try.pinned (OpenSpec.ofChange Rows.fnExactWithinSpec) :=
  OpenClaim.holds_of_wide 8 Try.f8 rfl rfl rfl rfl rfl rfl rfl ⟨rfl, rfl, rfl, rfl, rfl⟩ rfl rfl rfl rfl rfl (by kernel_rfl) Try.func8 (by kernel_rfl)
    (of_decide_eq_true (by kernel_rfl)) (by unfold Func.isWrapper; rw [if_neg (by decide +kernel)]; exact ⟨rfl, rfl⟩)
    (fun os started H enc _ => lifted os started H enc)

end Go.Proofs.Ytidpcjcnhklmpai.lawWithin
namespace Go.Proofs.Ytidpcjcnhklmpai
theorem fnExactWithin_holds : Rows.FnExactWithinSaid := lawWithin.over
#print axioms fnExactWithin_holds
end Go.Proofs.Ytidpcjcnhklmpai
