/- At every group the law FnExactGroupOk answers true: impl.GroupOk answers as spec.GroupOk and leaves the group as it was. No conditions. -/
import Derived.Test.YtojgahcogpediaaPack10
import Derived.Test.YtojgahcogpediaaPack11
namespace Go.Proofs.Ytojgahcogpediaa.lawGroupOk
open Go.ChangeShapes Go.WideShapes Go.ChangeAt Go.RowKit Go.Joins
attribute [local go_sem ↓] Go.wp_at_zero Go.wp_at_succ

abbrev GBox (W0 : World) (b : Nat) (v0 v1 : Value) (W : World) : Prop := W.cell? ⟨b, 0, none⟩ = some v0 ∧ W.cell? ⟨b, 1, none⟩ = some v1 ∧ b < W.heap.size ∧ Below W0.heap.size W0 W

abbrev TwoG (W0 : World) (b b2 : Nat) (v0 v1 u0 u1 : Value) (W : World) : Prop := W.cell? ⟨b, 0, none⟩ = some v0 ∧ W.cell? ⟨b, 1, none⟩ = some v1 ∧ W.cell? ⟨b2, 0, none⟩ = some u0 ∧ W.cell? ⟨b2, 1, none⟩ = some u1 ∧ b < W.heap.size ∧ b2 < W.heap.size ∧ Below W0.heap.size W0 W

theorem two_step {W0 W W' : World} {b b2 : Nat} {v0 v1 u0 u1 : Value} (h : TwoG W0 b b2 v0 v1 u0 u1 W) (hb : Below W.heap.size W W') : TwoG W0 b b2 v0 v1 u0 u1 W' := by
  obtain ⟨h0, h1, h2, h3, h4, h5, h6⟩ := h
  exact ⟨held_cell hb h0 h4, held_cell hb h1 h4, held_cell hb h2 h5, held_cell hb h3 h5, Nat.lt_of_lt_of_le h4 hb.size, Nat.lt_of_lt_of_le h5 hb.size, below_step h6 h6.size hb⟩

set_option maxRecDepth 100000 in
set_option maxHeartbeats 16000000 in
theorem walk (am : Option Addr) (m cm : Nat) (ah : Option Addr) (n cn : Nat) (bs : List (List Wr)) (hs : List Hn) (w : World) (hr : GroupIn w am m ah n bs hs) :
    Calls Try.prog 3 #[gpV am m cm ah n cn] w fun e w' => e = .returned (.bool true) ∧ Below w.heap.size w w' := by
  obtain ⟨⟨hm, hmm, hml, hb⟩, hn, hnn, hh⟩ := hr
  have HBS := Lib.hid hb
  have HHS := Lib.hid hh
  have HM := Lib.hid hm
  have HN := Lib.hid hn
  have HML := Lib.hid hml
  have HA : Hid (Below w.heap.size w (w.alloc (.cells #[.slice am m cm, .slice ah n cn] 25))) := (Below.refl _ _).alloc (Nat.le_refl _) _
  have HX : Hid ((w.alloc (.cells #[.slice am m cm, .slice ah n cn] 25)).heap[w.heap.size]? = some (.cells #[.slice am m cm, .slice ah n cn] 25 (0, 0))) := heap_alloc_new _ _
  have HSZ : Hid ((w.alloc (.cells #[.slice am m cm, .slice ah n cn] 25)).heap.size = w.heap.size + 1) := by show _ = _; simp
  clear hb hh hm hn hml
  go_enter Try.func3, Try.ntmps3
  go_wp2_with fail
  refine (szGroup_any am m cm ah n cn bs hs _ HM.out hmm HML.out (HBS.out.below HA.out) HN.out hnn (HHS.out.below HA.out)).mono ?_
  rintro e w1 ⟨r, rfl, hr, hb⟩
  have HB1 := Lib.hid (below_step HA.out HA.out.size hb)
  have HQ1 : Hid (w1.heap[w.heap.size]? = some (.cells #[.slice am m cm, .slice ah n cn] 25 (0, 0))) := (hb.block w.heap.size (by rw [HSZ.out]; omega)).trans HX.out
  have hlt : w.heap.size < w1.heap.size := by have := hb.size; rw [HSZ.out] at this; omega
  clear hb HA HX HSZ hmm hnn
  rcases hr with rfl | ⟨r0, hr⟩
  · go_wp2
    go_ret
    exact ⟨rfl, HB1.out⟩
  have hmm : m ≤ 1048576 := by omega
  have hnn : n ≤ 1048576 := by omega
  have HFB : Hid (FewB bs) := few_heft (by omega)
  have HFH : Hid (FewH hs) := fewH_bulk (by omega)
  clear hr
  have c0 := cell_of_row w1 w.heap.size 0 _ _ _ HQ1.out
  have c1 := cell_of_row w1 w.heap.size 1 _ _ _ HQ1.out
  simp at c0 c1
  go_wp2_with fail
  refine (toGroup_any am m cm ah n cn bs hs _ HM.out hmm HFB.out (HBS.out.below HB1.out) HN.out hnn HFH.out (HHS.out.below HB1.out)).mono ?_
  rintro e w2 ⟨bm, bh, es, ks, rfl, hes, hks, hO, hb⟩
  have HB2 := Lib.hid (below_step HB1.out HB1.out.size hb)
  have HP2 := Lib.hid (hO.isBs hes HFB.out)
  have HR2 := Lib.hid (hO.isHs hks HFH.out)
  have HQ2 := Lib.hid ((hb.block w.heap.size hlt).trans HQ1.out)
  have hlt2 : w.heap.size < w2.heap.size := Nat.lt_of_lt_of_le hlt hb.size
  clear hb hO hes hks HB1 HQ1 hlt c0 c1
  go_wp2_with fail
  refine (specGroupOk_any _ m m _ n n bs hs _ HM.out hmm HFB.out HP2.out HN.out hnn HFH.out HR2.out).mono ?_
  rintro e w3 ⟨rfl, hb⟩
  have HB3 := Lib.hid (below_step HB2.out HB2.out.size hb)
  have HQ3 := Lib.hid ((hb.block w.heap.size hlt2).trans HQ2.out)
  have hlt3 : w.heap.size < w3.heap.size := Nat.lt_of_lt_of_le hlt2 hb.size
  clear hb HB2 HQ2 hlt2 HP2 HR2
  obtain ⟨t, ht⟩ : ∃ t, groupOkB bs hs = t := ⟨_, rfl⟩
  rw [ht]
  have HT := Lib.hid ht
  clear ht
  have c0 := cell_of_row w3 w.heap.size 0 _ _ _ HQ3.out
  have c1 := cell_of_row w3 w.heap.size 1 _ _ _ HQ3.out
  simp at c0 c1
  go_wp2_with fail
  refine (toGroup_any am m cm ah n cn bs hs _ HM.out hmm HFB.out (HBS.out.below HB3.out) HN.out hnn HFH.out (HHS.out.below HB3.out)).mono ?_
  rintro e w4 ⟨bm4, bh4, es4, ks4, rfl, hes, hks, hO, hb⟩
  have HB4 := Lib.hid (below_step HB3.out HB3.out.size hb)
  have HP4 := Lib.hid (hO.isBs hes HFB.out)
  have HR4 := Lib.hid (hO.isHs hks HFH.out)
  have HQ4 := Lib.hid ((hb.block w.heap.size hlt3).trans HQ3.out)
  have hlt4 : w.heap.size < w4.heap.size := Nat.lt_of_lt_of_le hlt3 hb.size
  clear hb hO hes hks HB3 HQ3 hlt3 c0 c1
  have HA : Hid (Below w4.heap.size w4 (w4.alloc (.cells #[.slice (some ⟨bm4, 0, none⟩) m m, .slice (some ⟨bh4, 0, none⟩) n n] 31))) := (Below.refl _ _).alloc (Nat.le_refl _) _
  have HX : Hid ((w4.alloc (.cells #[.slice (some ⟨bm4, 0, none⟩) m m, .slice (some ⟨bh4, 0, none⟩) n n] 31)).heap[w4.heap.size]? = some (.cells #[.slice (some ⟨bm4, 0, none⟩) m m, .slice (some ⟨bh4, 0, none⟩) n n] 31 (0, 0))) := heap_alloc_new _ _
  have HSZ : Hid ((w4.alloc (.cells #[.slice (some ⟨bm4, 0, none⟩) m m, .slice (some ⟨bh4, 0, none⟩) n n] 31)).heap.size = w4.heap.size + 1) := by show _ = _; simp
  go_wp2_with fail
  refine (implGroupOk_any _ m m _ n n bs hs _ HM.out hmm HFB.out (HP4.out.below HA.out) HN.out hnn HFH.out (HR4.out.below HA.out)).mono ?_
  rintro e w5 ⟨rfl, hb⟩
  rw [HT.out]
  have hbb := Lib.hid (below_step HA.out HA.out.size hb)
  have HB5 := Lib.hid (below_step HB4.out HB4.out.size hbb.out)
  have HQ5 := Lib.hid ((hbb.out.block w.heap.size hlt4).trans HQ4.out)
  have HY5 : Hid (w5.heap[w4.heap.size]? = some (.cells #[.slice (some ⟨bm4, 0, none⟩) m m, .slice (some ⟨bh4, 0, none⟩) n n] 31 (0, 0))) := (hb.block w4.heap.size (by rw [HSZ.out]; omega)).trans HX.out
  have hlt5 : w4.heap.size < w5.heap.size := by have := hb.size; rw [HSZ.out] at this; omega
  have HP5 := Lib.hid (HP4.out.below hbb.out)
  have HR5 := Lib.hid (HR4.out.below hbb.out)
  clear hb hbb HA HX HSZ HB4 HQ4 HP4 HR4
  have c0 := cell_of_row w5 w.heap.size 0 _ _ _ HQ5.out
  have c1 := cell_of_row w5 w.heap.size 1 _ _ _ HQ5.out
  have d0 := cell_of_row w5 w4.heap.size 0 _ _ _ HY5.out
  have d1 := cell_of_row w5 w4.heap.size 1 _ _ _ HY5.out
  simp at c0 c1 d0 d1
  have HTW : Hid (TwoG w5 w.heap.size w4.heap.size (.slice am m cm) (.slice ah n cn) (.slice (some ⟨bm4, 0, none⟩) m m) (.slice (some ⟨bh4, 0, none⟩) n n) w5.drew) := two_step ⟨c0, c1, d0, d1, by omega, hlt5, Below.refl _ _⟩ (Below.refl _ _).drew
  clear c0 c1 d0 d1
  cases t
  all_goals
    go_wp2_with fail
    go_region_held3 (fun w' => w'.cell? ⟨w.heap.size, 0, none⟩ = some (.slice am m cm) ∧ w'.cell? ⟨w.heap.size, 1, none⟩ = some (.slice ah n cn) ∧ w'.cell? ⟨w4.heap.size, 0, none⟩ = some (.slice (some ⟨bm4, 0, none⟩) m m) ∧ w'.cell? ⟨w4.heap.size, 1, none⟩ = some (.slice (some ⟨bh4, 0, none⟩) n n) ∧ w.heap.size < w'.heap.size ∧ w4.heap.size < w'.heap.size ∧ Below w5.heap.size w5 w')
      (first | assumption | exact HTW.out | exact two_step (by assumption) hb6 | exact two_step (by assumption) hb7)
      (first | (go_at_call 9; refine (toGroup_any am m cm ah n cn bs hs _ HM.out hmm HFB.out (HBS.out.below HB5.out.drew) HN.out hnn HFH.out (HHS.out.below HB5.out.drew)).mono ?_; rintro e w6 ⟨bm6, bh6, es6, ks6, rfl, hes6, hks6, hO6, hb6⟩) | (go_at_call 11; refine (eqGroup_same _ m _ _ n _ _ _ _ _ bs hs _ HM.out hmm HFB.out ((show IsBs w5.drew _ bs from HP5.out).below hb6) (hO6.isBs hes6 HFB.out) HN.out hnn HFH.out ((show IsHs w5.drew _ hs from HR5.out).below hb6) (hO6.isHs hks6 HFH.out)).mono ?_; rintro e w7 ⟨rfl, hb7⟩))
    have hpp := ‹_ ∧ _›
    have hbl : Below w5.heap.size w5 w7 := hpp.2.2.2.2.2.2
    have HBE := Lib.hid (below_step HB5.out HB5.out.size hbl)
    clear hpp hbl hb6 hb7 hO6 hes6 hks6 HTW
    go_wp2
    go_ret
    exact ⟨rfl, HBE.out⟩

set_option maxRecDepth 100000 in
theorem lifted (os : Os) (started : os.Started) (H : Type) (enc : TypeId × Value → H) :
    ReturnsInHanded {} Try.checked os 3 .any (Rows.fnExactGroupOkSpec.pre6 enc Try.prog Try.f3 Rows.fnExactGroupOkRow.domain false) (Rows.fnExactGroupOkSpec.post enc Try.prog Try.f3 false true false false) := by
  refine returnsInHanded_of_change (C := Try.checked) own started (by kernel_rfl) Try.func3
    (ChangeSpec.witness6 (enc := enc) (C := Try.checked) false ⟨#[], #[.agg #[.slice none 0 0, .slice none 0 0]], []⟩ 8 (by kernel_rfl) (by kernel_rfl) (by kernel_rfl) (by kernel_rfl)) ?_
  intro W base args ds gs before hval0 hW hcnd _
  have hval : ∀ (j : Nat) t v, Try.f3.params[j]? = some t → args[j]? = some v → Value.okWide Try.prog W .any base t v := hval0
  have hW' := hW
  obtain ⟨p, q, hA0, hV, rfl, hfz, hnd⟩ := hW
  have hA : DataW.TrodAll enc Try.prog W 0 (fun _ => true) true Try.f3.params.toList args.toList ds p := hA0
  rw [Try.params3] at hA hval
  obtain ⟨v0, d0, rfl, rfl, h0⟩ := trodAll_one hA
  have k0 := h0
  have lt0 : ∀ x ∈ p, x.block < W.heap.size := by obtain ⟨m, hm⟩ := k0; exact DataW.trod_lt m _ _ _ hm
  obtain ⟨rfl, rfl⟩ := trodVars_none hV
  obtain ⟨am0, m0, cm0, ah0, n0, cn0, bs0, hs0, hv0, hr0⟩ := open_group (hval 0 25 v0 rfl rfl) h0
  subst hv0
  clear hA0 hval0
  refine (walk am0 m0 cm0 ah0 n0 cn0 bs0 hs0 W hr0).mono fun e W' ⟨he, bel⟩ => ?_
  subst he
  exact ⟨_, rfl, _, _, _, [], _, [], hW', trodAll_mk1 (shut_bool Try.underlying4 _), (trodAll_mk1 (Below.trod laidOut (by kernel_rfl) (of_decide_eq_true (by kernel_rfl)) k0 bel lt0)), rfl, bel.frame _, fun h => by cases h⟩

theorem over : Rows.fnExactGroupOkRow.holds Try.pinned (OpenSpec.ofChange Rows.fnExactGroupOkSpec) :=
  OpenClaim.holds_of_wide 3 Try.f3 rfl rfl rfl rfl rfl rfl rfl ⟨rfl, rfl, rfl, rfl, rfl⟩ rfl rfl rfl rfl rfl (by kernel_rfl) Try.func3 (by kernel_rfl)
    (of_decide_eq_true (by kernel_rfl)) (by unfold Func.isWrapper; rw [if_neg (by decide +kernel)]; exact ⟨rfl, rfl⟩)
    (fun os started H enc _ => lifted os started H enc)

end Go.Proofs.Ytojgahcogpediaa.lawGroupOk
namespace Go.Proofs.Ytojgahcogpediaa
theorem fnExactGroupOk_holds : Rows.FnExactGroupOkSaid := lawGroupOk.over
#print axioms fnExactGroupOk_holds
end Go.Proofs.Ytojgahcogpediaa
