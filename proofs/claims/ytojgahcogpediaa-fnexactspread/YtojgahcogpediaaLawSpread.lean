/- At every group the law FnExactSpread answers true: impl.Spread answers as spec.Spread, leaves the group as it was, and its answer owns its memory. No conditions. -/
import Derived.Test.YtojgahcogpediaaPack10
import Derived.Test.YtojgahcogpediaaPack11
import Derived.Test.YtojgahcogpediaaPack9
namespace Go.Proofs.Ytojgahcogpediaa.lawSpread
open Go.ChangeShapes Go.WideShapes Go.ChangeAt Go.RowKit Go.Joins
attribute [local go_sem ↓] Go.wp_at_zero Go.wp_at_succ

abbrev GBox (W0 : World) (b : Nat) (v0 v1 : Value) (W : World) : Prop := W.cell? ⟨b, 0, none⟩ = some v0 ∧ W.cell? ⟨b, 1, none⟩ = some v1 ∧ b < W.heap.size ∧ Below W0.heap.size W0 W

abbrev TwoG (W0 : World) (b b2 : Nat) (v0 v1 u0 u1 : Value) (W : World) : Prop := W.cell? ⟨b, 0, none⟩ = some v0 ∧ W.cell? ⟨b, 1, none⟩ = some v1 ∧ W.cell? ⟨b2, 0, none⟩ = some u0 ∧ W.cell? ⟨b2, 1, none⟩ = some u1 ∧ b < W.heap.size ∧ b2 < W.heap.size ∧ Below W0.heap.size W0 W

theorem two_step {W0 W W' : World} {b b2 : Nat} {v0 v1 u0 u1 : Value} (h : TwoG W0 b b2 v0 v1 u0 u1 W) (hb : Below W.heap.size W W') : TwoG W0 b b2 v0 v1 u0 u1 W' := by
  obtain ⟨h0, h1, h2, h3, h4, h5, h6⟩ := h
  exact ⟨held_cell hb h0 h4, held_cell hb h1 h4, held_cell hb h2 h5, held_cell hb h3 h5, Nat.lt_of_lt_of_le h4 hb.size, Nat.lt_of_lt_of_le h5 hb.size, below_step h6 h6.size hb⟩

theorem spread_mapOk (bs : List (List Wr)) (hs : List Hn) : mapOkB (spreadL bs hs) = true := by
  unfold spreadL
  by_cases h : groupOkB bs hs = true
  · rw [if_pos h]
    obtain ⟨h1, h2, -⟩ := join_spec (allG bs hs) [] (by simp [Rise])
    refine (mapOk_iff _).2 ⟨fun x hx => ?_, h1⟩
    rcases h2 x hx with h3 | h3
    · cases h3
    · unfold groupOkB at h
      simp only [Bool.and_eq_true, List.all_eq_true] at h
      rcases List.mem_append.1 h3 with h4 | h4
      · obtain ⟨b, hb, h5⟩ := List.mem_flatten.1 h4
        exact ((mapOk_iff b).1 (h.1.2 b hb)).1 x h5
      · obtain ⟨y, hy, rfl⟩ := List.mem_map.1 h4
        have h6 := h.2 y hy
        unfold hintOkB at h6
        simp only [Bool.and_eq_true] at h6
        exact h6.2
  · rw [if_neg h]
    exact (mapOk_iff _).2 ⟨fun x hx => (by cases hx), by simp [Rise]⟩

set_option maxRecDepth 100000 in
set_option maxHeartbeats 16000000 in
theorem walk (am : Option Addr) (m cm : Nat) (ah : Option Addr) (n cn : Nat) (bs : List (List Wr)) (hs : List Hn) (w : World) (hr : GroupIn w am m ah n bs hs) :
    Calls Try.prog 5 #[gpV am m cm ah n cn] w fun e w' => e = .returned (.bool true) ∧ Below w.heap.size w w' := by
  obtain ⟨⟨hm, hmm, hml, hb⟩, hn, hnn, hh⟩ := hr
  have HBS := Lib.hid hb
  have HHS := Lib.hid hh
  have HM := Lib.hid hm
  have HN := Lib.hid hn
  have HML := Lib.hid hml
  have HA : Hid (Below w.heap.size w (w.alloc (.cells #[.slice am m cm, .slice ah n cn] 25))) := (Below.refl _ _).alloc (Nat.le_refl _) _
  have HX : Hid ((w.alloc (.cells #[.slice am m cm, .slice ah n cn] 25)).heap[w.heap.size]? = some (.cells #[.slice am m cm, .slice ah n cn] 25 (0, 0))) := heap_alloc_new _ _
  have HSZ : Hid ((w.alloc (.cells #[.slice am m cm, .slice ah n cn] 25)).heap.size = w.heap.size + 1) := by show _ = _; simp
  clear hb hh hm hn hml
  go_enter Try.func5, Try.ntmps5
  go_wp2_with fail
  refine (szGroup_any am m cm ah n cn bs hs _ HM.out hmm HML.out (HBS.out.below HA.out) HN.out hnn (HHS.out.below HA.out)).mono ?_
  rintro e w1 ⟨r, rfl, hr, hb⟩
  have HB1 := Lib.hid (below_step HA.out HA.out.size hb)
  have HQ1 : Hid (w1.heap[w.heap.size]? = some (.cells #[.slice am m cm, .slice ah n cn] 25 (0, 0))) := (hb.block w.heap.size (by rw [HSZ.out]; omega)).trans HX.out
  have hlt : w.heap.size < w1.heap.size := by have := hb.size; rw [HSZ.out] at this; omega
  clear hb HA HX HSZ hmm hnn
  rcases hr with rfl | ⟨r0, hr⟩
  · go_wp2
    go_ret
    exact ⟨rfl, HB1.out⟩
  have hmm : m ≤ 1048576 := by omega
  have hnn : n ≤ 1048576 := by omega
  have HFB : Hid (FewB bs) := few_heft (by omega)
  have HFH : Hid (FewH hs) := fewH_bulk (by omega)
  have HHE : Hid (heftB bs + n ≤ 1048576) := Lib.hid (by omega)
  have HHB : Hid (heftB bs ≤ 1048576) := Lib.hid (by omega)
  have HBK : Hid (bulk (hnW hs) ≤ 1048576) := Lib.hid (by omega)
  clear hr
  obtain ⟨ds, hds⟩ : ∃ ds, spreadL bs hs = ds := ⟨_, rfl⟩
  obtain ⟨L, hL⟩ : ∃ L, ds.length = L := ⟨_, rfl⟩
  have HZ := Lib.hid hds
  have HLN := Lib.hid hL
  have hbk : bulk ds ≤ 1048576 := by have := mapOk_bulk (spread_mapOk bs hs); rw [hds] at this; omega
  have hLn : L ≤ 1048576 := by have := mapOk_len (spread_mapOk bs hs); rw [hds, hL] at this; omega
  have HDF : Hid (Few ds) := few_of_bulk hbk
  clear hds hL
  have c0 := cell_of_row w1 w.heap.size 0 _ _ _ HQ1.out
  have c1 := cell_of_row w1 w.heap.size 1 _ _ _ HQ1.out
  simp at c0 c1
  go_wp2_with fail
  refine (toGroup_any am m cm ah n cn bs hs _ HM.out hmm HFB.out (HBS.out.below HB1.out) HN.out hnn HFH.out (HHS.out.below HB1.out)).mono ?_
  rintro e w2 ⟨bm, bh, es, ks, rfl, hes, hks, hO, hb⟩
  have HB2 := Lib.hid (below_step HB1.out HB1.out.size hb)
  have HP2 := Lib.hid (hO.isBs hes HFB.out)
  have HR2 := Lib.hid (hO.isHs hks HFH.out)
  have HQ2 := Lib.hid ((hb.block w.heap.size hlt).trans HQ1.out)
  have hlt2 : w.heap.size < w2.heap.size := Nat.lt_of_lt_of_le hlt hb.size
  clear hb hO hes hks HB1 HQ1 hlt c0 c1
  go_wp2_with fail
  refine (specSpread_any _ m m _ n n bs hs _ HM.out hmm HHE.out HFB.out HP2.out HN.out hnn HFH.out HR2.out).mono ?_
  rintro e w3 ⟨gd, cs, gs3, L3, rfl, hl3, hgx, hgr, hb⟩
  rw [HZ.out] at hgx
  obtain rfl : L3 = L := by rw [← hl3, ← HLN.out, ← hgx, List.length_map]
  have HD : Hid (IsWs w3 (some ⟨gd, 0, none⟩) ds) := hgr.isWs hgx HDF.out
  have HB3 := Lib.hid (below_step HB2.out HB2.out.size hb)
  have HQ3 := Lib.hid ((hb.block w.heap.size hlt2).trans HQ2.out)
  have hlt3 : w.heap.size < w3.heap.size := Nat.lt_of_lt_of_le hlt2 hb.size
  have hw3 : w.heap.size ≤ w3.heap.size := Nat.le_of_lt hlt3
  clear hb HB2 HQ2 hlt2 HP2 HR2 hgx hgr hl3
  have c0 := cell_of_row w3 w.heap.size 0 _ _ _ HQ3.out
  have c1 := cell_of_row w3 w.heap.size 1 _ _ _ HQ3.out
  simp at c0 c1
  go_wp2_with fail
  refine (toGroup_any am m cm ah n cn bs hs _ HM.out hmm HFB.out (HBS.out.below HB3.out) HN.out hnn HFH.out (HHS.out.below HB3.out)).mono ?_
  rintro e w4 ⟨bm4, bh4, es4, ks4, rfl, hes, hks, hO, hb⟩
  have HS4 : Hid (Below w3.heap.size w3 w4) := hb
  have hs34 : w3.heap.size ≤ w4.heap.size := hb.size
  have HX4 := Lib.hid hO
  have HES := Lib.hid hes
  have HKS := Lib.hid hks
  have hel : es4.length = m := by rw [← HM.out, ← hes]; simp [batsOf]
  have hkl : ks4.length = n := by rw [← HN.out, ← hks]; simp [hnsOf]
  have HHM : Hid (heftB (batsOf es4) ≤ 1048576) := by rw [hes]; exact HHB
  have HKM : Hid (bulk (hnW (hnsOf ks4)) ≤ 1048576) := by rw [hks]; exact HBK
  clear hb hO hes hks c0 c1
  have HA : Hid (Below w4.heap.size w4 (w4.alloc (.cells #[.slice (some ⟨bm4, 0, none⟩) m m, .slice (some ⟨bh4, 0, none⟩) n n] 31))) := (Below.refl _ _).alloc (Nat.le_refl _) _
  have HX : Hid ((w4.alloc (.cells #[.slice (some ⟨bm4, 0, none⟩) m m, .slice (some ⟨bh4, 0, none⟩) n n] 31)).heap[w4.heap.size]? = some (.cells #[.slice (some ⟨bm4, 0, none⟩) m m, .slice (some ⟨bh4, 0, none⟩) n n] 31 (0, 0))) := heap_alloc_new _ _
  have HSZ : Hid ((w4.alloc (.cells #[.slice (some ⟨bm4, 0, none⟩) m m, .slice (some ⟨bh4, 0, none⟩) n n] 31)).heap.size = w4.heap.size + 1) := by show _ = _; simp
  go_wp2_with fail
  refine (implSpread_any _ m m _ n n bs hs _ HM.out hmm HHB.out HFB.out ((HX4.out.isBs HES.out HFB.out).below HA.out) HN.out hnn HFH.out ((HX4.out.isHs HKS.out HFH.out).below HA.out)).mono ?_
  rintro e w5 ⟨v5, es5, rfl, hes5, hrow, hb⟩
  rw [HZ.out] at hes5
  obtain ⟨ag, cg, L5, rfl, hl5, hg⟩ := (hrow.mono (base' := w4.heap.size) (by rw [HSZ.out]; omega)).ownA hes5
  obtain rfl : L5 = L3 := hl5.symm.trans HLN.out
  have hbb := Lib.hid (below_step HA.out HA.out.size hb)
  have HS5 : Hid (Below w3.heap.size w3 w5) := below_step HS4.out HS4.out.size hbb.out
  have HY5 : Hid (w5.heap[w4.heap.size]? = some (.cells #[.slice (some ⟨bm4, 0, none⟩) m m, .slice (some ⟨bh4, 0, none⟩) n n] 31 (0, 0))) := (hb.block w4.heap.size (by rw [HSZ.out]; omega)).trans HX.out
  have hlt5 : w4.heap.size < w5.heap.size := by have := hb.size; rw [HSZ.out] at this; omega
  have HX5 := Lib.hid (HX4.out.below hbb.out)
  have HG5 := Lib.hid hg
  clear hb hbb HA HX HSZ HS4 HX4 hrow hg hes5 hl5
  generalize gammaG es5 = γg at *
  go_wp2_with fail
  refine (eqWriteS_gen _ _ L5 _ _ ds _ HLN.out hLn HDF.out (HG5.out.isWs HDF.out) (HD.out.below HS5.out)).mono ?_
  rintro e w6 ⟨rfl, hb⟩
  have HS6 : Hid (Below w3.heap.size w3 w6) := below_step HS5.out HS5.out.size hb
  have HB6 : Hid (Below w.heap.size w w6) := HB3.out.trans (HS6.out.mono hw3)
  have HX6 := Lib.hid (HX5.out.below hb)
  have HG6 := Lib.hid (HG5.out.below hb)
  have HP6 := Lib.hid (HX6.out.isBs HES.out HFB.out)
  have HR6 := Lib.hid (HX6.out.isHs HKS.out HFH.out)
  have HQ6 := Lib.hid ((HS6.out.block w.heap.size hlt3).trans HQ3.out)
  have HY6 := Lib.hid ((hb.block w4.heap.size hlt5).trans HY5.out)
  have hlt6 : w4.heap.size < w6.heap.size := Nat.lt_of_lt_of_le hlt5 hb.size
  have h56 : w5.heap.size ≤ w6.heap.size := hb.size
  clear hb HS5 HX5 HG5 HY5
  have c0 := cell_of_row w6 w.heap.size 0 _ _ _ HQ6.out
  have c1 := cell_of_row w6 w.heap.size 1 _ _ _ HQ6.out
  have d0 := cell_of_row w6 w4.heap.size 0 _ _ _ HY6.out
  have d1 := cell_of_row w6 w4.heap.size 1 _ _ _ HY6.out
  simp at c0 c1 d0 d1
  have HTW : Hid (TwoG w6 w.heap.size w4.heap.size (.slice am m cm) (.slice ah n cn) (.slice (some ⟨bm4, 0, none⟩) m m) (.slice (some ⟨bh4, 0, none⟩) n n) w6.drew) := two_step ⟨c0, c1, d0, d1, by omega, hlt6, Below.refl _ _⟩ (Below.refl _ _).drew
  clear c0 c1 d0 d1
  go_wp2_with fail
  go_region_held3 (fun w' => w'.cell? ⟨w.heap.size, 0, none⟩ = some (.slice am m cm) ∧ w'.cell? ⟨w.heap.size, 1, none⟩ = some (.slice ah n cn) ∧ w'.cell? ⟨w4.heap.size, 0, none⟩ = some (.slice (some ⟨bm4, 0, none⟩) m m) ∧ w'.cell? ⟨w4.heap.size, 1, none⟩ = some (.slice (some ⟨bh4, 0, none⟩) n n) ∧ w.heap.size < w'.heap.size ∧ w4.heap.size < w'.heap.size ∧ Below w6.heap.size w6 w')
    (first | assumption | exact HTW.out | exact two_step (by assumption) hb7 | exact two_step (by assumption) hb8)
    (first | (go_at_call 9; refine (toGroup_any am m cm ah n cn bs hs _ HM.out hmm HFB.out (HBS.out.below HB6.out.drew) HN.out hnn HFH.out (HHS.out.below HB6.out.drew)).mono ?_; rintro e w7 ⟨bm7, bh7, es7, ks7, rfl, hes7, hks7, hO7, hb7⟩) | (go_at_call 11; refine (eqGroup_same _ m _ _ n _ _ _ _ _ bs hs _ HM.out hmm HFB.out ((show IsBs w6.drew _ bs from HP6.out).below hb7) (hO7.isBs hes7 HFB.out) HN.out hnn HFH.out ((show IsHs w6.drew _ hs from HR6.out).below hb7) (hO7.isHs hks7 HFH.out)).mono ?_; rintro e w8 ⟨rfl, hb8⟩))
  have hpp := ‹_ ∧ _›
  have hbl : Below w6.heap.size w6 w8 := hpp.2.2.2.2.2.2
  have HS8 : Hid (Below w3.heap.size w3 w8) := below_step HS6.out HS6.out.size hbl
  have HX8 := Lib.hid (HX6.out.below hbl)
  have HG8 := Lib.hid (HG6.out.below hbl)
  have HY8 := Lib.hid ((hbl.block w4.heap.size hlt6).trans HY6.out)
  have h68 : w6.heap.size ≤ w8.heap.size := hbl.size
  clear hpp hbl hb7 hb8 hO7 hes7 hks7 HTW HS6 HB6 HX6 HG6 HP6 HR6 HQ6 HY6
  have c0 := cell_of_row w8 w4.heap.size 0 _ _ _ HY8.out
  have c1 := cell_of_row w8 w4.heap.size 1 _ _ _ HY8.out
  simp at c0 c1
  go_wp2_with fail
  refine (markGroup_own w3.heap.size w4.heap.size _ m m _ n n es4 ks4 _ hel hmm HHM.out hkl hnn HKM.out (by omega) HX8.out).mono ?_
  rintro e w9 ⟨k, wm, rfl, k0, hbm, ho⟩
  have hbl : Below w3.heap.size wm w9 := ho.below fun x hx => hx.1
  have HSm := below_step HS8.out HS8.out.size hbm
  have HS9 : Hid (Below w3.heap.size w3 w9) := HSm.trans hbl
  have HG9 := Lib.hid ((HG8.out.below hbm).only ho fun x hx => hx.2)
  clear hbl ho hbm HSm HS8 HX8 HG8 HY8 c0 c1
  go_wp2_with fail
  refine (eqWriteS_gen _ _ L5 _ _ ds _ HLN.out hLn HDF.out (HG9.out.isWs HDF.out) (HD.out.below HS9.out)).mono ?_
  rintro e w10 ⟨rfl, hb⟩
  have HS10 : Hid (Below w3.heap.size w3 w10) := below_step HS9.out HS9.out.size hb
  have HG10 := Lib.hid (HG9.out.below hb)
  clear hb HS9 HG9
  go_wp2_with fail
  refine (markWriteS_all _ _ L5 _ _ 1 ds γg _ HLN.out hLn hbk (by omega) (by omega) HG10.out).mono ?_
  rintro e w11 ⟨rfl, hmk, ho⟩
  have hbl : Below w4.heap.size w10 w11 := ho.below fun x hx => hx.1
  have HS11 : Hid (Below w3.heap.size w3 w11) := HS10.out.trans (hbl.mono hs34)
  have HM11 := Lib.hid hmk
  have k3 : 0 ≤ markK ds 1 L5 := by
    unfold markK
    omega
  clear hbl ho hmk HS10 HG10
  go_wp2_with fail
  refine (heldWriteS_all L5 _ _ 1 ds γg _ HLN.out hLn hbk (by omega) (by omega) HM11.out).mono ?_
  rintro e w12 ⟨rfl, hw⟩
  subst w12
  have HB11 : Hid (Below w.heap.size w w11) := HB3.out.trans (HS11.out.mono hw3)
  have HQ11 := Lib.hid ((HS11.out.block w.heap.size hlt3).trans HQ3.out)
  have c0 := cell_of_row w11 w.heap.size 0 _ _ _ HQ11.out
  have c1 := cell_of_row w11 w.heap.size 1 _ _ _ HQ11.out
  simp at c0 c1
  go_wp2_with fail
  refine (toGroup_any am m cm ah n cn bs hs _ HM.out hmm HFB.out (HBS.out.below HB11.out) HN.out hnn HFH.out (HHS.out.below HB11.out)).mono ?_
  rintro e w12 ⟨bm12, bh12, es12, ks12, rfl, hes, hks, hO, hb⟩
  have HS12 : Hid (Below w3.heap.size w3 w12) := below_step HS11.out HS11.out.size hb
  have HM12 := Lib.hid (HM11.out.below hb)
  have HP12 := Lib.hid (hO.isBs hes HFB.out)
  have HR12 := Lib.hid (hO.isHs hks HFH.out)
  clear hb hO hes hks HS11 HM11 HB11 HQ11 c0 c1
  go_wp2_with fail
  refine (implSpread_any _ m m _ n n bs hs _ HM.out hmm HHB.out HFB.out HP12.out HN.out hnn HFH.out HR12.out).mono ?_
  rintro e w13 ⟨v13, es13, rfl, hes, hrow, hb⟩
  rw [HZ.out] at hes
  obtain ⟨ah3, ch3, L13, rfl, hl13, hh3⟩ := hrow.ownA hes
  obtain rfl : L13 = L5 := hl13.symm.trans HLN.out
  have HH := Lib.hid (hh3.isWs HDF.out)
  have HS13 : Hid (Below w3.heap.size w3 w13) := below_step HS12.out HS12.out.size hb
  have HM13 := Lib.hid (HM12.out.below hb)
  clear hb HS12 HM12 hrow hh3 HP12 HR12 hes hl13
  go_wp2_with fail
  refine (eqWriteS_gen _ _ L13 _ _ ds _ HLN.out hLn HDF.out HH.out (HD.out.below HS13.out)).mono ?_
  rintro e w14 ⟨rfl, hb⟩
  have HS14 : Hid (Below w3.heap.size w3 w14) := below_step HS13.out HS13.out.size hb
  have HM14 := Lib.hid (HM13.out.below hb)
  clear hb HS13 HM13 HH
  go_wp2_with fail
  refine (heldWriteS_all L13 _ _ 1 ds γg _ HLN.out hLn hbk (by omega) (by omega) HM14.out).mono ?_
  rintro e w15 ⟨rfl, hw⟩
  subst w15
  have HBE : Hid (Below w.heap.size w w14) := HB3.out.trans (HS14.out.mono hw3)
  go_wp2
  go_ret
  exact ⟨rfl, HBE.out⟩

set_option maxRecDepth 100000 in
theorem lifted (os : Os) (started : os.Started) (H : Type) (enc : TypeId × Value → H) :
    ReturnsInHanded {} Try.checked os 5 .any (Rows.fnExactSpreadSpec.pre6 enc Try.prog Try.f5 Rows.fnExactSpreadRow.domain false) (Rows.fnExactSpreadSpec.post enc Try.prog Try.f5 false true false false) := by
  refine returnsInHanded_of_change (C := Try.checked) own started (by kernel_rfl) Try.func5
    (ChangeSpec.witness6 (enc := enc) (C := Try.checked) false ⟨#[], #[.agg #[.slice none 0 0, .slice none 0 0]], []⟩ 8 (by kernel_rfl) (by kernel_rfl) (by kernel_rfl) (by kernel_rfl)) ?_
  intro W base args ds gs before hval0 hW hcnd _
  have hval : ∀ (j : Nat) t v, Try.f5.params[j]? = some t → args[j]? = some v → Value.okWide Try.prog W .any base t v := hval0
  have hW' := hW
  obtain ⟨p, q, hA0, hV, rfl, hfz, hnd⟩ := hW
  have hA : DataW.TrodAll enc Try.prog W 0 (fun _ => true) true Try.f5.params.toList args.toList ds p := hA0
  rw [Try.params5] at hA hval
  obtain ⟨v0, d0, rfl, rfl, h0⟩ := trodAll_one hA
  have k0 := h0
  have lt0 : ∀ x ∈ p, x.block < W.heap.size := by obtain ⟨m, hm⟩ := k0; exact DataW.trod_lt m _ _ _ hm
  obtain ⟨rfl, rfl⟩ := trodVars_none hV
  obtain ⟨am0, m0, cm0, ah0, n0, cn0, bs0, hs0, hv0, hr0⟩ := open_group (hval 0 25 v0 rfl rfl) h0
  subst hv0
  clear hA0 hval0
  refine (walk am0 m0 cm0 ah0 n0 cn0 bs0 hs0 W hr0).mono fun e W' ⟨he, bel⟩ => ?_
  subst he
  exact ⟨_, rfl, _, _, _, [], _, [], hW', trodAll_mk1 (shut_bool Try.underlying4 _), (trodAll_mk1 (Below.trod laidOut (by kernel_rfl) (of_decide_eq_true (by kernel_rfl)) k0 bel lt0)), rfl, bel.frame _, fun h => by cases h⟩

theorem over : Rows.fnExactSpreadRow.holds Try.pinned (OpenSpec.ofChange Rows.fnExactSpreadSpec) :=
  OpenClaim.holds_of_wide 5 Try.f5 rfl rfl rfl rfl rfl rfl rfl ⟨rfl, rfl, rfl, rfl, rfl⟩ rfl rfl rfl rfl rfl (by kernel_rfl) Try.func5 (by kernel_rfl)
    (of_decide_eq_true (by kernel_rfl)) (by unfold Func.isWrapper; rw [if_neg (by decide +kernel)]; exact ⟨rfl, rfl⟩)
    (fun os started H enc _ => lifted os started H enc)

end Go.Proofs.Ytojgahcogpediaa.lawSpread
namespace Go.Proofs.Ytojgahcogpediaa
theorem fnExactSpread_holds : Rows.FnExactSpreadSaid := lawSpread.over
#print axioms fnExactSpread_holds
end Go.Proofs.Ytojgahcogpediaa
