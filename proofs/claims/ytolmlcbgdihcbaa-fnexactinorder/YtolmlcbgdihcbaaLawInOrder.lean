/- FnExactInOrder: the program's InOrder answers as the specification's. -/
import Derived.Test.YtolmlcbgdihcbaaPack9
namespace Go.Proofs.Ytolmlcbgdihcbaa.lawInOrder
open Go.ChangeShapes Go.WideShapes Go.ChangeAt Go.RowKit Go.Joins
attribute [local go_sem ↓] Go.wp_at_zero Go.wp_at_succ

set_option maxRecDepth 100000 in
set_option maxHeartbeats 16000000 in
theorem walk (a : Option Addr) (n cap : Nat) (ps : List Pst) (w : World) (hr : ps.length = n ∧ n ≤ maxLen ∧ IsPs w a ps) :
    Calls Try.prog 8 #[.slice a n cap] w fun e w' => e = .returned (.bool true) ∧ Below w.heap.size w w' := by
  obtain ⟨hl, hm, hi⟩ := hr
  have HI := Lib.hid hi
  have HN := Lib.hid hl
  clear hi hl
  go_enter Try.func8, Try.ntmps8
  go_wp2_with fail
  refine (szPostS_any a n cap 1048576 ps _ (by omega) (by omega) hm HN.out HI.out).mono ?_
  rintro e w1 ⟨r, rfl, hr, hb⟩
  have HB1 := Lib.hid hb
  clear hb hm
  rcases hr with rfl | ⟨r0, hr⟩
  · go_wp2
    go_ret
    exact ⟨rfl, HB1.out⟩
  have hn : n ≤ 1048576 := by omega
  have HBK : Hid (bulkP ps ≤ 1048576) := by
    have : bulkP ps ≤ 1048576 := by omega
    exact Lib.hid this
  have HX : Hid (∀ i, i < n → (ps.getD i pz).xs.length ≤ 1048576) := fun i hi => Nat.le_trans (bulkP_one ps i (by rw [HN.out]; exact hi)) HBK.out
  clear hr
  go_wp2_with fail
  refine (toPostS_any a n cap ps _ hn HN.out HX.out (HI.out.below HB1.out)).mono ?_
  rintro e w2 ⟨γ2, rfl, hO, hb⟩
  have HB2 : Hid (Below w.heap.size w w2) := below_step HB1.out HB1.out.size hb
  have HO2 := Lib.hid hO
  have HP2 : Hid (IsPs w2 (some ⟨w1.heap.size, 0, none⟩) ps) := hO.isPn.isPs fun i hi => by have := HX.out i (by rw [← HN.out]; exact hi); unfold maxLen; omega
  clear hb HB1 hO HO2
  go_wp2_with fail
  refine (specInOrder_any (some ⟨w1.heap.size, 0, none⟩) n n ps _ HN.out hn HX.out HP2.out).mono ?_
  rintro e w3 hans
  obtain ⟨N, hN, hE⟩ : ∃ N, GoC ps N ∧ firstC (runC ps N).2 ps = ps.length := by
    obtain ⟨m, v4, es, gv, cpv, h1, h2, -⟩ := hans
    exact ⟨m, h1, h2⟩
  have HAO : Hid (∀ W e W', OrdAns W ps e W' → AnsO W (outC ps N) (runC ps N).2 e W') := fun W e W' h => ansO_of hN hE h
  have hob := outC_bulk hN
  have hol := outC_len hN
  have HOX : Hid (∀ x ∈ outC ps N, x.xs.length = 4) := outC_four hN
  have HV4 : Hid ((runC ps N).2.length = 4) := runC_four hN
  replace hans := HAO.out _ _ _ hans
  generalize (runC ps N).2 = vv at *
  generalize outC ps N = O at *
  have HOB : Hid (bulkP O ≤ 1048576) := by
    have h1 := HBK.out
    have : bulkP O ≤ 1048576 := by omega
    exact Lib.hid this
  have hLn : O.length ≤ 1048576 := by
    have h1 := HN.out
    omega
  have HOL : Hid (∀ i, i < O.length → (O.getD i pz).xs.length ≤ 1048576) := fun i hi => by
    rw [HOX.out (O.getD i pz) (by simp [List.getD, hi])]
    omega
  clear hob hol hN hE HOX
  obtain ⟨L, hL⟩ : ∃ L, O.length = L := ⟨_, rfl⟩
  have HLO := Lib.hid hL
  unfold AnsO at hans HAO
  rw [hL] at hans hLn HAO HOL
  clear hL
  obtain ⟨as_, cs, gs, cgs, γs, rfl, hsO, hsV, hsg, -, hb⟩ := hans
  have HB3 : Hid (Below w.heap.size w (w3.alloc (.cells #[.slice (some ⟨gs, 0, none⟩) 4 cgs] 27))) := (below_step HB2.out HB2.out.size hb).alloc (by have := HB2.out.size; have := hb.size; omega) _
  have HD : Hid (IsPn (w3.alloc (.cells #[.slice (some ⟨gs, 0, none⟩) 4 cgs] 27)) as_ O) := (hsO.below ((Below.refl _ _).alloc (Nat.le_refl _) _)).isPn
  have HDV : Hid (IsInts (w3.alloc (.cells #[.slice (some ⟨gs, 0, none⟩) 4 cgs] 27)) (some ⟨gs, 0, none⟩) vv) := by
    obtain ⟨q1, q2, q3⟩ := hsV.below ((Below.refl _ _).alloc (Nat.le_refl _) (.cells #[.slice (some ⟨gs, 0, none⟩) 4 cgs] 27))
    exact .inr ⟨gs, rfl, q1, q2⟩
  have HC5 : Hid ((w3.alloc (.cells #[.slice (some ⟨gs, 0, none⟩) 4 cgs] 27)).cell? ⟨w3.heap.size, 0, none⟩ = some (.slice (some ⟨gs, 0, none⟩) 4 cgs) ∧ w3.heap.size < (w3.alloc (.cells #[.slice (some ⟨gs, 0, none⟩) 4 cgs] 27)).heap.size) := ⟨infoVecCell _ _ _ _, by simp⟩
  clear hb HB2 HP2 hsO hsV hsg
  go_wp2_with fail
  obtain ⟨B5, hB5⟩ : ∃ B5, w3.heap.size = B5 := ⟨_, rfl⟩
  generalize w3.alloc (.cells #[.slice (some ⟨gs, 0, none⟩) 4 cgs] 27) = v3 at *
  rw [hB5] at HC5 ⊢
  clear hB5
  have HS3 : Hid (Below v3.heap.size v3 v3) := Below.refl _ _
  have hw3 : w.heap.size ≤ v3.heap.size := HB3.out.size
  refine (toPostS_any a n cap ps _ hn HN.out HX.out (HI.out.below HB3.out)).mono ?_
  rintro e w4 ⟨γ4, rfl, hO, hb⟩
  have HB4 : Hid (Below w.heap.size w w4) := below_step HB3.out HB3.out.size hb
  have HX4 := Lib.hid hO
  have HP4 : Hid (IsPs w4 (some ⟨v3.heap.size, 0, none⟩) ps) := hO.isPn.isPs fun i hi => by have := HX.out i (by rw [← HN.out]; exact hi); unfold maxLen; omega
  have HT4 : Hid (∀ x, TakenP v3.heap.size ps γ4 x → v3.heap.size ≤ x ∧ x < w4.heap.size) := fun x hx => hO.taken hx
  have HS4 : Hid (Below v3.heap.size v3 w4) := below_step HS3.out HS3.out.size hb
  clear hb HB3 HS3 hO
  go_wp2_with fail
  refine (implInOrder_any (some ⟨v3.heap.size, 0, none⟩) n n ps _ HN.out hn HX.out HP4.out).mono ?_
  rintro e w5 hans
  replace hans := HAO.out _ _ _ hans
  obtain ⟨ag, cg, gg, cgg, γg, rfl, hgO, hgV, hgg, hgt, hb⟩ := hans
  have HG5 : Hid (OwnO (w5.alloc (.cells #[.slice (some ⟨gg, 0, none⟩) 4 cgg] 27)) w4.heap.size ag O γg) := hgO.below ((Below.refl _ _).alloc (Nat.le_refl _) _)
  have HTG : Hid (∀ x, TakenO ag O γg x → w4.heap.size ≤ x ∧ x < w5.heap.size) := fun x hx => hgO.taken hx
  have HGV5 : Hid (NumsAt (w5.alloc (.cells #[.slice (some ⟨gg, 0, none⟩) 4 cgg] 27)) gg vv) := hgV.below ((Below.refl _ _).alloc (Nat.le_refl _) _)
  have HGG : Hid (w4.heap.size ≤ gg ∧ gg < w5.heap.size ∧ ¬ TakenO ag O γg gg) := ⟨hgg, hgV.1, hgt⟩
  have HC8 : Hid ((w5.alloc (.cells #[.slice (some ⟨gg, 0, none⟩) 4 cgg] 27)).cell? ⟨w5.heap.size, 0, none⟩ = some (.slice (some ⟨gg, 0, none⟩) 4 cgg) ∧ w5.heap.size < (w5.alloc (.cells #[.slice (some ⟨gg, 0, none⟩) 4 cgg] 27)).heap.size) := ⟨infoVecCell _ _ _ _, by simp⟩
  replace hb : Below w4.heap.size w4 (w5.alloc (.cells #[.slice (some ⟨gg, 0, none⟩) 4 cgg] 27)) := hb.alloc hb.size _
  have hs34 : v3.heap.size ≤ w4.heap.size := HS4.out.size
  have hs45 : w4.heap.size ≤ w5.heap.size := by have := HGG.out; omega
  go_wp2_with fail
  obtain ⟨B8, hB8⟩ : ∃ B8, w5.heap.size = B8 := ⟨_, rfl⟩
  rw [hB8] at HC8 HTG HGG hs45 ⊢
  clear hB8 hgO hgV hgg hgt
  generalize w5.alloc (.cells #[.slice (some ⟨gg, 0, none⟩) 4 cgg] 27) = v5 at *
  have HB5 : Hid (Below w.heap.size w v5) := below_step HB4.out HB4.out.size hb
  have HS5 : Hid (Below v3.heap.size v3 v5) := below_step HS4.out HS4.out.size hb
  have HX5 := Lib.hid (HX4.out.below hb)
  clear hb HB4 HS4 HX4 HP4
  have HC85 := HC8
  clear HC8
  refine (eqPostS_same _ _ L _ _ O _ HLO.out hLn HOL.out HG5.out.isPn (HD.out.below HS5.out)).mono ?_
  rintro e w6 ⟨rfl, hb⟩
  have HB6 : Hid (Below w.heap.size w w6) := below_step HB5.out HB5.out.size hb
  have HS6 : Hid (Below v3.heap.size v3 w6) := below_step HS5.out HS5.out.size hb
  have HX6 := Lib.hid (HX5.out.below hb)
  have HG6 := Lib.hid (HG5.out.below hb)
  have HGV6 := Lib.hid (HGV5.out.below hb)
  have HC86 : Hid (_ ∧ B8 < w6.heap.size) := ⟨(hb.cell (p := ⟨B8, 0, none⟩) HC85.out.2).trans HC85.out.1, Nat.lt_of_lt_of_le HC85.out.2 hb.size⟩
  clear hb HB5 HS5 HX5 HG5 HGV5 HC85
  have c5 := (HS6.out.cell (p := ⟨B5, 0, none⟩) HC5.out.2).trans HC5.out.1
  have c8 := HC86.out.1
  go_wp2_with fail
  refine (eqVec_same _ _ 4 _ _ vv _ HV4.out (by omega) (.inr ⟨gg, rfl, HGV6.out.1, HGV6.out.2.1⟩) (HDV.out.below HS6.out)).mono ?_
  clear c5 c8
  rintro e w7 ⟨rfl, hb⟩
  have HB7 : Hid (Below w.heap.size w w7) := below_step HB6.out HB6.out.size hb
  have HS7 : Hid (Below v3.heap.size v3 w7) := below_step HS6.out HS6.out.size hb
  have HX7 := Lib.hid (HX6.out.below hb)
  have HG7 := Lib.hid (HG6.out.below hb)
  have HGV7 := Lib.hid (HGV6.out.below hb)
  have HC87 : Hid (_ ∧ B8 < w7.heap.size) := ⟨(hb.cell (p := ⟨B8, 0, none⟩) HC86.out.2).trans HC86.out.1, Nat.lt_of_lt_of_le HC86.out.2 hb.size⟩
  clear hb HB6 HS6 HX6 HG6 HGV6 HC86
  go_wp2_with fail
  refine (toPostS_any a n cap ps _ hn HN.out HX.out (HI.out.below HB7.out)).mono ?_
  rintro e w8 ⟨γ8, rfl, hO, hb⟩
  have HB8 : Hid (Below w.heap.size w w8) := below_step HB7.out HB7.out.size hb
  have HS8 : Hid (Below v3.heap.size v3 w8) := below_step HS7.out HS7.out.size hb
  have HX8 := Lib.hid (HX7.out.below hb)
  have HG8 := Lib.hid (HG7.out.below hb)
  have HGV8 := Lib.hid (HGV7.out.below hb)
  have HC88 : Hid (_ ∧ B8 < w8.heap.size) := ⟨(hb.cell (p := ⟨B8, 0, none⟩) HC87.out.2).trans HC87.out.1, Nat.lt_of_lt_of_le HC87.out.2 hb.size⟩
  have HW8 := Lib.hid hO.isPn
  clear hb hO HB7 HS7 HX7 HG7 HGV7 HC87
  go_wp2_with fail
  refine (eqPostS_same _ _ n _ _ ps _ HN.out hn HX.out HX8.out.isPn HW8.out).mono ?_
  rintro e w9 ⟨rfl, hb⟩
  have HB9 : Hid (Below w.heap.size w w9) := below_step HB8.out HB8.out.size hb
  have HS9 : Hid (Below v3.heap.size v3 w9) := below_step HS8.out HS8.out.size hb
  have HX9 := Lib.hid (HX8.out.below hb)
  have HG9 := Lib.hid (HG8.out.below hb)
  have HGV9 := Lib.hid (HGV8.out.below hb)
  have HC89 : Hid (_ ∧ B8 < w9.heap.size) := ⟨(hb.cell (p := ⟨B8, 0, none⟩) HC88.out.2).trans HC88.out.1, Nat.lt_of_lt_of_le HC88.out.2 hb.size⟩
  clear hb HB8 HS8 HX8 HG8 HGV8 HC88 HW8
  go_wp2_with fail
  refine (markPostS_any _ _ n _ 1 ps γ4 _ HN.out hn HBK.out (by omega) (by omega) HX9.out).mono ?_
  rintro e w10 ⟨rfl, -, ho⟩
  have hbl : Below v3.heap.size w9 w10 := ho.below fun x hx => (HT4.out x hx).1
  have HB10 : Hid (Below w.heap.size w w10) := HB9.out.trans (hbl.mono hw3)
  have HS10 : Hid (Below v3.heap.size v3 w10) := HS9.out.trans hbl
  have HG10 := Lib.hid (HG9.out.offO ho fun x hx => (HT4.out x hx).2)
  have HGV10 : Hid (NumsAt w10 gg vv) := HGV9.out.of_block (ho.block gg fun e => by have := (HT4.out gg e).2; have := HGG.out.1; omega) (by rw [ho.size]; exact HGV9.out.1)
  have HC810 : Hid (_ ∧ B8 < w10.heap.size) := ⟨(World.cell?_of_block (a := ⟨B8, 0, none⟩) (ho.block B8 fun e => by have := (HT4.out B8 e).2; omega)).trans HC89.out.1, by rw [ho.size]; exact HC89.out.2⟩
  have HK := Lib.hid (markP_bounds ps 1 n (by omega) (by omega) hn HBK.out)
  generalize markP ps 1 n = k at *
  have k0 : 0 ≤ k := HK.out.1
  clear hbl ho HB9 HS9 HX9 HG9 HGV9 HC89 HK
  go_wp2_with fail
  refine (eqPostS_same _ _ L _ _ O _ HLO.out hLn HOL.out HG10.out.isPn (HD.out.below HS10.out)).mono ?_
  rintro e w11 ⟨rfl, hb⟩
  have HB11 : Hid (Below w.heap.size w w11) := below_step HB10.out HB10.out.size hb
  have HS11 : Hid (Below v3.heap.size v3 w11) := below_step HS10.out HS10.out.size hb
  have HG11 := Lib.hid (HG10.out.below hb)
  have HGV11 := Lib.hid (HGV10.out.below hb)
  have HC811 : Hid (_ ∧ B8 < w11.heap.size) := ⟨(hb.cell (p := ⟨B8, 0, none⟩) HC810.out.2).trans HC810.out.1, Nat.lt_of_lt_of_le HC810.out.2 hb.size⟩
  clear hb HB10 HS10 HG10 HGV10 HC810
  have c5 := (HS11.out.cell (p := ⟨B5, 0, none⟩) HC5.out.2).trans HC5.out.1
  have c8 := HC811.out.1
  go_wp2_with fail
  refine (eqVec_same _ _ 4 _ _ vv _ HV4.out (by omega) (.inr ⟨gg, rfl, HGV11.out.1, HGV11.out.2.1⟩) (HDV.out.below HS11.out)).mono ?_
  clear c5 c8
  rintro e w12 ⟨rfl, hb⟩
  have HB12 : Hid (Below w.heap.size w w12) := below_step HB11.out HB11.out.size hb
  have HS12 : Hid (Below v3.heap.size v3 w12) := below_step HS11.out HS11.out.size hb
  have HG12 := Lib.hid (HG11.out.below hb)
  have HGV12 := Lib.hid (HGV11.out.below hb)
  have HC812 : Hid (_ ∧ B8 < w12.heap.size) := ⟨(hb.cell (p := ⟨B8, 0, none⟩) HC811.out.2).trans HC811.out.1, Nat.lt_of_lt_of_le HC811.out.2 hb.size⟩
  clear hb HB11 HS11 HG11 HGV11 HC811
  go_wp2_with fail
  refine (markPostS_all _ _ L _ 1 O γg _ HLO.out hLn HOB.out (by omega) (by omega) HG12.out).mono ?_
  rintro e w13 ⟨rfl, hmk, ho⟩
  have hbl : Below v3.heap.size w12 w13 := ho.below fun x hx => by have := (HTG.out x hx).1; omega
  have HB13 : Hid (Below w.heap.size w w13) := HB12.out.trans (hbl.mono hw3)
  have HS13 : Hid (Below v3.heap.size v3 w13) := HS12.out.trans hbl
  have HM13 := Lib.hid hmk
  have HGV13 : Hid (NumsAt w13 gg vv) := HGV12.out.of_block (ho.block gg fun e => HGG.out.2.2 e) (by rw [ho.size]; exact HGV12.out.1)
  have HFZ13 : Hid (∀ o, w13.frozen? ⟨gg, o, none⟩ = false) := fun o => (ho.frozen _).trans (HGV12.out.2.2 o)
  have HC813 : Hid (_ ∧ B8 < w13.heap.size) := ⟨(World.cell?_of_block (a := ⟨B8, 0, none⟩) (ho.block B8 fun e => by have := (HTG.out B8 e).2; omega)).trans HC812.out.1, by rw [ho.size]; exact HC812.out.2⟩
  have hk2 := markP_bounds O 1 L (by omega) (by omega) hLn HOB.out
  obtain ⟨K, hK⟩ : ∃ K, markP O 1 L = K := ⟨_, rfl⟩
  have HKE := Lib.hid hK
  rw [hK] at hk2 ⊢
  obtain ⟨k1, k2⟩ := hk2
  clear hbl ho hmk hK HB12 HS12 HG12 HGV12 HC812
  have c8 := HC813.out.1
  go_wp2_with fail
  clear c8
  refine (markVec_any gg (gg + 1) 4 _ (some ⟨gg, 0, none⟩) K vv _ HV4.out (by omega) k1 (by omega) (.inr ⟨gg, rfl, Nat.le_refl _, Nat.lt_succ_self _, HGV13.out.1, HGV13.out.2.1, HGV13.out.2.2⟩)).mono ?_
  rintro e w14 ⟨rfl, hmv, ho⟩
  have hba : Below w13.heap.size w13 (w13.alloc (.cells #[.slice (some ⟨gg, 0, none⟩) 4 cgg] 27)) := (Below.refl _ _).alloc (Nat.le_refl _) _
  have hbl : Below v3.heap.size w13 w14 := (hba.mono HS13.out.size).trans (ho.below fun x hx => by have := HGG.out.1; omega)
  have hblk : ∀ x, x < w13.heap.size → x ≠ gg → w14.heap[x]? = w13.heap[x]? := fun x h1 h2 => (ho.block x fun e => h2 (by omega)).trans (hba.block x h1)
  have hsz : w13.heap.size ≤ w14.heap.size := by rw [ho.size]; simp
  have HB14 : Hid (Below w.heap.size w w14) := HB13.out.trans (hbl.mono hw3)
  have HS14 : Hid (Below v3.heap.size v3 w14) := HS13.out.trans hbl
  have HM14 : Hid (MarkedO w14 ag O γg 1) := HM13.out.same (fun x hx => hblk x (by have := (HTG.out x hx).2; have := HC813.out.2; omega) fun e => HGG.out.2.2 (e ▸ hx)) hsz
  have HMV14 := Lib.hid hmv
  have HC814 : Hid (_ ∧ B8 < w14.heap.size) := ⟨(World.cell?_of_block (a := ⟨B8, 0, none⟩) (hblk B8 HC813.out.2 fun e => by have := HGG.out.2.1; omega)).trans HC813.out.1, Nat.lt_of_lt_of_le HC813.out.2 hsz⟩
  clear hbl ho hmv hba hblk hsz HB13 HS13 HM13 HGV13 HC813 HFZ13
  go_wp2_with fail
  refine (heldPostS_all _ L _ 1 O γg _ HLO.out hLn HOB.out (by omega) (by omega) HM14.out).mono ?_
  rintro e w15 ⟨rfl, hw⟩
  subst w15
  rw [HKE.out]
  have c8 := HC814.out.1
  go_wp2_with fail
  clear c8
  refine (heldVec_any 4 _ _ K _ (by omega) k1 (by omega) HMV14.out).mono ?_
  rintro e w16 ⟨rfl, hb⟩
  have HB16 : Hid (Below w.heap.size w w16) := below_step HB14.out HB14.out.size hb
  have HS16 : Hid (Below v3.heap.size v3 w16) := below_step HS14.out HS14.out.size hb
  have HM16 : Hid (MarkedO w16 ag O γg 1) := HM14.out.same (fun x hx => hb.block x (by have := (HTG.out x hx).2; have := HC814.out.2; omega)) hb.size
  have HMV16 := Lib.hid (HMV14.out.below hb)
  have HC816 : Hid (_ ∧ B8 < w16.heap.size) := ⟨(hb.cell (p := ⟨B8, 0, none⟩) HC814.out.2).trans HC814.out.1, Nat.lt_of_lt_of_le HC814.out.2 hb.size⟩
  clear hb HB14 HS14 HM14 HMV14 HC814
  go_wp2_with fail
  refine (toPostS_any a n cap ps _ hn HN.out HX.out (HI.out.below HB16.out)).mono ?_
  rintro e w17 ⟨γ17, rfl, hO, hb⟩
  have HB17 : Hid (Below w.heap.size w w17) := below_step HB16.out HB16.out.size hb
  have HP17 : Hid (IsPs w17 (some ⟨w16.heap.size, 0, none⟩) ps) := hO.isPn.isPs fun i hi => by have := HX.out i (by rw [← HN.out]; exact hi); unfold maxLen; omega
  have HS17 : Hid (Below v3.heap.size v3 w17) := below_step HS16.out HS16.out.size hb
  have HM17 : Hid (MarkedO w17 ag O γg 1) := HM16.out.same (fun x hx => hb.block x (by have := (HTG.out x hx).2; have := HC816.out.2; omega)) hb.size
  have HMV17 := Lib.hid (HMV16.out.below hb)
  have HC817 : Hid (_ ∧ B8 < w17.heap.size) := ⟨(hb.cell (p := ⟨B8, 0, none⟩) HC816.out.2).trans HC816.out.1, Nat.lt_of_lt_of_le HC816.out.2 hb.size⟩
  clear hb hO HB16 HS16 HM16 HMV16 HC816
  go_wp2_with fail
  refine (implInOrder_any (some ⟨w16.heap.size, 0, none⟩) n n ps _ HN.out hn HX.out HP17.out).mono ?_
  rintro e w18 hans
  replace hans := HAO.out _ _ _ hans
  obtain ⟨ah, ch, gh, cgh, γh, rfl, hhO, hhV, hhg, -, hb⟩ := hans
  have HH : Hid (IsPn (w18.alloc (.cells #[.slice (some ⟨gh, 0, none⟩) 4 cgh] 27)) ah O) := (hhO.below ((Below.refl _ _).alloc (Nat.le_refl _) _)).isPn
  have HHV : Hid (IsInts (w18.alloc (.cells #[.slice (some ⟨gh, 0, none⟩) 4 cgh] 27)) (some ⟨gh, 0, none⟩) vv) := by
    obtain ⟨q1, q2, q3⟩ := hhV.below ((Below.refl _ _).alloc (Nat.le_refl _) (.cells #[.slice (some ⟨gh, 0, none⟩) 4 cgh] 27))
    exact .inr ⟨gh, rfl, q1, q2⟩
  have HC13 : Hid ((w18.alloc (.cells #[.slice (some ⟨gh, 0, none⟩) 4 cgh] 27)).cell? ⟨w18.heap.size, 0, none⟩ = some (.slice (some ⟨gh, 0, none⟩) 4 cgh) ∧ w18.heap.size < (w18.alloc (.cells #[.slice (some ⟨gh, 0, none⟩) 4 cgh] 27)).heap.size) := ⟨infoVecCell _ _ _ _, by simp⟩
  replace hb : Below w17.heap.size w17 (w18.alloc (.cells #[.slice (some ⟨gh, 0, none⟩) 4 cgh] 27)) := hb.alloc hb.size _
  go_wp2_with fail
  obtain ⟨B13, hB13⟩ : ∃ B13, w18.heap.size = B13 := ⟨_, rfl⟩
  rw [hB13] at HC13 ⊢
  clear hB13 hhO hhV hhg
  generalize w18.alloc (.cells #[.slice (some ⟨gh, 0, none⟩) 4 cgh] 27) = w19 at *
  have HB19 : Hid (Below w.heap.size w w19) := below_step HB17.out HB17.out.size hb
  have HS19 : Hid (Below v3.heap.size v3 w19) := below_step HS17.out HS17.out.size hb
  have HM19 : Hid (MarkedO w19 ag O γg 1) := HM17.out.same (fun x hx => hb.block x (by have := (HTG.out x hx).2; have := HC817.out.2; omega)) hb.size
  have HMV19 := Lib.hid (HMV17.out.below hb)
  have HC819 : Hid (_ ∧ B8 < w19.heap.size) := ⟨(hb.cell (p := ⟨B8, 0, none⟩) HC817.out.2).trans HC817.out.1, Nat.lt_of_lt_of_le HC817.out.2 hb.size⟩
  clear hb HB17 HS17 HM17 HMV17 HC817 HP17
  refine (eqPostS_same _ _ L _ _ O _ HLO.out hLn HOL.out HH.out (HD.out.below HS19.out)).mono ?_
  rintro e w20 ⟨rfl, hb⟩
  have HB20 : Hid (Below w.heap.size w w20) := below_step HB19.out HB19.out.size hb
  have HS20 : Hid (Below v3.heap.size v3 w20) := below_step HS19.out HS19.out.size hb
  have HHV20 := Lib.hid (HHV.out.below hb)
  have HC1320 : Hid (_ ∧ B13 < w20.heap.size) := ⟨(hb.cell (p := ⟨B13, 0, none⟩) HC13.out.2).trans HC13.out.1, Nat.lt_of_lt_of_le HC13.out.2 hb.size⟩
  have HM20 : Hid (MarkedO w20 ag O γg 1) := HM19.out.same (fun x hx => hb.block x (by have := (HTG.out x hx).2; have := HC819.out.2; omega)) hb.size
  have HMV20 := Lib.hid (HMV19.out.below hb)
  have HC820 : Hid (_ ∧ B8 < w20.heap.size) := ⟨(hb.cell (p := ⟨B8, 0, none⟩) HC819.out.2).trans HC819.out.1, Nat.lt_of_lt_of_le HC819.out.2 hb.size⟩
  clear hb HB19 HS19 HM19 HMV19 HC819 HH HHV HC13
  have c5 := (HS20.out.cell (p := ⟨B5, 0, none⟩) HC5.out.2).trans HC5.out.1
  have c13 := HC1320.out.1
  go_wp2_with fail
  refine (eqVec_same _ _ 4 _ _ vv _ HV4.out (by omega) HHV20.out (HDV.out.below HS20.out)).mono ?_
  clear c5 c13
  rintro e w21 ⟨rfl, hb⟩
  have HB21 : Hid (Below w.heap.size w w21) := below_step HB20.out HB20.out.size hb
  have HS21 : Hid (Below v3.heap.size v3 w21) := below_step HS20.out HS20.out.size hb
  have HM21 : Hid (MarkedO w21 ag O γg 1) := HM20.out.same (fun x hx => hb.block x (by have := (HTG.out x hx).2; have := HC820.out.2; omega)) hb.size
  have HMV21 := Lib.hid (HMV20.out.below hb)
  have HC821 : Hid (_ ∧ B8 < w21.heap.size) := ⟨(hb.cell (p := ⟨B8, 0, none⟩) HC820.out.2).trans HC820.out.1, Nat.lt_of_lt_of_le HC820.out.2 hb.size⟩
  clear hb HB20 HS20 HM20 HMV20 HC820 HHV20 HC1320
  go_wp2_with fail
  refine (heldPostS_all _ L _ 1 O γg _ HLO.out hLn HOB.out (by omega) (by omega) HM21.out).mono ?_
  rintro e w22 ⟨rfl, hw⟩
  subst w22
  rw [HKE.out]
  have c8 := HC821.out.1
  go_wp2_with fail
  clear c8
  refine (heldVec_any 4 _ _ K _ (by omega) k1 (by omega) HMV21.out).mono ?_
  rintro e w23 ⟨rfl, hb⟩
  have HB23 : Hid (Below w.heap.size w w23) := below_step HB21.out HB21.out.size hb
  have HS23 : Hid (Below v3.heap.size v3 w23) := below_step HS21.out HS21.out.size hb
  clear hb
  go_wp2
  go_ret
  exact ⟨rfl, HB23.out⟩

set_option maxRecDepth 100000 in
theorem lifted (os : Os) (started : os.Started) (H : Type) (enc : TypeId × Value → H) :
    ReturnsInHanded {} Try.checked os 8 .any (Rows.fnExactInOrderSpec.pre6 enc Try.prog Try.f8 Rows.fnExactInOrderRow.domain false) (Rows.fnExactInOrderSpec.post enc Try.prog Try.f8 false true false false) := by
  refine returnsInHanded_of_change (C := Try.checked) own started (by kernel_rfl) Try.func8
    (ChangeSpec.witness6 (enc := enc) (C := Try.checked) false ⟨#[], #[.slice none 0 0], []⟩ 8 (by kernel_rfl) (by kernel_rfl) (by kernel_rfl) (by kernel_rfl)) ?_
  intro W base args ds gs before hval0 hW hcnd _
  have hval : ∀ (j : Nat) t v, Try.f8.params[j]? = some t → args[j]? = some v → Value.okWide Try.prog W .any base t v := hval0
  have hW' := hW
  obtain ⟨p, q, hA0, hV, rfl, hfz, hnd⟩ := hW
  have hA : DataW.TrodAll enc Try.prog W 0 (fun _ => true) true Try.f8.params.toList args.toList ds p := hA0
  rw [Try.params8] at hA hval
  obtain ⟨v0, d0, rfl, rfl, h0⟩ := trodAll_one hA
  have k0 := h0
  have lt0 : ∀ x ∈ p, x.block < W.heap.size := by obtain ⟨m, hm⟩ := k0; exact DataW.trod_lt m _ _ _ hm
  obtain ⟨rfl, rfl⟩ := trodVars_none hV
  obtain ⟨a0, len0, cap0, ps0, hv0, hr0⟩ := open_ps (hval 0 46 v0 rfl rfl) h0
  subst hv0
  clear hA0 hval0
  refine (walk a0 len0 cap0 ps0 W hr0).mono fun e W' ⟨he, bel⟩ => ?_
  subst he
  exact ⟨_, rfl, _, _, _, [], _, [], hW', trodAll_mk1 (shut_bool Try.underlying4 _), (trodAll_mk1 (Below.trod laidOut (by kernel_rfl) (of_decide_eq_true (by kernel_rfl)) k0 bel lt0)), rfl, bel.frame _, fun h => by cases h⟩

theorem over : Rows.fnExactInOrderRow.holds Try.pinned (OpenSpec.ofChange Rows.fnExactInOrderSpec) :=
  OpenClaim.holds_of_wide 8 Try.f8 rfl rfl rfl rfl rfl rfl rfl ⟨rfl, rfl, rfl, rfl, rfl⟩ rfl rfl rfl rfl rfl (by kernel_rfl) Try.func8 (by kernel_rfl)
    (of_decide_eq_true (by kernel_rfl)) (by unfold Func.isWrapper; rw [if_neg (by decide +kernel)]; exact ⟨rfl, rfl⟩)
    (fun os started H enc _ => lifted os started H enc)

end Go.Proofs.Ytolmlcbgdihcbaa.lawInOrder
namespace Go.Proofs.Ytolmlcbgdihcbaa
theorem fnExactInOrder_holds : Rows.FnExactInOrderSaid := lawInOrder.over
#print axioms fnExactInOrder_holds
end Go.Proofs.Ytolmlcbgdihcbaa
