/- At every two lists of writes the law FnExactRepair answers true: impl.Repair answers as spec.Repair, leaves both lists as they were, and its answer owns its memory. The tables of Go's library that it reads are listed in the row and tied to the program's text by the card. -/
import Derived.Test.YtidpcjcnhklmpalDoorPack13
import Derived.Test.YtidpcjcnhklmpalDoorPack12
import Derived.Test.YtidpcjcnhklmpalDoorTie
import Derived.Test.YtidpcjcnhklmpalDoorCards
import Derived.LaidMore
import Derived.Stop.LaidErr
import Derived.Lib.LaidTab
import Derived.SevenTiedAt
namespace Go.Proofs.YtidpcjcnhklmpalDoor.lawRepair
open Go.ChangeShapes Go.WideShapes Go.ChangeAt Go.RowKit Go.Joins
attribute [local go_sem ↓] Go.wp_at_zero Go.wp_at_succ

set_option maxRecDepth 100000 in
set_option maxHeartbeats 8000000 in
theorem walk (a : Option Addr) (n cap : Nat) (us : List Wr) (b : Option Addr) (m cap' : Nat) (vs : List Wr) (w : World) (hr : us.length = n ∧ n ≤ maxLen ∧ IsWs w a us) (hr' : vs.length = m ∧ m ≤ maxLen ∧ IsWs w b vs) (ht : Tab w) :
    Calls Tryd.prog 4 #[.slice a n cap, .slice b m cap'] w fun e w' => e = .returned (.bool true) ∧ Below w.heap.size w w' := by
  obtain ⟨hl, hm, hi⟩ := hr
  have hlt : 1 < w.heap.size := ht.lt
  have HT := Lib.hid ht
  clear ht
  obtain ⟨z, hz⟩ : ∃ z : Int, ((repKeys us vs).length : Int) = z := ⟨_, rfl⟩
  have HZ := Lib.hid hz
  clear hz
  obtain ⟨hl', hm', hi'⟩ := hr'
  have HI := Lib.hid hi
  have HJ := Lib.hid hi'
  have HN := Lib.hid hl
  have HM := Lib.hid hl'
  clear hi hl hi' hl'
  go_enter Tryd.func4, Tryd.ntmps4
  go_wp2_with fail
  refine (szWriteS_any a n cap 1048576 us _ (by omega) (by omega) hm HN.out HI.out).mono ?_
  rintro e w1 ⟨r, rfl, hr, hb⟩
  have HB1 := Lib.hid hb
  clear hb hm
  rcases hr with rfl | ⟨r0, hr⟩
  · go_wp2
    go_ret
    exact ⟨rfl, HB1.out⟩
  have HRR := Lib.hid hr
  have r1 : r ≤ 1048576 := by omega
  clear hr
  go_wp2_with fail
  refine (szWriteS_any b m cap' r vs _ r0 r1 hm' HM.out (HJ.out.below HB1.out)).mono ?_
  rintro e w2 ⟨r', rfl, hr, hb⟩
  have HB2 : Hid (Below w.heap.size w w2) := below_step HB1.out HB1.out.size hb
  clear hb hm' HB1
  rcases hr with rfl | ⟨r0', hr⟩
  · go_wp2
    go_ret
    exact ⟨rfl, HB2.out⟩
  have hnm : n + m ≤ 1048576 := by have := HRR.out; omega
  have hbu : bulk us ≤ 1048576 := by have := HRR.out; omega
  have hbv : bulk vs ≤ 1048576 := by have := HRR.out; omega
  have HF : Hid (Few us) := few_of_bulk hbu
  have HG : Hid (Few vs) := few_of_bulk hbv
  have HX : Hid (∀ i, i < n → (us.getD i wz).xs.length ≤ 1048576) := fun i h => HF.out i (by rw [HN.out]; exact h)
  have HY : Hid (∀ i, i < m → (vs.getD i wz).xs.length ≤ 1048576) := fun i h => HG.out i (by rw [HM.out]; exact h)
  have hn : n ≤ 1048576 := by omega
  have hm : m ≤ 1048576 := by omega
  have HJF := Lib.hid (few_of_bulk (by have := mapOk_bulk (repB_mapOk us vs); omega) : Few (repB us vs))
  have HJB := Lib.hid (mapOk_bulk (repB_mapOk us vs))
  have HJL := Lib.hid (mapOk_len (repB_mapOk us vs))
  clear hr HRR
  go_wp2_with fail
  refine (toWriteS_any a n cap us _ hn HN.out HX.out (HI.out.below HB2.out)).mono ?_
  rintro e w3 ⟨γ3, rfl, hO3, hb⟩
  have HB3 : Hid (Below w.heap.size w w3) := below_step HB2.out HB2.out.size hb
  have HO3 := Lib.hid hO3
  clear hb hO3 HB2
  go_wp2_with fail
  refine (toWriteS_any b m cap' vs _ hm HM.out HY.out (HJ.out.below HB3.out)).mono ?_
  rintro e w4 ⟨γ4, rfl, hO4, hb⟩
  have HB4 : Hid (Below w.heap.size w w4) := below_step HB3.out HB3.out.size hb
  have HO34 := Lib.hid (HO3.out.below hb)
  have HO4 := Lib.hid hO4
  clear hb hO4 HB3 HO3
  go_wp2_with fail
  refine (specRepair_any _ _ n m n m us vs _ HN.out HM.out hn hm HF.out HG.out (HO34.out.holds.isWs HF.out) (HO4.out.holds.isWs HG.out)).mono ?_
  rintro e w5 ⟨gs, cs, ess, L, rfl, hLs, hes, hrow, hb⟩
  rw [HZ.out]
  have HB5 : Hid (Below w.heap.size w w5) := below_step HB4.out HB4.out.size hb
  have HL : Hid ((repB us vs).length = L) := by
    rw [← hes, List.length_map]
    exact hLs
  have HS : Hid (IsWs w5 (some ⟨gs, 0, none⟩) (repB us vs)) := hrow.isWs hes HJF.out
  clear hb hLs hes hrow HB4 HO34 HO4
  have hL6 : L ≤ 6 := by rw [← HL.out]; exact HJL.out
  have hw5 : w.heap.size ≤ w5.heap.size := HB5.out.size
  go_wp2_with fail
  refine (toWriteS_any a n cap us _ hn HN.out HX.out (HI.out.below HB5.out)).mono ?_
  rintro e w6 ⟨γ6, rfl, hO6, hb⟩
  have HB6 : Hid (Below w.heap.size w w6) := below_step HB5.out HB5.out.size hb
  have HS6 : Hid (Below w5.heap.size w5 w6) := hb
  have HO6 : Hid (OwnA w6 w5.heap.size w6.heap.size (some ⟨w5.heap.size, 0, none⟩) us γ6) := hO6.gen.ownA
  clear hb hO6
  go_wp2_with fail
  refine (toWriteS_any b m cap' vs _ hm HM.out HY.out (HJ.out.below HB6.out)).mono ?_
  rintro e w7 ⟨γ7, rfl, hO7, hb⟩
  have HB7 : Hid (Below w.heap.size w w7) := below_step HB6.out HB6.out.size hb
  have HS7 : Hid (Below w5.heap.size w5 w7) := below_step HS6.out HS6.out.size hb
  have HO67 := Lib.hid (HO6.out.below hb)
  have HO7 : Hid (OwnA w7 w6.heap.size w7.heap.size (some ⟨w6.heap.size, 0, none⟩) vs γ7) := hO7.gen.ownA
  have hs67 : w6.heap.size ≤ w7.heap.size := hb.size
  have hs56 : w5.heap.size ≤ w6.heap.size := HS6.out.size
  clear hb hO7 HO6 HB6 HS6 HB5
  go_wp2_with fail
  refine (implRepair_any _ _ n m n m us vs _ HN.out HM.out hn hm HF.out HG.out (HO67.out.isWs HF.out) (HO7.out.isWs HG.out) (HT.out.below HB7.out hlt)).mono ?_
  rintro e w8 ⟨v, es, rfl, hes, hrow, hb⟩
  rw [HZ.out]
  obtain ⟨ga, gc, L', rfl, hl', hg8⟩ := hrow.ownA hes
  obtain rfl : L' = L := hl'.symm.trans HL.out
  have HB8 : Hid (Below w.heap.size w w8) := below_step HB7.out HB7.out.size hb
  have HS8 : Hid (Below w5.heap.size w5 w8) := below_step HS7.out HS7.out.size hb
  have HO68 := Lib.hid (HO67.out.below hb)
  have HO78 := Lib.hid (HO7.out.below hb)
  have HG8 := Lib.hid hg8
  have hs78 : w7.heap.size ≤ w8.heap.size := hb.size
  clear hb hg8 hrow hes hl' HO67 HO7 HB7 HS7
  generalize gammaG es = γg at *
  go_wp2_with fail
  refine (eqWriteS_gen _ _ L' _ _ (repB us vs) _ HL.out (by omega) HJF.out (HG8.out.isWs HJF.out) (HS.out.below HS8.out)).mono ?_
  rintro e w9 ⟨rfl, hb⟩
  have HB9 : Hid (Below w.heap.size w w9) := below_step HB8.out HB8.out.size hb
  have HS9 : Hid (Below w5.heap.size w5 w9) := below_step HS8.out HS8.out.size hb
  have HO69 := Lib.hid (HO68.out.below hb)
  have HO79 := Lib.hid (HO78.out.below hb)
  have HG9 := Lib.hid (HG8.out.below hb)
  clear hb HB8 HS8 HO68 HO78 HG8
  go_wp2_with fail
  refine (toWriteS_any a n cap us _ hn HN.out HX.out (HI.out.below HB9.out)).mono ?_
  rintro e w10 ⟨γ10, rfl, hO10, hb⟩
  have HB10 : Hid (Below w.heap.size w w10) := below_step HB9.out HB9.out.size hb
  have HS10 : Hid (Below w5.heap.size w5 w10) := below_step HS9.out HS9.out.size hb
  have HO610 := Lib.hid (HO69.out.below hb)
  have HO710 := Lib.hid (HO79.out.below hb)
  have HG10 := Lib.hid (HG9.out.below hb)
  have HO10 : Hid (IsWs w10 (some ⟨w9.heap.size, 0, none⟩) us) := hO10.holds.isWs HF.out
  clear hb hO10 HB9 HS9 HO69 HO79 HG9
  go_wp2_with fail
  refine (eqWriteS_gen _ _ n n n us _ HN.out hn HF.out (HO610.out.isWs HF.out) HO10.out).mono ?_
  rintro e w11 ⟨rfl, hb⟩
  have HB11 : Hid (Below w.heap.size w w11) := below_step HB10.out HB10.out.size hb
  have HS11 : Hid (Below w5.heap.size w5 w11) := below_step HS10.out HS10.out.size hb
  have HO611 := Lib.hid (HO610.out.below hb)
  have HO711 := Lib.hid (HO710.out.below hb)
  have HG11 := Lib.hid (HG10.out.below hb)
  clear hb HB10 HS10 HO610 HO710 HG10 HO10
  go_wp2_with fail
  refine (toWriteS_any b m cap' vs _ hm HM.out HY.out (HJ.out.below HB11.out)).mono ?_
  rintro e w12 ⟨γ12, rfl, hO12, hb⟩
  have HB12 : Hid (Below w.heap.size w w12) := below_step HB11.out HB11.out.size hb
  have HS12 : Hid (Below w5.heap.size w5 w12) := below_step HS11.out HS11.out.size hb
  have HO612 := Lib.hid (HO611.out.below hb)
  have HO712 := Lib.hid (HO711.out.below hb)
  have HG12 := Lib.hid (HG11.out.below hb)
  have HO12 : Hid (IsWs w12 (some ⟨w11.heap.size, 0, none⟩) vs) := hO12.holds.isWs HG.out
  clear hb hO12 HB11 HS11 HO611 HO711 HG11
  go_wp2_with fail
  refine (eqWriteS_gen _ _ m m m vs _ HM.out hm HG.out (HO712.out.isWs HG.out) HO12.out).mono ?_
  rintro e w13 ⟨rfl, hb⟩
  have HB13 : Hid (Below w.heap.size w w13) := below_step HB12.out HB12.out.size hb
  have HS13 : Hid (Below w5.heap.size w5 w13) := below_step HS12.out HS12.out.size hb
  have HO613 := Lib.hid (HO612.out.below hb)
  have HO713 := Lib.hid (HO712.out.below hb)
  have HG13 := Lib.hid (HG12.out.below hb)
  clear hb HB12 HS12 HO612 HO712 HG12 HO12
  have HK1 : Hid (0 ≤ markK us 1 n ∧ markK us 1 n ≤ 20000000) := by
    have h1 := bulk_take_le us n
    unfold markK
    constructor <;> omega
  go_wp2_with fail
  refine (markWriteS_all _ _ n n _ 1 us γ6 _ HN.out hn hbu (by omega) (by omega) HO613.out).mono ?_
  rintro e w14 ⟨rfl, -, ho⟩
  have hbl : Below w5.heap.size w13 w14 := ho.below fun x hx => hx.1
  have HB14 : Hid (Below w.heap.size w w14) := HB13.out.trans (hbl.mono hw5)
  have HS14 : Hid (Below w5.heap.size w5 w14) := HS13.out.trans hbl
  have HO714 := Lib.hid (HO713.out.only ho fun x hx => hx.2)
  have HG14 := Lib.hid (HG13.out.only ho fun x hx => by have := hx.2; omega)
  obtain ⟨k0, k1⟩ := HK1.out
  clear hbl ho HB13 HS13 HO613 HO713 HG13 HK1
  generalize markK us 1 n = k at *
  have HK2 : Hid (0 ≤ markK vs k m) := by
    have h1 := bulk_take_le vs m
    unfold markK
    show (0 : Int) ≤ _
    omega
  go_wp2_with fail
  refine (markWriteS_all _ _ m m _ k vs γ7 _ HM.out hm hbv k0 (by omega) HO714.out).mono ?_
  rintro e w15 ⟨rfl, -, ho⟩
  have hbl : Below w5.heap.size w14 w15 := ho.below fun x hx => by have := hx.1; omega
  have HB15 : Hid (Below w.heap.size w w15) := HB14.out.trans (hbl.mono hw5)
  have HS15 : Hid (Below w5.heap.size w5 w15) := HS14.out.trans hbl
  have HG15 := Lib.hid (HG14.out.only ho fun x hx => hx.2)
  have k2 := HK2.out
  clear hbl ho HB14 HS14 HO714 HG14 HK2
  generalize markK vs k m = k' at *
  go_wp2_with fail
  refine (eqWriteS_gen _ _ L' _ _ (repB us vs) _ HL.out (by omega) HJF.out (HG15.out.isWs HJF.out) (HS.out.below HS15.out)).mono ?_
  rintro e w16 ⟨rfl, hb⟩
  have HB16 : Hid (Below w.heap.size w w16) := below_step HB15.out HB15.out.size hb
  have HS16 : Hid (Below w5.heap.size w5 w16) := below_step HS15.out HS15.out.size hb
  have HG16 := Lib.hid (HG15.out.below hb)
  clear hb HB15 HS15 HG15
  go_wp2_with fail
  refine (markWriteS_all _ _ L' _ _ 1 (repB us vs) γg _ HL.out (by omega) (by have := HJB.out; omega) (by omega) (by omega) HG16.out).mono ?_
  rintro e w17 ⟨rfl, hmk, ho⟩
  have hbl : Below w7.heap.size w16 w17 := ho.below fun x hx => hx.1
  have HB17 : Hid (Below w.heap.size w w17) := HB16.out.trans (hbl.mono (by omega))
  have HS17 : Hid (Below w5.heap.size w5 w17) := HS16.out.trans (hbl.mono (by omega))
  have HM17 := Lib.hid hmk
  have HK3 : Hid (0 ≤ markK (repB us vs) 1 L') := by
    unfold markK
    show (0 : Int) ≤ _
    omega
  have k3 := HK3.out
  clear hbl ho hmk HB16 HS16 HG16 HK3
  go_wp2_with fail
  refine (heldWriteS_all L' _ _ 1 (repB us vs) γg _ HL.out (by omega) (by have := HJB.out; omega) (by omega) (by omega) HM17.out).mono ?_
  rintro e w18 ⟨rfl, rfl⟩
  go_wp2_with fail
  refine (toWriteS_any a n cap us _ hn HN.out HX.out (HI.out.below HB17.out)).mono ?_
  rintro e w19 ⟨γ19, rfl, hO19, hb⟩
  have HB19 : Hid (Below w.heap.size w w19) := below_step HB17.out HB17.out.size hb
  have HS19 : Hid (Below w5.heap.size w5 w19) := below_step HS17.out HS17.out.size hb
  have HM19 := Lib.hid (HM17.out.below hb)
  have HO19 : Hid (IsWs w19 _ us) := hO19.holds.isWs HF.out
  clear hb hO19 HB17 HS17 HM17
  go_wp2_with fail
  refine (toWriteS_any b m cap' vs _ hm HM.out HY.out (HJ.out.below HB19.out)).mono ?_
  rintro e w20 ⟨γ20, rfl, hO20, hb⟩
  have HB20 : Hid (Below w.heap.size w w20) := below_step HB19.out HB19.out.size hb
  have HS20 : Hid (Below w5.heap.size w5 w20) := below_step HS19.out HS19.out.size hb
  have HM20 := Lib.hid (HM19.out.below hb)
  have HO1920 := Lib.hid (HO19.out.below hb)
  have HO20 : Hid (IsWs w20 _ vs) := hO20.holds.isWs HG.out
  clear hb hO20 HB19 HS19 HM19 HO19
  go_wp2_with fail
  refine (implRepair_any _ _ n m n m us vs _ HN.out HM.out hn hm HF.out HG.out HO1920.out HO20.out (HT.out.below HB20.out hlt)).mono ?_
  rintro e w21 ⟨v, es2, rfl, hes, hrow, hb⟩
  rw [HZ.out]
  obtain ⟨ha, hc, L2, rfl, hl', hh⟩ := hrow.ownA hes
  obtain rfl : L2 = L' := hl'.symm.trans HL.out
  have HB21 : Hid (Below w.heap.size w w21) := below_step HB20.out HB20.out.size hb
  have HS21 : Hid (Below w5.heap.size w5 w21) := below_step HS20.out HS20.out.size hb
  have HM21 := Lib.hid (HM20.out.below hb)
  have HH := Lib.hid (hh.isWs HJF.out)
  clear hb hh hrow hes hl' HB20 HS20 HM20 HO1920 HO20
  go_wp2_with fail
  refine (eqWriteS_gen _ _ L2 _ _ (repB us vs) _ HL.out (by omega) HJF.out HH.out (HS.out.below HS21.out)).mono ?_
  rintro e w22 ⟨rfl, hb⟩
  have HB22 : Hid (Below w.heap.size w w22) := below_step HB21.out HB21.out.size hb
  have HM22 := Lib.hid (HM21.out.below hb)
  clear hb HB21 HS21 HM21 HH
  go_wp2_with fail
  refine (heldWriteS_all L2 _ _ 1 (repB us vs) γg _ HL.out (by omega) (by have := HJB.out; omega) (by omega) (by omega) HM22.out).mono ?_
  rintro e w23 ⟨rfl, rfl⟩
  go_wp2
  go_ret
  exact ⟨rfl, HB22.out⟩

abbrev laid := Rows.fnExactRepairRow.laid

set_option maxRecDepth 100000 in
theorem door_met (os : Os) (args : Array Value) : laidMetH Tryd.prog laid ((World.doorLaid Tryd.prog 72 os).forCall (fun _ _ => 0) ⟨#[], args, []⟩).memory :=
  laidMetH_of_parts3 (fuel := 8) (laidMet_of_run' 8 (by kernel_rfl) (by kernel_rfl)) (by kernel_rfl) (by kernel_rfl)

set_option maxRecDepth 100000 in
theorem pow_same : (Rows.laid_internal_strconv_uint64pow10 : DataW Unit) = Lib.tabData .u64 Lib.pow10Tab := by kernel_rfl

set_option maxRecDepth 100000 in
theorem tab_of {W : World} (h : laidMetH Tryd.prog laid W) : Tab W := by
  rw [MakeChecks.laidMetH_plain _ _ _ (by kernel_rfl)] at h
  have h2 := h.tail.tail
  rw [pow_same] at h2
  exact Lib.tabIs_of_head gPow (by kernel_rfl) Tryd.underlying130 Tryd.underlying96 (by kernel_rfl) (by kernel_rfl) h2

set_option maxRecDepth 100000 in
theorem lifted (os : Os) (started : os.Started) (H : Type) (enc : TypeId × Value → H) :
    ReturnsInHanded {} Tryd.checked os 4 .any (fun w args => (Rows.fnExactRepairSpec.pre enc Tryd.prog Tryd.f4 [] false w args ∧ laidMetH Tryd.prog laid w) ∧ sizedMet enc Tryd.prog Tryd.f4 (OpenSpec.ofChange Rows.fnExactRepairSpec) false w args)
      (Rows.fnExactRepairSpec.post enc Tryd.prog Tryd.f4 false true false false) := by
  refine returnsInHanded_of_change_and (C := Tryd.checked) (X := fun w _ => laidMetH Tryd.prog laid w) (fun _ _ _ hh h => h.of_heap hh) own started (by kernel_rfl) Tryd.func4
    (ChangeSpec.witness_shaped (enc := enc) (C := Tryd.checked) (os := os) (X := fun w _ => laidMetH Tryd.prog laid w) false (World.doorLaid Tryd.prog 72 os) #[.slice none 0 0, .slice none 0 0] 8 rfl (World.shaped_of_RefB (by kernel_rfl) (by kernel_rfl)) (by kernel_rfl) (by kernel_rfl) (by kernel_rfl) (door_met os _)) ?_
  intro W base args ds gs before hval0 hW _ _ hL _
  have hval : ∀ (j : Nat) t v, Tryd.f4.params[j]? = some t → args[j]? = some v → Value.okWide Tryd.prog W .any base t v := hval0
  have hW' := hW
  obtain ⟨p, q, hA0, hV, rfl, hfz, hnd⟩ := hW
  have hA : DataW.TrodAll enc Tryd.prog W 0 (fun _ => true) true Tryd.f4.params.toList args.toList ds p := hA0
  rw [Tryd.params4] at hA hval
  obtain ⟨v0, v1, d0, d1, p0, p1, rfl, rfl, rfl, h0, h1⟩ := trodAll_two hA
  have k0 := h0
  have lt0 : ∀ x ∈ p0, x.block < W.heap.size := by obtain ⟨m, hm⟩ := k0; exact DataW.trod_lt m _ _ _ hm
  have k1 := h1
  have lt1 : ∀ x ∈ p1, x.block < W.heap.size := by obtain ⟨m, hm⟩ := k1; exact DataW.trod_lt m _ _ _ hm
  obtain ⟨rfl, rfl⟩ := trodVars_none hV
  obtain ⟨a0, len0, cap0, xs0, hv0, hr0⟩ := open_ws (hval 0 22 v0 rfl rfl) h0
  subst hv0
  obtain ⟨a1, len1, cap1, xs1, hv1, hr1⟩ := open_ws (hval 1 22 v1 rfl rfl) h1
  subst hv1
  clear hA0 hval0
  refine (walk a0 len0 cap0 xs0 a1 len1 cap1 xs1 W hr0 hr1 (tab_of hL)).mono fun e W' ⟨he, bel⟩ => ?_
  subst he
  exact ⟨_, rfl, _, _, _, [], _, [], hW', trodAll_mk1 (shut_bool Tryd.underlying4 _), (trodAll_mk2 (Below.trod laidOut (by kernel_rfl) (of_decide_eq_true (by kernel_rfl)) k0 bel lt0) (Below.trod laidOut (by kernel_rfl) (of_decide_eq_true (by kernel_rfl)) k1 bel lt1)), rfl, bel.frame _, fun h => by cases h⟩

set_option maxRecDepth 100000 in
theorem over : Rows.fnExactRepairRow.holds Tryd.pinned (OpenSpec.ofChange Rows.fnExactRepairSpec) :=
  OpenClaim.holds_of_wide 4 Tryd.f4 rfl rfl rfl rfl rfl rfl rfl ⟨rfl, rfl, rfl, rfl, rfl⟩ rfl rfl rfl rfl rfl (by kernel_rfl) Tryd.func4 (by kernel_rfl)
    (of_decide_eq_true (by kernel_rfl)) (by unfold Func.isWrapper; rw [if_neg (by decide +kernel)]; exact ⟨rfl, rfl⟩)
    (fun os started H enc _ => lifted os started H enc)

set_option maxRecDepth 100000 in
theorem card : Rows.FnExactRepairCardSaid :=
  Claim7.holds_tied_plain_at .later [] [.data, .data, .data] true Rows.fnExactRepairCard.stood.harness Rows.fnExactRepairCard.stood.looks
    over (fun _ h => by cases h) (by kernel_rfl) (fun _ h => by cases h) fnExactRepair_row_tie rfl ⟨rfl, rfl⟩ (by kernel_rfl) rfl
    (fun f fn hf hfn => by
      obtain rfl : f = 4 := Option.some.inj ((show Tryd.prog.funcNamed Rows.fnExactRepairRow.func = some 4 by kernel_rfl).symm.trans hf) |>.symm
      obtain rfl : fn = Tryd.f4 := (Option.some.inj (Tryd.func4.symm.trans hfn)).symm
      exact ⟨by kernel_rfl, fun j t ht => by
        rw [Tryd.params4] at ht
        have hm : t ∈ [22, 22] := by simpa using Array.mem_of_getElem? ht
        have hall : ([22, 22].all fun u => !Tryd.prog.wantsStandIn u) = true := by kernel_rfl
        exact (show Tryd.prog.wantsStandIn t = false by simpa using List.all_eq_true.1 hall t hm)⟩)
    (by kernel_rfl)

end Go.Proofs.YtidpcjcnhklmpalDoor.lawRepair
namespace Go.Proofs.YtidpcjcnhklmpalDoor
theorem fnExactRepair_holds : Rows.FnExactRepairCardSaid := lawRepair.card
#print axioms fnExactRepair_holds
end Go.Proofs.YtidpcjcnhklmpalDoor
