/- At every list of writes the law FnExactTreeOf answers true: impl.TreeOf answers as spec.TreeOf, leaves the list as it was, and its answer owns its memory. The tables of Go's library that it reads are listed in the row and tied to the program's text by the card. -/
import Derived.Test.YtlbcpppmpbbkdalDoorTreeI
import Derived.Test.YtlbcpppmpbbkdalDoorOpenWs
import Derived.Test.YtlbcpppmpbbkdalDoorMarks2
import Derived.Test.YtlbcpppmpbbkdalDoorTie
import Derived.Test.YtlbcpppmpbbkdalDoorCards
import Derived.LaidMore
import Derived.Stop.LaidErr
import Derived.Lib.LaidTab
import Derived.SevenTiedAt
namespace Go.Proofs.YtlbcpppmpbbkdalDoor.lawTreeOf
open Go.ChangeShapes Go.WideShapes Go.ChangeAt Go.RowKit Go.Joins
attribute [local go_sem ↓] Go.wp_at_zero Go.wp_at_succ

set_option maxRecDepth 100000 in
set_option maxHeartbeats 8000000 in
theorem walk (a : Option Addr) (n cap : Nat) (us : List Wr) (w : World) (hr : us.length = n ∧ n ≤ maxLen ∧ IsWs w a us) (ht : Tab w) :
    Calls Tryd.prog 3 #[.slice a n cap] w fun e w' => e = .returned (.bool true) ∧ Below w.heap.size w w' := by
  obtain ⟨hl, hm, hi⟩ := hr
  have hlt : 0 < w.heap.size := ht.lt
  have HT := Lib.hid ht
  clear ht
  have HI := Lib.hid hi
  have HN := Lib.hid hl
  clear hi hl
  go_enter Tryd.func3, Tryd.ntmps3
  go_wp2_with fail
  refine (szWriteS_any a n cap 1048576 us _ (by omega) (by omega) hm HN.out HI.out).mono ?_
  rintro e w1 ⟨r, rfl, hr, hb⟩
  have HB1 := Lib.hid hb
  clear hb hm
  rcases hr with rfl | ⟨r0, hr⟩
  · go_wp2
    go_ret
    exact ⟨rfl, HB1.out⟩
  have hn : n ≤ 1048576 := by omega
  have hbu : bulk us ≤ 1048576 := by omega
  have HF : Hid (Few us) := few_of_bulk hbu
  have HX : Hid (∀ i, i < n → (us.getD i wz).xs.length ≤ 1048576) := fun i h => HF.out i (by rw [HN.out]; exact h)
  have HAL : Hid ((treeB us).length ≤ 15) := treeB_len us
  clear hr
  go_wp2_with fail
  refine (toWriteS_any a n cap us _ hn HN.out HX.out (HI.out.below HB1.out)).mono ?_
  rintro e w2 ⟨γ2, rfl, hO2, hb⟩
  have HB2 : Hid (Below w.heap.size w w2) := below_step HB1.out HB1.out.size hb
  have HO2 := Lib.hid hO2
  clear hb hO2 HB1
  go_wp2_with fail
  refine (specTree_any _ n n us _ HN.out hn HF.out (HO2.out.holds.isWs HF.out)).mono ?_
  rintro e w3 ⟨as_, cs, rfl, hs, hb⟩
  have HS : Hid (IsInts w3 as_ (treeB us)) := hs.isInts
  have HB3 : Hid (Below w.heap.size w w3) := below_step HB2.out HB2.out.size hb
  clear hb hs HB2 HO2
  go_wp2_with fail
  refine (toWriteS_any a n cap us _ hn HN.out HX.out (HI.out.below HB3.out)).mono ?_
  rintro e w4 ⟨γ4, rfl, hO4, hb⟩
  have HB4 : Hid (Below w.heap.size w w4) := below_step HB3.out HB3.out.size hb
  have HS4 : Hid (Below w3.heap.size w3 w4) := hb
  have HO4 : Hid (OwnG w4 w3.heap.size w3.heap.size us γ4) := hO4.gen
  have hs34 : w3.heap.size ≤ w4.heap.size := hb.size
  have hw3 : w.heap.size ≤ w3.heap.size := HB3.out.size
  have HTK : Hid (∀ x, TakenUp w3.heap.size us γ4 x → w3.heap.size ≤ x ∧ x < w4.heap.size) := fun x hx => by
    rcases hx with rfl | ⟨i, hi, hp, rfl⟩
    · exact ⟨Nat.le_refl _, HO4.out.lt⟩
    · exact ⟨(HO4.out.deps i hi hp).1, (HO4.out.deps i hi hp).2.1⟩
  clear hb hO4 HB3
  go_wp2_with fail
  refine (implTree_any _ n n us _ HN.out hn HF.out (HO4.out.isWs HF.out) (HT.out.below HB4.out hlt)).mono ?_
  rintro e w5 ⟨ag, cg, rfl, hg, hb⟩
  have HB5 : Hid (Below w.heap.size w w5) := below_step HB4.out HB4.out.size hb
  have HS5 : Hid (Below w3.heap.size w3 w5) := below_step HS4.out HS4.out.size hb
  have HO5 := Lib.hid (HO4.out.below hb)
  have HG5 := Lib.hid hg
  have hs45 : w4.heap.size ≤ w5.heap.size := hb.size
  clear hb hg HB4 HS4 HO4
  have HLL : ∃ L, (treeB us).length = L := ⟨_, rfl⟩
  obtain ⟨L, hL⟩ := HLL
  have HLN := Lib.hid hL
  have hLn : L ≤ 15 := by rw [← hL]; exact HAL.out
  clear HAL
  rw [hL]
  clear hL
  go_wp2_with fail
  refine (eqIntS_same _ _ L _ _ (treeB us) _ HLN.out (by omega) HG5.out.isInts (HS.out.below HS5.out)).mono ?_
  rintro e w6 ⟨rfl, hb⟩
  have HB6 : Hid (Below w.heap.size w w6) := below_step HB5.out HB5.out.size hb
  have HS6 : Hid (Below w3.heap.size w3 w6) := below_step HS5.out HS5.out.size hb
  have HO6 := Lib.hid (HO5.out.below hb)
  have HG6 := Lib.hid (HG5.out.below hb)
  clear hb HB5 HS5 HO5 HG5
  go_wp2_with fail
  refine (toWriteS_any a n cap us _ hn HN.out HX.out (HI.out.below HB6.out)).mono ?_
  rintro e w7 ⟨γ7, rfl, hO7, hb⟩
  have HB7 : Hid (Below w.heap.size w w7) := below_step HB6.out HB6.out.size hb
  have HS7 : Hid (Below w3.heap.size w3 w7) := below_step HS6.out HS6.out.size hb
  have HO7 := Lib.hid (HO6.out.below hb)
  have HG7 := Lib.hid (HG6.out.below hb)
  have HW7 : Hid (IsWs w7 (some ⟨w6.heap.size, 0, none⟩) us) := hO7.holds.isWs HF.out
  clear hb hO7 HB6 HS6 HO6 HG6
  go_wp2_with fail
  refine (eqWriteS_gen _ _ n n n us _ HN.out hn HF.out (HO7.out.isWs HF.out) HW7.out).mono ?_
  rintro e w8 ⟨rfl, hb⟩
  have HB8 : Hid (Below w.heap.size w w8) := below_step HB7.out HB7.out.size hb
  have HS8 : Hid (Below w3.heap.size w3 w8) := below_step HS7.out HS7.out.size hb
  have HO8 := Lib.hid (HO7.out.below hb)
  have HG8 := Lib.hid (HG7.out.below hb)
  clear hb HB7 HS7 HO7 HG7 HW7
  have HK1 : Hid (0 ≤ markK us 1 n) := by
    unfold markK
    show (0 : Int) ≤ _
    omega
  go_wp2_with fail
  refine (markWriteS_any _ _ n n 1 us γ4 _ HN.out hn hbu (by omega) (by omega) HO8.out).mono ?_
  rintro e w9 ⟨rfl, -, ho⟩
  have hbl : Below w3.heap.size w8 w9 := ho.below fun x hx => (HTK.out x hx).1
  have HB9 : Hid (Below w.heap.size w w9) := HB8.out.trans (hbl.mono hw3)
  have HS9 : Hid (Below w3.heap.size w3 w9) := HS8.out.trans hbl
  have HG9 := Lib.hid (HG8.out.only ho fun x hx => (HTK.out x hx).2)
  have k0 := HK1.out
  clear hbl ho HB8 HS8 HO8 HG8 HK1 HTK
  generalize markK us 1 n = k at *
  go_wp2_with fail
  refine (eqIntS_same _ _ L _ _ (treeB us) _ HLN.out (by omega) HG9.out.isInts (HS.out.below HS9.out)).mono ?_
  rintro e w10 ⟨rfl, hb⟩
  have HB10 : Hid (Below w.heap.size w w10) := below_step HB9.out HB9.out.size hb
  have HS10 : Hid (Below w3.heap.size w3 w10) := below_step HS9.out HS9.out.size hb
  have HG10 := Lib.hid (HG9.out.below hb)
  clear hb HB9 HS9 HG9
  go_wp2_with fail
  refine (markIntS_any _ _ L _ _ 1 (treeB us) _ HLN.out (by omega) (by omega) (by omega) HG10.out).mono ?_
  rintro e w11 ⟨rfl, hmk, ho⟩
  have hbl : Below w4.heap.size w10 w11 := ho.below fun x hx => hx.1
  have HB11 : Hid (Below w.heap.size w w11) := HB10.out.trans (hbl.mono (by omega))
  have HS11 : Hid (Below w3.heap.size w3 w11) := HS10.out.trans (hbl.mono (by omega))
  have HM11 := Lib.hid hmk
  clear hbl ho hmk HB10 HS10 HG10
  go_wp2_with fail
  refine (heldIntS_any L _ _ 1 _ (by omega) (by omega) (by omega) HM11.out).mono ?_
  rintro e w12 ⟨rfl, rfl⟩
  go_wp2_with fail
  refine (toWriteS_any a n cap us _ hn HN.out HX.out (HI.out.below HB11.out)).mono ?_
  rintro e w13 ⟨γ13, rfl, hO13, hb⟩
  have HB13 : Hid (Below w.heap.size w w13) := below_step HB11.out HB11.out.size hb
  have HS13 : Hid (Below w3.heap.size w3 w13) := below_step HS11.out HS11.out.size hb
  have HM13 := Lib.hid (HM11.out.below hb)
  have HW13 : Hid (IsWs w13 _ us) := hO13.holds.isWs HF.out
  clear hb hO13 HB11 HS11 HM11
  go_wp2_with fail
  refine (implTree_any _ n n us _ HN.out hn HF.out HW13.out (HT.out.below HB13.out hlt)).mono ?_
  rintro e w14 ⟨ah, ch, rfl, hh, hb⟩
  have HB14 : Hid (Below w.heap.size w w14) := below_step HB13.out HB13.out.size hb
  have HS14 : Hid (Below w3.heap.size w3 w14) := below_step HS13.out HS13.out.size hb
  have HM14 := Lib.hid (HM13.out.below hb)
  have HH := Lib.hid hh.isInts
  clear hb hh HB13 HS13 HM13 HW13
  rw [HLN.out]
  go_wp2_with fail
  refine (eqIntS_same _ _ L _ _ (treeB us) _ HLN.out (by omega) HH.out (HS.out.below HS14.out)).mono ?_
  rintro e w15 ⟨rfl, hb⟩
  have HB15 : Hid (Below w.heap.size w w15) := below_step HB14.out HB14.out.size hb
  have HM15 := Lib.hid (HM14.out.below hb)
  clear hb HB14 HS14 HM14 HH
  go_wp2_with fail
  refine (heldIntS_any L _ _ 1 _ (by omega) (by omega) (by omega) HM15.out).mono ?_
  rintro e w16 ⟨rfl, rfl⟩
  go_wp2
  go_ret
  exact ⟨rfl, HB15.out⟩

abbrev laid := Rows.fnExactTreeOfRow.laid

set_option maxRecDepth 100000 in
theorem door_met (os : Os) (args : Array Value) : laidMetH Tryd.prog laid ((World.doorLaid Tryd.prog 72 os).forCall (fun _ _ => 0) ⟨#[], args, []⟩).memory :=
  laidMetH_of_parts3 (fuel := 8) (laidMet_of_run' 8 (by kernel_rfl) (by kernel_rfl)) (by kernel_rfl) (by kernel_rfl)

set_option maxRecDepth 100000 in
theorem pow_same : (Rows.laid_internal_strconv_uint64pow10 : DataW Unit) = Lib.tabData .u64 Lib.pow10Tab := by kernel_rfl

set_option maxRecDepth 100000 in
theorem tab_of {W : World} (h : laidMetH Tryd.prog laid W) : Tab W := by
  rw [MakeChecks.laidMetH_plain _ _ _ (by kernel_rfl)] at h
  have h2 := h.tail.tail
  rw [pow_same] at h2
  exact Lib.tabIs_of_head gPow (by kernel_rfl) Tryd.underlying125 Tryd.underlying92 (by kernel_rfl) (by kernel_rfl) h2

set_option maxRecDepth 100000 in
theorem lifted (os : Os) (started : os.Started) (H : Type) (enc : TypeId × Value → H) :
    ReturnsInHanded {} Tryd.checked os 3 .any (fun w args => (Rows.fnExactTreeOfSpec.pre enc Tryd.prog Tryd.f3 [] false w args ∧ laidMetH Tryd.prog laid w) ∧ sizedMet enc Tryd.prog Tryd.f3 (OpenSpec.ofChange Rows.fnExactTreeOfSpec) false w args)
      (Rows.fnExactTreeOfSpec.post enc Tryd.prog Tryd.f3 false true false false) := by
  refine returnsInHanded_of_change_and (C := Tryd.checked) (X := fun w _ => laidMetH Tryd.prog laid w) (fun _ _ _ hh h => h.of_heap hh) own started (by kernel_rfl) Tryd.func3
    (ChangeSpec.witness_shaped (enc := enc) (C := Tryd.checked) (os := os) (X := fun w _ => laidMetH Tryd.prog laid w) false (World.doorLaid Tryd.prog 72 os) #[.slice none 0 0] 8 rfl (World.shaped_of_RefB (by kernel_rfl) (by kernel_rfl)) (by kernel_rfl) (by kernel_rfl) (by kernel_rfl) (door_met os _)) ?_
  intro W base args ds gs before hval0 hW _ _ hL _
  have hval : ∀ (j : Nat) t v, Tryd.f3.params[j]? = some t → args[j]? = some v → Value.okWide Tryd.prog W .any base t v := hval0
  have hW' := hW
  obtain ⟨p, q, hA0, hV, rfl, hfz, hnd⟩ := hW
  have hA : DataW.TrodAll enc Tryd.prog W 0 (fun _ => true) true Tryd.f3.params.toList args.toList ds p := hA0
  rw [Tryd.params3] at hA hval
  obtain ⟨v0, d0, rfl, rfl, h0⟩ := trodAll_one hA
  have k0 := h0
  have lt0 : ∀ x ∈ p, x.block < W.heap.size := by obtain ⟨m, hm⟩ := k0; exact DataW.trod_lt m _ _ _ hm
  obtain ⟨rfl, rfl⟩ := trodVars_none hV
  obtain ⟨a0, len0, cap0, xs0, hv0, hr0⟩ := open_ws (hval 0 22 v0 rfl rfl) h0
  subst hv0
  clear hA0 hval0
  refine (walk a0 len0 cap0 xs0 W hr0 (tab_of hL)).mono fun e W' ⟨he, bel⟩ => ?_
  subst he
  exact ⟨_, rfl, _, _, _, [], _, [], hW', trodAll_mk1 (shut_bool Tryd.underlying4 _), (trodAll_mk1 (Below.trod laidOut (by kernel_rfl) (of_decide_eq_true (by kernel_rfl)) k0 bel lt0)), rfl, bel.frame _, fun h => by cases h⟩

set_option maxRecDepth 100000 in
theorem over : Rows.fnExactTreeOfRow.holds Tryd.pinned (OpenSpec.ofChange Rows.fnExactTreeOfSpec) :=
  OpenClaim.holds_of_wide 3 Tryd.f3 rfl rfl rfl rfl rfl rfl rfl ⟨rfl, rfl, rfl, rfl, rfl⟩ rfl rfl rfl rfl rfl (by kernel_rfl) Tryd.func3 (by kernel_rfl)
    (of_decide_eq_true (by kernel_rfl)) (by unfold Func.isWrapper; rw [if_neg (by decide +kernel)]; exact ⟨rfl, rfl⟩)
    (fun os started H enc _ => lifted os started H enc)

set_option maxRecDepth 100000 in
theorem card : Rows.FnExactTreeOfCardSaid :=
  Claim7.holds_tied_plain_at .later [] [.data, .data, .data] true Rows.fnExactTreeOfCard.stood.harness Rows.fnExactTreeOfCard.stood.looks
    over (fun _ h => by cases h) (by kernel_rfl) (fun _ h => by cases h) fnExactTreeOf_row_tie rfl ⟨rfl, rfl⟩ (by kernel_rfl) rfl
    (fun f fn hf hfn => by
      obtain rfl : f = 3 := Option.some.inj ((show Tryd.prog.funcNamed Rows.fnExactTreeOfRow.func = some 3 by kernel_rfl).symm.trans hf) |>.symm
      obtain rfl : fn = Tryd.f3 := (Option.some.inj (Tryd.func3.symm.trans hfn)).symm
      exact ⟨by kernel_rfl, fun j t ht => by
        rw [Tryd.params3] at ht
        have hm : t ∈ [22] := by simpa using Array.mem_of_getElem? ht
        have hall : ([22].all fun u => !Tryd.prog.wantsStandIn u) = true := by kernel_rfl
        exact (show Tryd.prog.wantsStandIn t = false by simpa using List.all_eq_true.1 hall t hm)⟩)
    (by kernel_rfl)

end Go.Proofs.YtlbcpppmpbbkdalDoor.lawTreeOf
namespace Go.Proofs.YtlbcpppmpbbkdalDoor
theorem fnExactTreeOf_holds : Rows.FnExactTreeOfCardSaid := lawTreeOf.card
#print axioms fnExactTreeOf_holds
end Go.Proofs.YtlbcpppmpbbkdalDoor
