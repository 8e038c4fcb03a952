/- At every list of writes the law FnExactBatchText answers true: impl.BatchText answers as spec.BatchText and leaves the list as it was. The tables of Go's library that it reads are listed in the row and tied to the program's text by the card. -/
import Derived.Test.YtidpcjcnhklmpalDoorPack7
import Derived.Test.YtidpcjcnhklmpalDoorTie
import Derived.Test.YtidpcjcnhklmpalDoorCards
import Derived.LaidMore
import Derived.Stop.LaidErr
import Derived.Lib.LaidTab
import Derived.SevenTiedAt
namespace Go.Proofs.YtidpcjcnhklmpalDoor.lawBatchText
open Go.ChangeShapes Go.WideShapes Go.ChangeAt Go.RowKit Go.Joins
attribute [local go_sem ↓] Go.wp_at_zero Go.wp_at_succ

set_option maxRecDepth 100000 in
theorem ws0_of {w : World} {b : Nat} {ws : List Wr} {γ : Nat → Nat} (h : HoldsWs w b ws γ) : IsWs0 w (some ⟨b, 0, none⟩) ws := by
  refine .inr ⟨b, 0, rfl, h.1, fun i hi => ?_⟩
  obtain ⟨⟨cap, h1⟩, h2, h3⟩ := h.2 i hi
  exact ⟨_, cap, by rw [Nat.zero_add]; exact h1, .inr ⟨_, rfl, h2, h3⟩⟩

set_option maxRecDepth 100000 in
set_option maxHeartbeats 4000000 in
theorem walk (a : Option Addr) (len cap : Nat) (ws : List Wr) (w : World) (hr : ws.length = len ∧ len ≤ maxLen ∧ IsWs w a ws) (ht : Tab w) :
    Calls Tryd.prog 5 #[.slice a len cap] w fun e w' => e = .returned (.bool true) ∧ Below w.heap.size w w' := by
  obtain ⟨hl, hm, hi⟩ := hr
  have hlt : 1 < w.heap.size := ht.lt
  have HT := Lib.hid ht
  have HI := Lib.hid hi
  have HL := Lib.hid hl
  clear hi hl ht
  go_enter Tryd.func5, Tryd.ntmps5
  go_wp2_with fail
  refine (szWriteS_any a len cap 1048576 ws _ (by omega) (by omega) hm HL.out HI.out).mono ?_
  rintro e w1 ⟨r, rfl, hr, hb⟩
  have HB1 := Lib.hid hb
  clear hb hm
  rcases hr with rfl | ⟨r0, hr⟩
  · go_wp2
    go_ret
    exact ⟨rfl, HB1.out⟩
  have hn : len ≤ 1048576 := by omega
  have HF : Hid (Few ws) := few_of_bulk (by omega)
  have HX : Hid (∀ i, i < len → (ws.getD i wz).xs.length ≤ 1048576) := fun i h => HF.out i (by rw [HL.out]; exact h)
  clear hr
  go_wp2_with fail
  refine (toWriteS_any a len cap ws _ hn HL.out HX.out (HI.out.below HB1.out)).mono ?_
  rintro e w2 ⟨γ2, rfl, hO2, hb⟩
  have HB2 : Hid (Below w.heap.size w w2) := below_step HB1.out HB1.out.size hb
  have HO2 := Lib.hid hO2
  clear hb hO2 HB1
  go_wp2_with fail
  refine (specBatch_any _ len len ws _ HL.out hn HF.out (ws0_of HO2.out.holds)).mono ?_
  rintro e w3 ⟨rfl, hb⟩
  have HB3 : Hid (Below w.heap.size w w3) := below_step HB2.out HB2.out.size hb
  clear hb HB2 HO2
  go_wp2_with fail
  refine (toWriteS_any a len cap ws _ hn HL.out HX.out (HI.out.below HB3.out)).mono ?_
  rintro e w4 ⟨γ4, rfl, hO4, hb⟩
  have HB4 : Hid (Below w.heap.size w w4) := below_step HB3.out HB3.out.size hb
  have HO4 := Lib.hid hO4
  have HT4 := Lib.hid (HT.out.below HB4.out hlt)
  clear hb hO4 HB3
  go_wp2_with fail
  refine (implBatch_any _ len len ws _ HL.out hn HF.out (ws0_of HO4.out.holds) HT4.out).mono ?_
  rintro e w5 ⟨rfl, hb⟩
  have HB5 : Hid (Below w.heap.size w w5) := below_step HB4.out HB4.out.size hb
  have HO5 := Lib.hid (HO4.out.below hb)
  clear hb HB4 HO4 HT4
  generalize str (batchT ws) = z at *
  go_wp2_with fail
  refine (toWriteS_any a len cap ws _ hn HL.out HX.out (HI.out.below HB5.out)).mono ?_
  rintro e w6 ⟨γ6, rfl, hO6, hb⟩
  have HB6 : Hid (Below w.heap.size w w6) := below_step HB5.out HB5.out.size hb
  have HO6 := Lib.hid hO6
  have HO56 := Lib.hid (HO5.out.below hb)
  clear hb hO6 HB5 HO5
  go_wp2_with fail
  refine (eqWriteS_same _ _ len len len ws _ _ _ HL.out hn HF.out HO56.out.holds HO6.out.holds).mono ?_
  rintro e w7 ⟨rfl, hb⟩
  have HB7 : Hid (Below w.heap.size w w7) := below_step HB6.out HB6.out.size hb
  clear hb
  go_wp2
  go_ret
  exact ⟨rfl, HB7.out⟩

abbrev laid := Rows.fnExactBatchTextRow.laid

set_option maxRecDepth 100000 in
theorem door_met (os : Os) (args : Array Value) : laidMetH Tryd.prog laid ((World.doorLaid Tryd.prog 72 os).forCall (fun _ _ => 0) ⟨#[], args, []⟩).memory :=
  laidMetH_of_parts3 (fuel := 8) (laidMet_of_run' 8 (by kernel_rfl) (by kernel_rfl)) (by kernel_rfl) (by kernel_rfl)

set_option maxRecDepth 100000 in
theorem pow_same : (Rows.laid_internal_strconv_uint64pow10 : DataW Unit) = Lib.tabData .u64 Lib.pow10Tab := by kernel_rfl

set_option maxRecDepth 100000 in
theorem tab_of {W : World} (h : laidMetH Tryd.prog laid W) : Tab W := by
  rw [MakeChecks.laidMetH_plain _ _ _ (by kernel_rfl)] at h
  have h2 := h.tail.tail
  rw [pow_same] at h2
  exact Lib.tabIs_of_head gPow (by kernel_rfl) Tryd.underlying130 Tryd.underlying96 (by kernel_rfl) (by kernel_rfl) h2

set_option maxRecDepth 100000 in
theorem lifted (os : Os) (started : os.Started) (H : Type) (enc : TypeId × Value → H) :
    ReturnsInHanded {} Tryd.checked os 5 .any (fun w args => (Rows.fnExactBatchTextSpec.pre enc Tryd.prog Tryd.f5 [] false w args ∧ laidMetH Tryd.prog laid w) ∧ sizedMet enc Tryd.prog Tryd.f5 (OpenSpec.ofChange Rows.fnExactBatchTextSpec) false w args)
      (Rows.fnExactBatchTextSpec.post enc Tryd.prog Tryd.f5 false true false false) := by
  refine returnsInHanded_of_change_and (C := Tryd.checked) (X := fun w _ => laidMetH Tryd.prog laid w) (fun _ _ _ hh h => h.of_heap hh) own started (by kernel_rfl) Tryd.func5
    (ChangeSpec.witness_shaped (enc := enc) (C := Tryd.checked) (os := os) (X := fun w _ => laidMetH Tryd.prog laid w) false (World.doorLaid Tryd.prog 72 os) #[.slice none 0 0] 8 rfl (World.shaped_of_RefB (by kernel_rfl) (by kernel_rfl)) (by kernel_rfl) (by kernel_rfl) (by kernel_rfl) (door_met os _)) ?_
  intro W base args ds gs before hval0 hW _ _ hL _
  have hval : ∀ (j : Nat) t v, Tryd.f5.params[j]? = some t → args[j]? = some v → Value.okWide Tryd.prog W .any base t v := hval0
  have hW' := hW
  obtain ⟨p, q, hA0, hV, rfl, hfz, hnd⟩ := hW
  have hA : DataW.TrodAll enc Tryd.prog W 0 (fun _ => true) true Tryd.f5.params.toList args.toList ds p := hA0
  rw [Tryd.params5] at hA hval
  obtain ⟨v0, d0, rfl, rfl, h0⟩ := trodAll_one hA
  have k0 := h0
  have lt0 : ∀ x ∈ p, x.block < W.heap.size := by obtain ⟨m, hm⟩ := k0; exact DataW.trod_lt m _ _ _ hm
  obtain ⟨rfl, rfl⟩ := trodVars_none hV
  obtain ⟨a0, len0, cap0, xs0, hv0, hr0⟩ := open_ws (hval 0 22 v0 rfl rfl) h0
  subst hv0
  clear hA0 hval0
  refine (walk a0 len0 cap0 xs0 W hr0 (tab_of hL)).mono fun e W' ⟨he, bel⟩ => ?_
  subst he
  exact ⟨_, rfl, _, _, _, [], _, [], hW', trodAll_mk1 (shut_bool Tryd.underlying4 _), (trodAll_mk1 (Below.trod laidOut (by kernel_rfl) (of_decide_eq_true (by kernel_rfl)) k0 bel lt0)), rfl, bel.frame _, fun h => by cases h⟩

set_option maxRecDepth 100000 in
theorem over : Rows.fnExactBatchTextRow.holds Tryd.pinned (OpenSpec.ofChange Rows.fnExactBatchTextSpec) :=
  OpenClaim.holds_of_wide 5 Tryd.f5 rfl rfl rfl rfl rfl rfl rfl ⟨rfl, rfl, rfl, rfl, rfl⟩ rfl rfl rfl rfl rfl (by kernel_rfl) Tryd.func5 (by kernel_rfl)
    (of_decide_eq_true (by kernel_rfl)) (by unfold Func.isWrapper; rw [if_neg (by decide +kernel)]; exact ⟨rfl, rfl⟩)
    (fun os started H enc _ => lifted os started H enc)

set_option maxRecDepth 100000 in
theorem card : Rows.FnExactBatchTextCardSaid :=
  Claim7.holds_tied_plain_at .later [] [.data, .data, .data] true Rows.fnExactBatchTextCard.stood.harness Rows.fnExactBatchTextCard.stood.looks
    over (fun _ h => by cases h) (by kernel_rfl) (fun _ h => by cases h) fnExactBatchText_row_tie rfl ⟨rfl, rfl⟩ (by kernel_rfl) rfl
    (fun f fn hf hfn => by
      obtain rfl : f = 5 := Option.some.inj ((show Tryd.prog.funcNamed Rows.fnExactBatchTextRow.func = some 5 by kernel_rfl).symm.trans hf) |>.symm
      obtain rfl : fn = Tryd.f5 := (Option.some.inj (Tryd.func5.symm.trans hfn)).symm
      exact ⟨by kernel_rfl, fun j t ht => by
        rw [Tryd.params5] at ht
        have hm : t ∈ [22] := by simpa using Array.mem_of_getElem? ht
        have hall : ([22].all fun u => !Tryd.prog.wantsStandIn u) = true := by kernel_rfl
        exact (show Tryd.prog.wantsStandIn t = false by simpa using List.all_eq_true.1 hall t hm)⟩)
    (by kernel_rfl)

end Go.Proofs.YtidpcjcnhklmpalDoor.lawBatchText
namespace Go.Proofs.YtidpcjcnhklmpalDoor
theorem fnExactBatchText_holds : Rows.FnExactBatchTextCardSaid := lawBatchText.card
#print axioms fnExactBatchText_holds
end Go.Proofs.YtidpcjcnhklmpalDoor
