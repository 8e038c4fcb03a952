/- At every act the law FnExactActText answers true: impl.ActText gives just the text that spec.ActText gives. The tables of Go's library that it reads are listed in the row and tied to the program's text by the card. -/
import Derived.Test.YtmjpjglbkbobaaaDoorPack3
import Derived.Test.YtmjpjglbkbobaaaDoorTie
import Derived.Test.YtmjpjglbkbobaaaDoorCards
import Derived.LaidMore
import Derived.Stop.LaidErr
import Derived.Lib.LaidTab
import Derived.SevenTiedAt
namespace Go.Proofs.YtmjpjglbkbobaaaDoor.lawActText
open Go.ChangeShapes Go.WideShapes Go.ChangeAt Go.RowKit Go.Joins

set_option maxRecDepth 100000 in
theorem walk (x0 x1 x2 x3 x4 x5 : Int) (w : World) (hr : B6 x0 ∧ B6 x1 ∧ B6 x2 ∧ B6 x3 ∧ B6 x4 ∧ B6 x5) (ht : Tab w) :
    Calls Tryd.prog 3 #[actV x0 x1 x2 x3 x4 x5] w fun e w' => e = .returned (.bool true) ∧ Below w.heap.size w w' := by
  obtain ⟨b0, b1, b2, b3, b4, b5⟩ := hr
  have HT : Hid (Tab w) := ht
  clear ht
  obtain ⟨t, HS⟩ : ∃ t : ByteArray, Hid (t = str (actText x0 x1 x2 x3 x4 x5)) := ⟨_, rfl⟩
  have HTO : Hid (∀ W, Calls Tryd.prog 5 #[.agg #[.int .i64 x0, .int .i64 x1, .int .i64 x2, .int .i64 x3, .int .i64 x4, .int .i64 x5]] W fun e w' => e = .returned (actV x0 x1 x2 x3 x4 x5) ∧ Below W.heap.size W w') := fun W => toAct_any x0 x1 x2 x3 x4 x5 W
  have HA : Hid (ActIn w.heap.size x0 x1 x2 x3 x4 x5 (w.alloc (.cells #[.int .i64 x0, .int .i64 x1, .int .i64 x2, .int .i64 x3, .int .i64 x4, .int .i64 x5] 23))) := ActIn.new x0 x1 x2 x3 x4 x5 w _
  have HB : Hid (Below w.heap.size w (w.alloc (.cells #[.int .i64 x0, .int .i64 x1, .int .i64 x2, .int .i64 x3, .int .i64 x4, .int .i64 x5] 23))) := (Below.refl _ _).alloc (Nat.le_refl _) _
  unfold actV
  go_enter Tryd.func3, Tryd.ntmps3
  obtain ⟨-, e0, e1, e2, e3, e4, e5⟩ := HA.out
  go_wp2_with fail
  clear e0 e1 e2 e3 e4 e5
  generalize w.alloc (.cells #[.int .i64 x0, .int .i64 x1, .int .i64 x2, .int .i64 x3, .int .i64 x4, .int .i64 x5] 23) = wd at HA HB ⊢
  refine (HTO.out _).mono ?_
  rintro e w1 ⟨rfl, hb⟩
  have HB1 := Lib.hid (below_step HB.out HB.out.size hb)
  have HA1 := Lib.hid (HA.out.step hb)
  clear hb HB HA
  go_wp2_with fail
  refine (specAct_any x0 x1 x2 x3 x4 x5 _ b0 b1 b2 b3 b4 b5).mono ?_
  rintro e w2 ⟨rfl, hb⟩
  rw [← HS.out]
  have HB2 := Lib.hid (below_step HB1.out HB1.out.size hb)
  have HA2 := Lib.hid (HA1.out.step hb)
  clear hb HB1 HA1
  obtain ⟨-, e0, e1, e2, e3, e4, e5⟩ := HA2.out
  go_wp2_with fail
  clear e0 e1 e2 e3 e4 e5
  refine (HTO.out _).mono ?_
  rintro e w3 ⟨rfl, hb⟩
  have HB3 := Lib.hid (below_step HB2.out HB2.out.size hb)
  clear hb HB2
  go_wp2_with fail
  refine (implAct_any x0 x1 x2 x3 x4 x5 _ b0 b1 b2 b3 b4 b5 (HT.out.below HB3.out HT.out.lt)).mono ?_
  rintro e w4 ⟨rfl, hb⟩
  rw [← HS.out]
  have HB4 := Lib.hid (below_step HB3.out HB3.out.size hb)
  clear hb HB3
  go_wp2
  go_ret
  exact ⟨rfl, HB4.out⟩

abbrev laid := Rows.fnExactActTextRow.laid

set_option maxRecDepth 100000 in
theorem door_met (os : Os) (args : Array Value) : laidMetH Tryd.prog laid ((World.doorLaid Tryd.prog 72 os).forCall (fun _ _ => 0) ⟨#[], args, []⟩).memory :=
  laidMetH_of_parts3 (fuel := 8) (laidMet_of_run' 8 (by kernel_rfl) (by kernel_rfl)) (by kernel_rfl) (by kernel_rfl)

set_option maxRecDepth 100000 in
theorem pow_same : (Rows.laid_internal_strconv_uint64pow10 : DataW Unit) = Lib.tabData .u64 Lib.pow10Tab := by kernel_rfl

set_option maxRecDepth 100000 in
theorem tab_of {W : World} (h : laidMetH Tryd.prog laid W) : Tab W := by
  rw [MakeChecks.laidMetH_plain _ _ _ (by kernel_rfl)] at h
  have h2 := h.tail.tail
  rw [pow_same] at h2
  exact Lib.tabIs_of_head gPow (by kernel_rfl) Tryd.underlying56 Tryd.underlying49 (by kernel_rfl) (by kernel_rfl) h2

set_option maxRecDepth 100000 in
theorem lifted (os : Os) (started : os.Started) (H : Type) (enc : TypeId × Value → H) :
    ReturnsInHanded {} Tryd.checked os 3 .any (fun w args => (Rows.fnExactActTextSpec.pre enc Tryd.prog Tryd.f3 [] false w args ∧ laidMetH Tryd.prog laid w) ∧ sizedMet enc Tryd.prog Tryd.f3 (OpenSpec.ofChange Rows.fnExactActTextSpec) false w args)
      (Rows.fnExactActTextSpec.post enc Tryd.prog Tryd.f3 false true false false) := by
  refine returnsInHanded_of_change_and (C := Tryd.checked) (X := fun w _ => laidMetH Tryd.prog laid w) (fun _ _ _ hh h => h.of_heap hh) own started (by kernel_rfl) Tryd.func3
    (ChangeSpec.witness_shaped (enc := enc) (C := Tryd.checked) (os := os) (X := fun w _ => laidMetH Tryd.prog laid w) false (World.doorLaid Tryd.prog 72 os) #[.agg #[.int .i64 0, .int .i64 0, .int .i64 0, .int .i64 0, .int .i64 0, .int .i64 0]] 8 rfl (World.shaped_of_RefB (by kernel_rfl) (by kernel_rfl)) (by kernel_rfl) (by kernel_rfl) (by kernel_rfl) (door_met os _)) ?_
  intro W base args ds gs before hval0 hW _ _ hL _
  have hval : ∀ (j : Nat) t v, Tryd.f3.params[j]? = some t → args[j]? = some v → Value.okWide Tryd.prog W .any base t v := hval0
  have hW' := hW
  obtain ⟨p, q, hA0, hV, rfl, hfz, hnd⟩ := hW
  have hA : DataW.TrodAll enc Tryd.prog W 0 (fun _ => true) true Tryd.f3.params.toList args.toList ds p := hA0
  rw [Tryd.params3] at hA hval
  obtain ⟨v0, d0, rfl, rfl, h0⟩ := trodAll_one hA
  have k0 := h0
  have lt0 : ∀ x ∈ p, x.block < W.heap.size := by obtain ⟨m, hm⟩ := k0; exact DataW.trod_lt m _ _ _ hm
  obtain ⟨rfl, rfl⟩ := trodVars_none hV
  obtain ⟨y00, y01, y02, y03, y04, y05, hv0, hr0⟩ := open_act (hval 0 23 v0 rfl rfl) h0
  subst hv0
  clear hA0 hval0
  refine (walk y00 y01 y02 y03 y04 y05 W hr0 (tab_of hL)).mono fun e W' ⟨he, bel⟩ => ?_
  subst he
  exact ⟨_, rfl, _, _, _, [], _, [], hW', trodAll_mk1 (shut_bool Tryd.underlying4 _), (trodAll_mk1 (Below.trod laidOut (by kernel_rfl) (of_decide_eq_true (by kernel_rfl)) k0 bel lt0)), rfl, bel.frame _, fun h => by cases h⟩

set_option maxRecDepth 100000 in
theorem over : Rows.fnExactActTextRow.holds Tryd.pinned (OpenSpec.ofChange Rows.fnExactActTextSpec) :=
  OpenClaim.holds_of_wide 3 Tryd.f3 rfl rfl rfl rfl rfl rfl rfl ⟨rfl, rfl, rfl, rfl, rfl⟩ rfl rfl rfl rfl rfl (by kernel_rfl) Tryd.func3 (by kernel_rfl)
    (of_decide_eq_true (by kernel_rfl)) (by unfold Func.isWrapper; rw [if_neg (by decide +kernel)]; exact ⟨rfl, rfl⟩)
    (fun os started H enc _ => lifted os started H enc)

set_option maxRecDepth 100000 in
theorem card : Rows.FnExactActTextCardSaid :=
  Claim7.holds_tied_plain_at .later [] [.data, .data, .data] true Rows.fnExactActTextCard.stood.harness Rows.fnExactActTextCard.stood.looks
    over (fun _ h => by cases h) (by kernel_rfl) (fun _ h => by cases h) fnExactActText_row_tie rfl ⟨rfl, rfl⟩ (by kernel_rfl) rfl
    (fun f fn hf hfn => by
      obtain rfl : f = 3 := Option.some.inj ((show Tryd.prog.funcNamed Rows.fnExactActTextRow.func = some 3 by kernel_rfl).symm.trans hf) |>.symm
      obtain rfl : fn = Tryd.f3 := (Option.some.inj (Tryd.func3.symm.trans hfn)).symm
      exact ⟨by kernel_rfl, fun j t ht => by
        rw [Tryd.params3] at ht
        have hm : t ∈ [23] := by simpa using Array.mem_of_getElem? ht
        have hall : ([23].all fun u => !Tryd.prog.wantsStandIn u) = true := by kernel_rfl
        exact (show Tryd.prog.wantsStandIn t = false by simpa using List.all_eq_true.1 hall t hm)⟩)
    (by kernel_rfl)

end Go.Proofs.YtmjpjglbkbobaaaDoor.lawActText
namespace Go.Proofs.YtmjpjglbkbobaaaDoor
theorem fnExactActText_holds : Rows.FnExactActTextCardSaid := lawActText.card
#print axioms fnExactActText_holds
end Go.Proofs.YtmjpjglbkbobaaaDoor
