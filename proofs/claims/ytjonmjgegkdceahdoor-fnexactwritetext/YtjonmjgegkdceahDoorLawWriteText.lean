/- At every write the law FnExactWriteText answers true: impl.WriteText gives just the text that spec.WriteText gives, and leaves the write as it was. The tables of Go's library that it reads are listed in the row and tied to the program's text by the card. -/
import Derived.Test.YtjonmjgegkdceahDoorITextT
import Derived.Test.YtjonmjgegkdceahDoorOpenDeps
import Derived.Test.YtjonmjgegkdceahDoorTie
import Derived.Test.YtjonmjgegkdceahDoorCards
import Derived.LaidMore
import Derived.Stop.LaidErr
import Derived.Lib.LaidTab
import Derived.SevenTiedAt
namespace Go.Proofs.YtjonmjgegkdceahDoor.lawWriteText
open Go.ChangeShapes Go.WideShapes Go.ChangeAt Go.RowKit Go.Joins
attribute [local go_sem ↓] Go.wp_at_zero Go.wp_at_succ

set_option maxHeartbeats 1000000 in
theorem walk_big (k c s q v : Int) (de : Bool) (a : Option Addr) (len cap : Nat) (w : World) (hm : len ≤ maxLen) (h : 1048576 < len) :
    Calls Tryd.prog 3 #[wrV k c s q v de a len cap] w fun e w' => e = .returned (.bool true) ∧ Below w.heap.size w w' := by
  go_enter Tryd.func3, Tryd.ntmps3
  go_wp2_with fail
  refine (szWrite_big _ _ _ _ _ _ _ _ _ _ _ (by omega) (by omega) (by omega) hm).mono ?_
  rintro e w1 ⟨rfl, hb⟩
  have HB : Hid (Below w.heap.size w w1) := below_step ((Below.refl _ _).alloc (Nat.le_refl _) _) (by simp) hb
  clear hb
  go_wp2
  go_ret
  exact ⟨rfl, HB.out⟩

theorem keepH {W w' : World} {b : Nat} {xs : List Dp} (hb : Below W.heap.size W w') (h : HoldsDeps W b 0 xs) (hz : b < W.heap.size) : HoldsDeps w' b 0 xs := h.below hb hz

set_option maxHeartbeats 2000000 in
theorem walk_small (k c s q v : Int) (de : Bool) (a : Option Addr) (cap : Nat) (xs : List Dp) (w : World) (hi : IsDeps w a xs) (h : xs.length ≤ 1048576) (ht : Tab w) :
    Calls Tryd.prog 3 #[wrV k c s q v de a xs.length cap] w fun e w' => e = .returned (.bool true) ∧ Below w.heap.size w w' := by
  have HI : Hid (IsDeps w a xs) := hi
  have HT : Hid (Tab w) := ht
  clear hi ht
  obtain ⟨t, HS⟩ : ∃ t : ByteArray, Hid (t = str (writeText k c s q v de xs)) := ⟨_, Lib.hid rfl⟩
  go_enter Tryd.func3, Tryd.ntmps3
  go_wp2_with fail
  refine (szWrite_small _ _ _ _ _ _ _ _ _ _ _ (by omega) (by omega) (by omega)).mono ?_
  rintro e w1 ⟨rfl, hb1⟩
  have HX1 : Hid (BoxIn w w1 k c s q v de a xs.length cap) := BoxIn.start hb1
  clear hb1
  have b0 := HX1.out.c0
  have b1 := HX1.out.c1
  have b2 := HX1.out.c2
  have b3 := HX1.out.c3
  have b4 := HX1.out.c4
  have b5 := HX1.out.c5
  have b6 := HX1.out.c6
  go_wp2_with fail
  refine (toWrite_any _ _ _ _ _ _ _ _ _ xs _ h rfl (HI.out.below HX1.out.below)).mono ?_
  rintro e w2 ⟨g, rfl, hg1, hg2, hg3, hb2⟩
  have HG : Hid (HoldsDeps w2 g 0 xs) := hg3
  have HX2 : Hid (BoxIn w w2 k c s q v de a xs.length cap) := HX1.out.step hb2
  clear hg3 hb2 hg1 HX1 b0 b1 b2 b3 b4 b5 b6
  go_wp2_with fail
  refine (specText_any _ _ _ _ _ _ _ xs _ _ _ rfl h hg2 HG.out).mono ?_
  rintro e w3 ⟨rfl, hb3⟩
  rw [← HS.out]
  have HX3 : Hid (BoxIn w w3 k c s q v de a xs.length cap) := HX2.out.step hb3
  clear hb3 HG HX2 hg2
  have b0 := HX3.out.c0
  have b1 := HX3.out.c1
  have b2 := HX3.out.c2
  have b3 := HX3.out.c3
  have b4 := HX3.out.c4
  have b5 := HX3.out.c5
  have b6 := HX3.out.c6
  go_wp2_with fail
  refine (toWrite_any _ _ _ _ _ _ _ _ _ xs _ h rfl (HI.out.below HX3.out.below)).mono ?_
  rintro e w5 ⟨g4, rfl, hg41, hg42, hg43, hb5⟩
  have HG5 : Hid (HoldsDeps w5 g4 0 xs) := hg43
  have HX5 : Hid (BoxIn w w5 k c s q v de a xs.length cap) := HX3.out.step hb5
  clear hg43 hb5 HX3 hg41 b0 b1 b2 b3 b4 b5 b6
  go_wp2_with fail
  refine (implText_any _ _ _ _ _ _ _ xs _ _ _ rfl h (by simp; omega) (HG5.out.below ((Below.refl w5.heap.size w5).alloc (Nat.le_refl _) _) hg42) ((HT.out.below HX5.out.below HT.out.lt).below ((Below.refl w5.heap.size w5).alloc (Nat.le_refl _) _) (HT.out.below HX5.out.below HT.out.lt).lt)).mono ?_
  rintro e w6 ⟨rfl, hb6⟩
  rw [← HS.out]
  have HY : Hid (BoxIn w5 w6 k c s q v de (some ⟨g4, 0, none⟩) xs.length xs.length) := BoxIn.start hb6
  have HX6 : Hid (BoxIn w w6 k c s q v de a xs.length cap) := HX5.out.step HY.out.below
  have HG6 : Hid (HoldsDeps w6 g4 0 xs) := HG5.out.below HY.out.below hg42
  have hg62 : g4 < w6.heap.size := Nat.lt_trans hg42 HY.out.lt
  clear hb6
  go_wp2_with fail
  go_region_held3 (fun w' => w'.cell? ⟨w.heap.size, 0, none⟩ = some (.int .i64 k) ∧ w'.cell? ⟨w.heap.size, 1, none⟩ = some (.int .i64 c) ∧ w'.cell? ⟨w.heap.size, 2, none⟩ = some (.int .i64 s) ∧ w'.cell? ⟨w.heap.size, 3, none⟩ = some (.int .i64 q) ∧ w'.cell? ⟨w.heap.size, 4, none⟩ = some (.int .i64 v) ∧ w'.cell? ⟨w.heap.size, 5, none⟩ = some (.bool de) ∧ w'.cell? ⟨w.heap.size, 6, none⟩ = some (.slice a xs.length cap) ∧ w'.cell? ⟨w5.heap.size, 0, none⟩ = some (.int .i64 k) ∧ w'.cell? ⟨w5.heap.size, 1, none⟩ = some (.int .i64 c) ∧ w'.cell? ⟨w5.heap.size, 2, none⟩ = some (.int .i64 s) ∧ w'.cell? ⟨w5.heap.size, 3, none⟩ = some (.int .i64 q) ∧ w'.cell? ⟨w5.heap.size, 4, none⟩ = some (.int .i64 v) ∧ w'.cell? ⟨w5.heap.size, 5, none⟩ = some (.bool de) ∧ w'.cell? ⟨w5.heap.size, 6, none⟩ = some (.slice (some ⟨g4, 0, none⟩) xs.length xs.length) ∧ w.heap.size < w'.heap.size ∧ w5.heap.size < w'.heap.size ∧ Below w.heap.size w w' ∧ g4 < w'.heap.size ∧ HoldsDeps w' g4 0 xs)
    (first | exact ⟨HX6.out.c0, HX6.out.c1, HX6.out.c2, HX6.out.c3, HX6.out.c4, HX6.out.c5, HX6.out.c6, HY.out.c0, HY.out.c1, HY.out.c2, HY.out.c3, HY.out.c4, HY.out.c5, HY.out.c6, HX6.out.lt, HY.out.lt, HX6.out.below.drew, hg62, HG6.out⟩ | (go_split_ands; refine ⟨?_, ?_, ?_, ?_, ?_, ?_, ?_, ?_, ?_, ?_, ?_, ?_, ?_, ?_, ?_, ?_, ?_, ?_, ?_⟩ <;> first | exact held_cell (by assumption) (by assumption) (by omega) | exact Nat.lt_of_lt_of_le (by assumption) (Below.size (by assumption)) | exact below_step (by assumption) (by omega) (by assumption) | exact keepH (by assumption) (by assumption) (by assumption)))
    (first | (go_at_call 8; refine (toWrite_any _ _ _ _ _ _ _ _ _ xs _ h rfl (HI.out.below HX6.out.below.drew)).mono ?_; rintro e w7 ⟨g7, rfl, hg71, hg72, hg73, hb7⟩) | (go_at_call 10; refine (eqWrite_same _ _ _ _ _ _ _ _ _ _ _ xs _ h rfl (Nat.lt_of_lt_of_le hg62 hb7.size) hg72 ((show HoldsDeps w6.drew g4 0 xs from HG6.out).below hb7 hg62) hg73).mono ?_; rintro e w8 ⟨rfl, hb8⟩))
  obtain ⟨-, -, -, -, -, -, -, -, -, -, -, -, -, -, -, -, HB0, -⟩ := ‹_ ∧ _›
  have HB : Hid (Below w.heap.size w w8) := HB0
  clear HB0 hb8 hb7
  go_wp2
  go_ret
  exact ⟨rfl, HB.out⟩

theorem walk (k c s q v : Int) (de : Bool) (a : Option Addr) (len cap : Nat) (xs : List Dp) (w : World) (hr : xs.length = len ∧ len ≤ maxLen ∧ IsDeps w a xs) (ht : Tab w) :
    Calls Tryd.prog 3 #[wrV k c s q v de a len cap] w fun e w' => e = .returned (.bool true) ∧ Below w.heap.size w w' := by
  obtain ⟨rfl, h2, h3⟩ := hr
  by_cases h : xs.length ≤ 1048576
  · exact walk_small k c s q v de a cap xs w h3 h ht
  · exact walk_big k c s q v de a xs.length cap w h2 (by omega)

abbrev laid := Rows.fnExactWriteTextRow.laid

theorem door_met (os : Os) (args : Array Value) : laidMetH Tryd.prog laid ((World.doorLaid Tryd.prog 72 os).forCall (fun _ _ => 0) ⟨#[], args, []⟩).memory :=
  laidMetH_of_parts3 (fuel := 8) (laidMet_of_run' 8 (by kernel_rfl) (by kernel_rfl)) (by kernel_rfl) (by kernel_rfl)

theorem pow_same : (Rows.laid_internal_strconv_uint64pow10 : DataW Unit) = Lib.tabData .u64 Lib.pow10Tab := by kernel_rfl

theorem tab_of {W : World} (h : laidMetH Tryd.prog laid W) : Tab W := by
  rw [MakeChecks.laidMetH_plain _ _ _ (by kernel_rfl)] at h
  have h2 := h.tail.tail
  rw [pow_same] at h2
  exact Lib.tabIs_of_head gPow (by kernel_rfl) Tryd.underlying118 Tryd.underlying72 (by kernel_rfl) (by kernel_rfl) h2

set_option maxRecDepth 100000 in
theorem lifted (os : Os) (started : os.Started) (H : Type) (enc : TypeId × Value → H) :
    ReturnsInHanded {} Tryd.checked os 3 .any (fun w args => (Rows.fnExactWriteTextSpec.pre enc Tryd.prog Tryd.f3 [] false w args ∧ laidMetH Tryd.prog laid w) ∧ sizedMet enc Tryd.prog Tryd.f3 (OpenSpec.ofChange Rows.fnExactWriteTextSpec) false w args)
      (Rows.fnExactWriteTextSpec.post enc Tryd.prog Tryd.f3 false true false false) := by
  refine returnsInHanded_of_change_and (C := Tryd.checked) (X := fun w _ => laidMetH Tryd.prog laid w) (fun _ _ _ hh h => h.of_heap hh) own started (by kernel_rfl) Tryd.func3
    (ChangeSpec.witness_shaped (enc := enc) (C := Tryd.checked) (os := os) (X := fun w _ => laidMetH Tryd.prog laid w) false (World.doorLaid Tryd.prog 72 os) #[.agg #[.int .i64 0, .int .i64 0, .int .i64 0, .int .i64 0, .int .i64 0, .bool false, .slice none 0 0]] 8 rfl (World.shaped_of_RefB (by kernel_rfl) (by kernel_rfl)) (by kernel_rfl) (by kernel_rfl) (by kernel_rfl) (door_met os _)) ?_
  intro W base args ds gs before hval0 hW _ _ hL _
  have hval : ∀ (j : Nat) t v, Tryd.f3.params[j]? = some t → args[j]? = some v → Value.okWide Tryd.prog W .any base t v := hval0
  have hW' := hW
  obtain ⟨p, q, hA0, hV, rfl, hfz, hnd⟩ := hW
  have hA : DataW.TrodAll enc Tryd.prog W 0 (fun _ => true) true Tryd.f3.params.toList args.toList ds p := hA0
  rw [Tryd.params3] at hA hval
  obtain ⟨v0, d0, rfl, rfl, h0⟩ := trodAll_one hA
  have k0 := h0
  have lt0 : ∀ x ∈ p, x.block < W.heap.size := by obtain ⟨m, hm⟩ := k0; exact DataW.trod_lt m _ _ _ hm
  obtain ⟨rfl, rfl⟩ := trodVars_none hV
  obtain ⟨ke0, c0, s0, q0, va0, de0, a0, len0, cap0, xs0, hv0, hr0⟩ := open_write (hval 0 26 v0 rfl rfl) h0
  subst hv0
  clear hA0 hval0
  refine (walk ke0 c0 s0 q0 va0 de0 a0 len0 cap0 xs0 W hr0 (tab_of hL)).mono fun e W' ⟨he, bel⟩ => ?_
  subst he
  exact ⟨_, rfl, _, _, _, [], _, [], hW', trodAll_mk1 (shut_bool Tryd.underlying4 _), (trodAll_mk1 (Below.trod laidOut (by kernel_rfl) (of_decide_eq_true (by kernel_rfl)) k0 bel lt0)), rfl, bel.frame _, fun h => by cases h⟩

theorem over : Rows.fnExactWriteTextRow.holds Tryd.pinned (OpenSpec.ofChange Rows.fnExactWriteTextSpec) :=
  OpenClaim.holds_of_wide 3 Tryd.f3 rfl rfl rfl rfl rfl rfl rfl ⟨rfl, rfl, rfl, rfl, rfl⟩ rfl rfl rfl rfl rfl (by kernel_rfl) Tryd.func3 (by kernel_rfl)
    (of_decide_eq_true (by kernel_rfl)) (by unfold Func.isWrapper; rw [if_neg (by decide +kernel)]; exact ⟨rfl, rfl⟩)
    (fun os started H enc _ => lifted os started H enc)

theorem card : Rows.FnExactWriteTextCardSaid :=
  Claim7.holds_tied_plain_at .later [] [.data, .data, .data] true Rows.fnExactWriteTextCard.stood.harness true
    over (fun _ h => by cases h) (by kernel_rfl) (fun _ h => by cases h) fnExactWriteText_row_tie rfl ⟨rfl, rfl⟩ (by kernel_rfl) rfl
    (fun f fn hf hfn => by
      obtain rfl : f = 3 := Option.some.inj ((show Tryd.prog.funcNamed Rows.fnExactWriteTextRow.func = some 3 by kernel_rfl).symm.trans hf) |>.symm
      obtain rfl : fn = Tryd.f3 := (Option.some.inj (Tryd.func3.symm.trans hfn)).symm
      exact ⟨by kernel_rfl, fun j t ht => by
        rw [Tryd.params3] at ht
        have hm : t ∈ [26] := by simpa using Array.mem_of_getElem? ht
        have hall : ([26].all fun u => !Tryd.prog.wantsStandIn u) = true := by kernel_rfl
        exact (show Tryd.prog.wantsStandIn t = false by simpa using List.all_eq_true.1 hall t hm)⟩)
    (by kernel_rfl)
end Go.Proofs.YtjonmjgegkdceahDoor.lawWriteText
namespace Go.Proofs.YtjonmjgegkdceahDoor
theorem fnExactWriteText_holds : Rows.FnExactWriteTextCardSaid := lawWriteText.card
#print axioms fnExactWriteText_holds
end Go.Proofs.YtjonmjgegkdceahDoor
