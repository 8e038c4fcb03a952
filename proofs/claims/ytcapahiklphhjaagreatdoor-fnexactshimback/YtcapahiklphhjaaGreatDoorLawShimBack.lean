/- At every number and every text the law FnExactShimBack answers true: impl.ShimBack answers as spec.ShimBack, and its answer owns its memory. The variables of the program and of Go's library that it reads are listed in the row and tied to the program's text by the card. -/
import Derived.Test.YtcapahiklphhjaaGreatDoorPack20
import Derived.Test.YtcapahiklphhjaaGreatDoorTie
import Derived.Test.YtcapahiklphhjaaGreatDoorCards
import Derived.LaidMore
import Derived.LaidHandle
import Derived.LaidLaws
import Derived.Stop.LaidErr
import Derived.Lib.LaidTab
import Derived.SevenTiedAt
import Derived.HandedShaped
import Derived.Lay
import Derived.OpenVars
import Derived.ChangeMaps5
namespace Go.Proofs.YtcapahiklphhjaaGreatDoor.lawShimBack
open Go.ChangeShapes Go.WideShapes Go.ChangeAt Go.RowKit Go.Joins
attribute [local go_sem ↓] Go.wp_at_zero Go.wp_at_succ

set_option maxRecDepth 100000 in
set_option maxHeartbeats 4000000 in
theorem walk (si : Int) (s : ByteArray) (w : World) (_ : -9223372036854775808 ≤ si ∧ si ≤ 9223372036854775807) (hs : s.size ≤ maxLen) (hL : LV w) :
    Calls Tryz.prog 6 #[.int .i64 si, .string s] w fun e w' => e = .returned (.bool true) ∧ Below w.heap.size w w' := by
  have hm : s.size ≤ 9223372036854775807 := hs
  have HL := Lib.hid hL
  clear hL hs
  by_cases hbg : s.size ≤ 1048576
  rotate_left
  · have hb' : (1048576 : Int) < (s.size : Int) := by omega
    go_enter Tryz.func6, Tryz.ntmps6
    go_wp2
    go_ret
    exact ⟨rfl, Below.refl _ _⟩
  have hb1 : ¬ (1048576 : Int) < (s.size : Int) := by omega
  obtain ⟨X, hX⟩ : ∃ X, X = backX si s := ⟨_, rfl⟩
  have HOK : Hid (mapOkB X.ws = true) := by rw [hX]; exact backX_ok si s
  have HF := Lib.hid (ok_few HOK.out)
  have hbu : bulk X.ws ≤ 36 := mapOk_bulk HOK.out
  have hl6 : X.ws.length ≤ 6 := mapOk_len HOK.out
  have HSP : Hid (∀ W, Calls Tryz.prog 26 #[.int .i64 si, .string s] W fun e w' => ∃ a cp, e = .returned (smV X a cp) ∧ IsWs w' a X.ws ∧ Below W.heap.size W w') := fun W => by rw [hX]; exact specBack_x si s W hbg
  have HIM : Hid (∀ W, LV W → Calls Tryz.prog 27 #[.int .i64 si, .string s] W fun e w' => ∃ a cp γ, e = .returned (smV X a cp) ∧ OwnA w' W.heap.size w'.heap.size a X.ws γ ∧ Below W.heap.size W w') := fun W hv => by rw [hX]; exact implBack_x si s W hbg hv
  clear hX
  go_enter Tryz.func6, Tryz.ntmps6
  have HB0 : Hid (Below w.heap.size w w) := Below.refl _ _
  go_wp2_with fail
  refine (HSP.out _).mono ?_
  rintro e w1 ⟨sa, sc, rfl, hw, hb⟩
  have HS1 := Lib.hid hw
  have HB1 := Lib.hid (below_step HB0.out HB0.out.size hb)
  clear HB0
  clear hb hw
  unfold smV shV
  have hA : Below w1.heap.size w1 (w1.alloc (.cells #[.int .i64 X.si, .int .i64 X.cl, .int .i64 X.sq, .int .i64 X.la, .slice sa X.ws.length sc, .string X.t] 29)) := (Below.refl _ _).alloc (Nat.le_refl _) _
  have HXS := Lib.hid (SBox.start w1 X.si X.cl X.sq X.la sa X.ws.length sc X.t 29)
  have hzV1 : (w1.alloc (.cells #[.int .i64 X.si, .int .i64 X.cl, .int .i64 X.sq, .int .i64 X.la, .slice sa X.ws.length sc, .string X.t] 29)).heap.size = w1.heap.size + 1 := by simp
  have HB2 := Lib.hid (below_step HB1.out HB1.out.size hA)
  clear HB1
  have HS2 := Lib.hid (HS1.out.below hA)
  clear hA HS1
  go_wp2_with fail
  generalize (w1.alloc (.cells #[.int .i64 X.si, .int .i64 X.cl, .int .i64 X.sq, .int .i64 X.la, .slice sa X.ws.length sc, .string X.t] 29)) = V1 at *
  have hw1v : w.heap.size ≤ V1.heap.size := HB2.out.size
  have HT0 : Hid (Below V1.heap.size V1 V1) := Below.refl _ _
  have HLV := Lib.hid (HL.out.below HB2.out)
  refine (HIM.out _ HLV.out).mono ?_
  rintro e w2 ⟨ga, gc, γ, rfl, hg, hb⟩
  have HG2 := Lib.hid hg
  have h12 : V1.heap.size ≤ w2.heap.size := hb.size
  have HB3 := Lib.hid (below_step HB2.out HB2.out.size hb)
  clear HB2
  have HT1 := Lib.hid (below_step HT0.out HT0.out.size hb)
  clear HT0
  clear hb hg HLV
  unfold smV shV
  have hA : Below w2.heap.size w2 (w2.alloc (.cells #[.int .i64 X.si, .int .i64 X.cl, .int .i64 X.sq, .int .i64 X.la, .slice ga X.ws.length gc, .string X.t] 29)) := (Below.refl _ _).alloc (Nat.le_refl _) _
  have HXG := Lib.hid (SBox.start w2 X.si X.cl X.sq X.la ga X.ws.length gc X.t 29)
  have hzV2 : (w2.alloc (.cells #[.int .i64 X.si, .int .i64 X.cl, .int .i64 X.sq, .int .i64 X.la, .slice ga X.ws.length gc, .string X.t] 29)).heap.size = w2.heap.size + 1 := by simp
  have HB4 := Lib.hid (below_step HB3.out HB3.out.size hA)
  clear HB3
  have HT2 := Lib.hid (below_step HT1.out HT1.out.size hA)
  clear HT1
  have HG3 := Lib.hid (HG2.out.below hA)
  clear hA HG2
  obtain ⟨-, x0, x1, x2, x3, x4, x5, -⟩ := HXG.out
  obtain ⟨-, y0, y1, y2, y3, y4, y5, -⟩ := HXS.out.below HT2.out
  go_wp2_with fail
  generalize (w2.alloc (.cells #[.int .i64 X.si, .int .i64 X.cl, .int .i64 X.sq, .int .i64 X.la, .slice ga X.ws.length gc, .string X.t] 29)) = V2 at *
  clear x0 x1 x2 x3 x4 x5 y0 y1 y2 y3 y4 y5
  have HU0 : Hid (Below V2.heap.size V2 V2) := Below.refl _ _
  refine (eqShim_same _ _ _ _ ga sa X.ws.length gc sc _ X.ws _ rfl (by omega) HF.out (HG3.out.isWs HF.out) (HS2.out.below HT2.out)).mono ?_
  rintro e w3 ⟨rfl, hb⟩
  have HB5 := Lib.hid (below_step HB4.out HB4.out.size hb)
  clear HB4
  have HT3 := Lib.hid (below_step HT2.out HT2.out.size hb)
  clear HT2
  have HU1 := Lib.hid (below_step HU0.out HU0.out.size hb)
  clear HU0
  clear hb
  obtain ⟨-, x0, x1, x2, x3, x4, x5, -⟩ := HXG.out.below HU1.out
  go_wp2_with fail
  clear x0 x1 x2 x3 x4 x5
  refine (markShim_any _ _ _ _ _ V1.heap.size w2.heap.size X.ws.length gc ga 1 X.ws γ _ rfl (by omega) (by omega) (by omega) (by omega) (HG3.out.below HU1.out)).mono ?_
  rintro e w4 ⟨rfl, hmk, w4', hb, ho⟩
  have HM4 := Lib.hid hmk
  have hbl : Below V1.heap.size w4' w4 := ho.below fun x hx => hx.1
  have hwv : w.heap.size ≤ V1.heap.size := by have := HT3.out.size; have := hw1v; omega
  have HB9 : Hid (Below w.heap.size w w4) := (below_step HB5.out HB5.out.size hb).trans (hbl.mono hwv)
  have HT9 : Hid (Below V1.heap.size V1 w4) := (below_step HT3.out HT3.out.size hb).trans hbl
  have HXG4 := Lib.hid (((HXG.out.below HU1.out).below hb).only ho (fun h => by have := h.2; omega))
  clear HB5
  clear HT3
  clear HU1
  have HQ0 : Hid (Below w4.heap.size w4 w4) := Below.refl _ _
  have hk : 0 ≤ markK X.ws 1 X.ws.length ∧ markK X.ws 1 X.ws.length ≤ 1000000 := by
    have := bulk_take_le X.ws X.ws.length
    unfold markK
    constructor <;> omega
  clear hb ho hbl hmk
  obtain ⟨kk, hkk⟩ : ∃ kk, kk = markK X.ws 1 X.ws.length := ⟨_, rfl⟩
  rw [← hkk] at hk
  have HKK := Lib.hid hkk
  have HHE : Hid (∀ W, MarkedA W ga X.ws γ 1 → Calls Tryz.prog 18 #[shV X.si X.cl X.sq X.la ga X.ws.length gc X.t, .int .i64 1] W fun e w' => e = .returned (.int .i64 kk) ∧ Below W.heap.size W w') := fun W h => by
    rw [HKK.out]
    exact heldShim_any _ _ _ _ _ X.ws.length gc ga 1 X.ws γ _ rfl (by omega) (by omega) (by omega) (by omega) h
  rw [← hkk]
  clear hkk
  obtain ⟨-, x0, x1, x2, x3, x4, x5, -⟩ := HXG4.out
  go_wp2_with fail
  clear x0 x1 x2 x3 x4 x5
  refine (HHE.out _ HM4.out).mono ?_
  rintro e w5 ⟨rfl, hb⟩
  have HB10 := Lib.hid (below_step HB9.out HB9.out.size hb)
  clear HB9
  have HT10 := Lib.hid (below_step HT9.out HT9.out.size hb)
  clear HT9
  have HQ1 := Lib.hid (below_step HQ0.out HQ0.out.size hb)
  clear HQ0
  clear hb
  have HLV := Lib.hid (HL.out.below HB10.out)
  go_wp2_with fail
  refine (HIM.out _ HLV.out).mono ?_
  rintro e w6 ⟨ga6, gc6, γ6, rfl, hg, hb⟩
  have HG6 := Lib.hid hg
  have HB11 := Lib.hid (below_step HB10.out HB10.out.size hb)
  clear HB10
  have HT11 := Lib.hid (below_step HT10.out HT10.out.size hb)
  clear HT10
  have HQ2 := Lib.hid (below_step HQ1.out HQ1.out.size hb)
  clear HQ1
  clear hb hg HLV
  unfold smV shV
  have hA : Below w6.heap.size w6 (w6.alloc (.cells #[.int .i64 X.si, .int .i64 X.cl, .int .i64 X.sq, .int .i64 X.la, .slice ga6 X.ws.length gc6, .string X.t] 29)) := (Below.refl _ _).alloc (Nat.le_refl _) _
  have HXH := Lib.hid (SBox.start w6 X.si X.cl X.sq X.la ga6 X.ws.length gc6 X.t 29)
  have hzV6 : (w6.alloc (.cells #[.int .i64 X.si, .int .i64 X.cl, .int .i64 X.sq, .int .i64 X.la, .slice ga6 X.ws.length gc6, .string X.t] 29)).heap.size = w6.heap.size + 1 := by simp
  have HB12 := Lib.hid (below_step HB11.out HB11.out.size hA)
  clear HB11
  have HT12 := Lib.hid (below_step HT11.out HT11.out.size hA)
  clear HT11
  have HQ3 := Lib.hid (below_step HQ2.out HQ2.out.size hA)
  clear HQ2
  have HG7 := Lib.hid (HG6.out.below hA)
  clear hA HG6
  obtain ⟨-, x0, x1, x2, x3, x4, x5, -⟩ := HXH.out
  obtain ⟨-, y0, y1, y2, y3, y4, y5, -⟩ := HXS.out.below HT12.out
  go_wp2_with fail
  generalize (w6.alloc (.cells #[.int .i64 X.si, .int .i64 X.cl, .int .i64 X.sq, .int .i64 X.la, .slice ga6 X.ws.length gc6, .string X.t] 29)) = V6 at *
  clear x0 x1 x2 x3 x4 x5 y0 y1 y2 y3 y4 y5
  refine (eqShim_same _ _ _ _ ga6 sa X.ws.length gc6 sc _ X.ws _ rfl (by omega) HF.out (HG7.out.isWs HF.out) (HS2.out.below HT12.out)).mono ?_
  rintro e w7 ⟨rfl, hb⟩
  have HB13 := Lib.hid (below_step HB12.out HB12.out.size hb)
  clear HB12
  have HT13 := Lib.hid (below_step HT12.out HT12.out.size hb)
  clear HT12
  have HQ4 := Lib.hid (below_step HQ3.out HQ3.out.size hb)
  clear HQ3
  clear hb
  obtain ⟨-, x0, x1, x2, x3, x4, x5, -⟩ := HXG4.out.below HQ4.out
  go_wp2_with fail
  clear x0 x1 x2 x3 x4 x5
  refine (HHE.out _ (HM4.out.below HQ4.out)).mono ?_
  rintro e w8 ⟨rfl, hb⟩
  have HB14 := Lib.hid (below_step HB13.out HB13.out.size hb)
  clear HB13
  have HT14 := Lib.hid (below_step HT13.out HT13.out.size hb)
  clear HT13
  have HQ5 := Lib.hid (below_step HQ4.out HQ4.out.size hb)
  clear HQ4
  clear hb
  go_wp2
  go_ret
  exact ⟨rfl, HB14.out⟩

/-- A wrap with what the row lays, and the world's shape beside it. -/
theorem lift_laid_shaped {H : Type} {enc : TypeId × Value → H} {a : Assume} {C : Checked} {os : Os} {f : FuncId} {fn : Func} {s : ChangeSpec} {conds : List PathCond} {apart fresh handsOn again : Bool} {X : World → Array Value → Prop}
    (hX : ∀ (w w' : World) (args : Array Value), w.heap = w'.heap → X w args → X w' args)
    (own : ownKnob C.prog.godebug = none) (started : os.Started) (noInit : C.prog.inits.idxOf? f = none) (hfn : C.prog.funcs[f]? = some fn)
    (witness : ∃ (w : World) (tape : Tape) (i : Input), w.os = os ∧ (w.forCall tape i).Shaped C.prog ∧ i.vars = [] ∧ Input.okWide C.prog (w.forCall tape i) .any w.heap.size f i ∧
      ((s.pre enc C.prog fn conds apart (w.forCall tape i).memory i.args ∧ X (w.forCall tape i).memory i.args) ∧ sizedMet enc C.prog fn (OpenSpec.ofChange s) apart (w.forCall tape i).memory i.args) ∧ a.holds C.prog (lone (Frame.enter C.prog f i.args .normal) [] (w.forCall tape i)))
    (contract : ∀ (W : World) (base : Nat) (args : Array Value) (ds gs : List (DataW H)) (before : List MemPlace),
      (∀ (j : Nat) t v, fn.params[j]? = some t → args[j]? = some v → Value.okWide C.prog W .any base t v) →
      DataW.Whole enc C.prog fn.params.toList s.vars apart W args.toList ds gs before → X W args → W.ShapedOpen C.prog →
      Calls C.prog f args W fun e W' => ∃ v, e = .returned v ∧ s.post enc C.prog fn apart fresh handsOn again W args v W') :
    ReturnsInHanded a C os f .any (fun w args => (s.pre enc C.prog fn conds apart w args ∧ X w args) ∧ sizedMet enc C.prog fn (OpenSpec.ofChange s) apart w args) (s.post enc C.prog fn apart fresh handsOn again) := by
  refine returnsInHanded_of_calls own started noInit witness ?_
  intro w tape i _ hsh _ hok hpre _
  obtain ⟨_, _, _, fn', hfn', _, _, _, _, hval⟩ := hok
  obtain rfl : fn' = fn := Option.some.inj (hfn'.symm.trans hfn)
  obtain ⟨⟨⟨ds, gs, before, hw, _⟩, hx⟩, _⟩ := hpre
  refine (contract (w.forCall tape i) w.heap.size i.args ds gs before hval (DataW.Whole.of_heap (w' := w.forCall tape i) (by rfl) hw) (hX _ _ _ (by rfl) hx) hsh).mono fun e W' ⟨v, he, hp⟩ => ?_
  subst he
  exact ChangeSpec.post_blind hp

abbrev laid := Rows.fnExactShimBackRow.laid

abbrev plain : List (String × DataW Unit) := [("math/bits.deBruijn32tab", Rows.laid_math_bits_deBruijn32tab), ("math/bits.deBruijn64tab", Rows.laid_math_bits_deBruijn64tab), ("internal/strconv.uint64pow10", Rows.laid_internal_strconv_uint64pow10), ("unicode/utf8.acceptRanges", Rows.laid_unicode_utf8_acceptRanges), ("strconv.ErrRange", Rows.laid_strconv_ErrRange), ("strconv.ErrSyntax", Rows.laid_strconv_ErrSyntax), ("loop.example/g00579/impl.errCut", Rows.laid_loop_example_g00579_impl_errCut), ("loop.example/g00579/impl.errHead", Rows.laid_loop_example_g00579_impl_errHead), ("loop.example/g00579/impl.errWrite", Rows.laid_loop_example_g00579_impl_errWrite), ("loop.example/g00579/impl.errSum", Rows.laid_loop_example_g00579_impl_errSum), ("unicode/utf8.first", Rows.laid_unicode_utf8_first)]

abbrev handle : String × DataW Unit := ("errors.errorType", Rows.laid_errors_errorType)

set_option maxRecDepth 100000 in
theorem laid_plain : (laid.filter fun x => x.2.handleName?.isNone) = plain := by kernel_rfl

set_option maxRecDepth 100000 in
theorem laid_handle : (laid.filter fun x => x.2.handleName?.isSome) = [handle] := by kernel_rfl

theorem laid_two {W : World} (h : laidMetH Tryz.prog laid W) : laidMet Tryz.prog plain W ∧ handlesMet Tryz.prog [handle] W := by
  unfold laidMetH at h
  rw [laid_handle] at h
  rw [← laid_plain]
  exact h

set_option maxRecDepth 100000 in
theorem pow_same : (Rows.laid_internal_strconv_uint64pow10 : DataW Unit) = Lib.tabData .u64 Lib.pow10Tab := by kernel_rfl

set_option maxRecDepth 100000 in
theorem tab_of {W : World} (h : laidMet Tryz.prog plain W) : Tab W := by
  have h2 := h.tail.tail
  rw [pow_same] at h2
  exact Lib.tabIs_of_head gPow (by kernel_rfl) Tryz.underlying249 Tryz.underlying103 (by kernel_rfl) (by kernel_rfl) h2

theorem gMax : Tryz.prog.globalNamed "internal/bytealg.MaxLen" = some 5 := by kernel_rfl

theorem gSyn : Tryz.prog.globalNamed "strconv.ErrSyntax" = some 7 := by kernel_rfl

theorem gSynT : (Tryz.prog.globals[7]?).map (·.type) = some 119 := by kernel_rfl

theorem gRan : Tryz.prog.globalNamed "strconv.ErrRange" = some 8 := by kernel_rfl

theorem gRanT : (Tryz.prog.globals[8]?).map (·.type) = some 119 := by kernel_rfl

theorem gCut : Tryz.prog.globalNamed "loop.example/g00579/impl.errCut" = some 4 := by kernel_rfl

theorem gCutT : (Tryz.prog.globals[4]?).map (·.type) = some 119 := by kernel_rfl

theorem gHead : Tryz.prog.globalNamed "loop.example/g00579/impl.errHead" = some 1 := by kernel_rfl

theorem gHeadT : (Tryz.prog.globals[1]?).map (·.type) = some 119 := by kernel_rfl

theorem gWrite : Tryz.prog.globalNamed "loop.example/g00579/impl.errWrite" = some 2 := by kernel_rfl

theorem gWriteT : (Tryz.prog.globals[2]?).map (·.type) = some 119 := by kernel_rfl

theorem gSum : Tryz.prog.globalNamed "loop.example/g00579/impl.errSum" = some 3 := by kernel_rfl

theorem gSumT : (Tryz.prog.globals[3]?).map (·.type) = some 119 := by kernel_rfl

theorem gET : Tryz.prog.globalNamed "errors.errorType" = some 0 := by kernel_rfl

theorem cellsE : Tryz.prog.cellsOf 281 = 1 := by kernel_rfl

theorem cellsS : Tryz.prog.cellsOf 9 = 1 := by kernel_rfl

theorem star : "*" ++ "errors.errorString" = "*errors.errorString" := by decide

theorem rowE (u : TypeId) (h : Tryz.prog.typeName? 3 u = some "*errors.errorString") : u = 279 :=
  typeName_ptr_named (nm := "errors.errorString") (by rw [star]; kernel_rfl) (by kernel_rfl) (by decide) u (by rw [star]; exact h)

set_option maxRecDepth 100000 in
theorem errs_of {W : World} (h : laidMet Tryz.prog plain W) (hs : W.ShapedOpen Tryz.prog) : RV W ∧ EV W := by
  have h4 := h.tail.tail.tail.tail
  obtain ⟨aRan, sRan, hvRan, -, -, -⟩ := laid_sentinel (h4) gRan gRanT Tryz.underlying119 rowE Tryz.underlying279 Tryz.underlying281 rfl rfl Tryz.underlying9 cellsE cellsS
  have cRan : W.cell? ⟨8, 0, none⟩ = some (.iface 279 (.pointer (some aRan))) := by have h0 := World.var?_cell gRan hvRan 0; simpa using h0
  obtain ⟨aSyn, sSyn, hvSyn, -, -, -⟩ := laid_sentinel (h4.tail) gSyn gSynT Tryz.underlying119 rowE Tryz.underlying279 Tryz.underlying281 rfl rfl Tryz.underlying9 cellsE cellsS
  have cSyn : W.cell? ⟨7, 0, none⟩ = some (.iface 279 (.pointer (some aSyn))) := by have h0 := World.var?_cell gSyn hvSyn 0; simpa using h0
  obtain ⟨aCut, sCut, hvCut, -, -, -⟩ := laid_sentinel (h4.tail.tail) gCut gCutT Tryz.underlying119 rowE Tryz.underlying279 Tryz.underlying281 rfl rfl Tryz.underlying9 cellsE cellsS
  have cCut : W.cell? ⟨4, 0, none⟩ = some (.iface 279 (.pointer (some aCut))) := by have h0 := World.var?_cell gCut hvCut 0; simpa using h0
  obtain ⟨aHead, sHead, hvHead, -, -, -⟩ := laid_sentinel (h4.tail.tail.tail) gHead gHeadT Tryz.underlying119 rowE Tryz.underlying279 Tryz.underlying281 rfl rfl Tryz.underlying9 cellsE cellsS
  have cHead : W.cell? ⟨1, 0, none⟩ = some (.iface 279 (.pointer (some aHead))) := by have h0 := World.var?_cell gHead hvHead 0; simpa using h0
  obtain ⟨aWrite, sWrite, hvWrite, -, -, -⟩ := laid_sentinel (h4.tail.tail.tail.tail) gWrite gWriteT Tryz.underlying119 rowE Tryz.underlying279 Tryz.underlying281 rfl rfl Tryz.underlying9 cellsE cellsS
  have cWrite : W.cell? ⟨2, 0, none⟩ = some (.iface 279 (.pointer (some aWrite))) := by have h0 := World.var?_cell gWrite hvWrite 0; simpa using h0
  obtain ⟨aSum, sSum, hvSum, -, -, -⟩ := laid_sentinel (h4.tail.tail.tail.tail.tail) gSum gSumT Tryz.underlying119 rowE Tryz.underlying279 Tryz.underlying281 rfl rfl Tryz.underlying9 cellsE cellsS
  have cSum : W.cell? ⟨3, 0, none⟩ = some (.iface 279 (.pointer (some aSum))) := by have h0 := World.var?_cell gSum hvSum 0; simpa using h0
  obtain ⟨m, hm⟩ := Tryz.laysM147.s1_3 W hs
  have cm : W.cell? ⟨5, 0, none⟩ = some (.int .i64 m) := hm
  exact ⟨⟨⟨World.block_lt_of_cell? W _ cm, m, cm⟩, ⟨World.block_lt_of_cell? W _ cSyn, _, _, cSyn⟩, World.block_lt_of_cell? W _ cRan, _, _, cRan⟩, ⟨World.block_lt_of_cell? W _ cCut, _, _, cCut⟩, ⟨World.block_lt_of_cell? W _ cHead, _, _, cHead⟩, ⟨World.block_lt_of_cell? W _ cWrite, _, _, cWrite⟩, World.block_lt_of_cell? W _ cSum, _, _, cSum⟩

theorem rt : (Tryz.prog.cutTypes.find? (·.1 == "internal/reflectlite.rtype")).map (·.2) = some 190 := by kernel_rfl

set_option maxRecDepth 100000 in
theorem oneRow : ((List.range 313).filter fun t => Tryz.prog.rowNamed t [101, 114, 114, 111, 114]) = [119] := by kernel_rfl

theorem tsize : Tryz.prog.types.size = 313 := by kernel_rfl

theorem et_of {W : World} (h : handlesMet Tryz.prog [handle] W) : ET W := by
  obtain ⟨name, u, ty, e1, e2, e3, e4, e5⟩ := h _ (List.mem_singleton.2 rfl)
  have en : name = [101, 114, 114, 111, 114] := (Option.some.inj e1).symm
  subst en
  obtain rfl := Option.some.inj (rt.symm.trans e2)
  have hm : ty ∈ (List.range 313).filter fun t => Tryz.prog.rowNamed t [101, 114, 114, 111, 114] := List.mem_filter.2 ⟨List.mem_range.2 (by rw [← tsize]; exact e3), e4⟩
  rw [oneRow] at hm
  obtain rfl := List.mem_singleton.1 hm
  have hh : typeHandle Tryz.prog 119 = .pointer (some ⟨13, 119, none⟩) := by kernel_rfl
  rw [hh] at e5
  have h0 := World.var?_cell gET e5 0
  unfold ET
  simpa using h0

theorem lv_of {W : World} (h : laidMetH Tryz.prog laid W) (hs : W.ShapedOpen Tryz.prog) : LV W :=
  ⟨(errs_of (laid_two h).1 hs).2, (errs_of (laid_two h).1 hs).1, tab_of (laid_two h).1, et_of (laid_two h).2⟩

/-- The settled world, errors.errorType laid. -/
noncomputable def baseW (os : Os) : World :=
  let w0 := World.holding Tryz.prog os ⟨#[], #[], []⟩
  { w0 with heap := w0.heap.modify 0 fun
      | .cells _ t frozen => .cells #[.iface 190 (.agg #[.pointer (some ⟨13, 119, none⟩)])] t frozen
      | o => o }

/-- .. and the other listed variables. -/
noncomputable def laidW (os : Os) : World := (baseW os).layVars Tryz.prog plain

theorem laidW_os (os : Os) : (laidW os).os = os := World.layVars_os _ _ _

set_option maxRecDepth 100000 in
theorem laidW_fits (os : Os) : (baseW os).layFits Tryz.prog plain [] = true := by kernel_rfl

set_option maxRecDepth 100000 in
theorem laidW_ifaces (os : Os) : (baseW os).layIfaces Tryz.prog plain (laidW os) = true := by kernel_rfl

set_option maxRecDepth 100000 in
theorem laidW_met (os : Os) (args : Array Value) : laidMetH Tryz.prog laid ((laidW os).forCall (fun _ _ => 0) ⟨#[], args, []⟩).memory := by
  refine laidMetH_of_parts ?_ (by kernel_rfl)
  rw [laid_plain]
  have e1 : (plain.filter fun x => (plain.map (·.1)).contains x.1) = plain := List.filter_eq_self.2 fun x hx => List.contains_iff_mem.2 (List.mem_map.2 ⟨x, hx, rfl⟩)
  have e2 : (plain.filter fun x => !(plain.map (·.1)).contains x.1) = [] := List.filter_eq_nil_iff.2 fun x hx => by rw [List.contains_iff_mem.2 (List.mem_map.2 ⟨x, hx, rfl⟩)]; simp
  have h : laidMet Tryz.prog plain (laidW os) := laidMet_layVars (w0 := baseW os) (plain.map (·.1)) [] (by rw [e1]; rfl) (by rw [e1]; exact laidW_fits os) (by rw [e1]; exact laidW_ifaces os) (by rw [e2]; exact LaidIn.none)
  exact h.of_heap (by simp [World.memory, World.forCall, Input.heap])

theorem vars_four {H : Type} {enc : TypeId × Value → H} {W : World} {a b c d : String} {gs : List (DataW H)} {ps : List MemPlace} (h : DataW.TrodVars enc Tryz.prog W (fun _ => true) [a, b, c, d] gs ps) : ∃ g1 g2 g3 g4, gs = [g1, g2, g3, g4] := by
  match gs, h with
  | [], h => exact h.elim
  | [_], h => obtain ⟨_, _, _, _, _, _, _, _, _, _, h, _⟩ := h; exact h.elim
  | [_, _], h => obtain ⟨_, _, _, _, _, _, _, _, _, _, h, _⟩ := h; obtain ⟨_, _, _, _, _, _, _, _, _, _, h, _⟩ := h; exact h.elim
  | [_, _, _], h => obtain ⟨_, _, _, _, _, _, _, _, _, _, h, _⟩ := h; obtain ⟨_, _, _, _, _, _, _, _, _, _, h, _⟩ := h; obtain ⟨_, _, _, _, _, _, _, _, _, _, h, _⟩ := h; exact h.elim
  | [g1, g2, g3, g4], _ => exact ⟨g1, g2, g3, g4, rfl⟩
  | _ :: _ :: _ :: _ :: _ :: _, h => obtain ⟨_, _, _, _, _, _, _, _, _, _, h, _⟩ := h; obtain ⟨_, _, _, _, _, _, _, _, _, _, h, _⟩ := h; obtain ⟨_, _, _, _, _, _, _, _, _, _, h, _⟩ := h; obtain ⟨_, _, _, _, _, _, _, _, _, _, h, _⟩ := h; exact h.elim

set_option maxRecDepth 100000 in
theorem lifted (os : Os) (started : os.Started) (H : Type) (enc : TypeId × Value → H) :
    ReturnsInHanded {} Tryz.checked os 6 .any (fun w args => (Rows.fnExactShimBackSpec.pre enc Tryz.prog Tryz.f6 [] false w args ∧ laidMetH Tryz.prog laid w) ∧ sizedMet enc Tryz.prog Tryz.f6 (OpenSpec.ofChange Rows.fnExactShimBackSpec) false w args)
      (Rows.fnExactShimBackSpec.post enc Tryz.prog Tryz.f6 false true false false) := by
  refine lift_laid_shaped (C := Tryz.checked) (X := fun w _ => laidMetH Tryz.prog laid w) (fun _ _ _ hh h => h.of_heap hh) own started (by kernel_rfl) Tryz.func6
    (ChangeSpec.witness_shaped (enc := enc) (C := Tryz.checked) (os := os) (X := fun w _ => laidMetH Tryz.prog laid w) false (laidW os) #[.int .i64 0, .string ⟨#[]⟩] 8 (laidW_os os) (World.shaped_of_ZipB (by kernel_rfl) (by kernel_rfl)) (by kernel_rfl) (by kernel_rfl) (by kernel_rfl) (laidW_met os _)) ?_
  intro W base args ds gs before hval0 hW hL hSh
  have hval : ∀ (j : Nat) t v, Tryz.f6.params[j]? = some t → args[j]? = some v → Value.okWide Tryz.prog W .any base t v := hval0
  have hW' := hW
  obtain ⟨p, q, hA0, hV0, rfl, hfz, hnd⟩ := hW
  have hA : DataW.TrodAll enc Tryz.prog W 0 (fun _ => true) true Tryz.f6.params.toList args.toList ds p := hA0
  have hV : DataW.TrodVars enc Tryz.prog W (fun _ => true) ["loop.example/g00579/impl.errHead", "loop.example/g00579/impl.errCut", "loop.example/g00579/impl.errWrite", "loop.example/g00579/impl.errSum"] gs q := hV0
  rw [Tryz.params6] at hA hval
  obtain ⟨v0, v1, d0, d1, p0, p1, rfl, rfl, rfl, h0, h1⟩ := trodAll_two hA
  have k0 := h0
  have lt0 : ∀ x ∈ p0, x.block < W.heap.size := by obtain ⟨m, hm⟩ := k0; exact DataW.trod_lt m _ _ _ hm
  have k1 := h1
  have lt1 : ∀ x ∈ p1, x.block < W.heap.size := by obtain ⟨m, hm⟩ := k1; exact DataW.trod_lt m _ _ _ hm
  obtain ⟨g1, g2, g3, g4, rfl⟩ := vars_four hV
  obtain ⟨a0, hv0, _, _, wf0⟩ := open_int Tryz.underlying3 (hval 0 3 v0 rfl rfl) h0
  subst hv0
  have wa0 : -9223372036854775808 ≤ a0 ∧ a0 ≤ 9223372036854775807 := by
    simp only [Lit.wf, Bool.and_eq_true, decide_eq_true_eq] at wf0
    exact wf0
  obtain ⟨s1, hv1, _, _, hs1⟩ := Go.ChangeMaps.open_string Tryz.underlying9 (hval 1 9 v1 rfl rfl) h1
  subst hv1
  clear hA0 hval0 hV0
  refine (walk a0 s1 W wa0 hs1 (lv_of hL hSh)).mono fun e W' ⟨he, bel⟩ => ?_
  subst he
  exact ⟨_, rfl, _, _, _, [], _, _, hW', trodAll_mk1 (shut_bool Tryz.underlying4 _), (trodAll_mk2 (Below.trod laidOut (by kernel_rfl) (of_decide_eq_true (by kernel_rfl)) k0 bel lt0) (Below.trod laidOut (by kernel_rfl) (of_decide_eq_true (by kernel_rfl)) k1 bel lt1)), Below.trodVars laidOut bel (by kernel_rfl) hV, bel.frame _, fun h => by cases h⟩

set_option maxRecDepth 100000 in
theorem over : Rows.fnExactShimBackRow.holds Tryz.pinned (OpenSpec.ofChange Rows.fnExactShimBackSpec) :=
  OpenClaim.holds_of_wide 6 Tryz.f6 rfl rfl rfl rfl rfl rfl rfl ⟨rfl, rfl, rfl, rfl, rfl⟩ rfl rfl rfl rfl rfl (by kernel_rfl) Tryz.func6 (by kernel_rfl)
    (of_decide_eq_true (by kernel_rfl)) (by unfold Func.isWrapper; rw [if_neg (by decide +kernel)]; exact ⟨rfl, rfl⟩)
    (fun os started H enc _ => lifted os started H enc)

set_option maxRecDepth 100000 in
theorem card : Rows.FnExactShimBackCardSaid :=
  Claim7.holds_tied_plain_at .later [] [.data, .data, .data, .data, .handle, .sentinel, .sentinel, .sentinel, .sentinel, .sentinel, .sentinel, .pinned] true Rows.fnExactShimBackCard.stood.harness Rows.fnExactShimBackCard.stood.looks
    over (fun _ h => by cases h) (by kernel_rfl) (fun _ h => by cases h) fnExactShimBack_row_tie rfl ⟨rfl, rfl⟩ (by kernel_rfl) rfl
    (fun f fn hf hfn => by
      obtain rfl : f = 6 := Option.some.inj ((show Tryz.prog.funcNamed Rows.fnExactShimBackRow.func = some 6 by kernel_rfl).symm.trans hf) |>.symm
      obtain rfl : fn = Tryz.f6 := (Option.some.inj (Tryz.func6.symm.trans hfn)).symm
      exact ⟨by kernel_rfl, fun j t ht => by
        rw [Tryz.params6] at ht
        have hm : t ∈ [3, 9] := by simpa using Array.mem_of_getElem? ht
        have hall : ([3, 9].all fun u => !Tryz.prog.wantsStandIn u) = true := by kernel_rfl
        exact (show Tryz.prog.wantsStandIn t = false by simpa using List.all_eq_true.1 hall t hm)⟩)
    (by kernel_rfl)

end Go.Proofs.YtcapahiklphhjaaGreatDoor.lawShimBack
namespace Go.Proofs.YtcapahiklphhjaaGreatDoor
theorem fnExactShimBack_holds : Rows.FnExactShimBackCardSaid := lawShimBack.card
#print axioms fnExactShimBack_holds
end Go.Proofs.YtcapahiklphhjaaGreatDoor
