/- At every shim and all further arguments the law FnExactShimPut answers true: impl.ShimPut answers as spec.ShimPut, leaves the shim as it was, and its answers own their memory. The variables of the program and of Go's library that it reads are listed in the row and tied to the program's text by the card. -/
import Derived.Test.YtbbmpfkijhhemaaGreatDoorPack24
import Derived.Test.YtbbmpfkijhhemaaGreatDoorTie
import Derived.Test.YtbbmpfkijhhemaaGreatDoorCards
import Derived.LaidMore
import Derived.LaidHandle
import Derived.LaidLaws
import Derived.Stop.LaidErr
import Derived.Lib.LaidTab
import Derived.SevenTiedAt
import Derived.HandedShaped
import Derived.Lay
import Derived.OpenVars
import Derived.ChangeMaps5
namespace Go.Proofs.YtbbmpfkijhhemaaGreatDoor.lawShimPut
open Go.ChangeShapes Go.WideShapes Go.ChangeAt Go.RowKit Go.Joins
set_option maxRecDepth 100000
attribute [local go_sem ↓] Go.wp_at_zero Go.wp_at_succ

theorem lift_laid_shaped {H : Type} {enc : TypeId × Value → H} {a : Assume} {C : Checked} {os : Os} {f : FuncId} {fn : Func} {s : ChangeSpec} {conds : List PathCond} {apart fresh handsOn again : Bool} {X : World → Array Value → Prop}
    (hX : ∀ (w w' : World) (args : Array Value), w.heap = w'.heap → X w args → X w' args)
    (own : ownKnob C.prog.godebug = none) (started : os.Started) (noInit : C.prog.inits.idxOf? f = none) (hfn : C.prog.funcs[f]? = some fn)
    (witness : ∃ (w : World) (tape : Tape) (i : Input), w.os = os ∧ (w.forCall tape i).Shaped C.prog ∧ i.vars = [] ∧ Input.okWide C.prog (w.forCall tape i) .any w.heap.size f i ∧
      ((s.pre enc C.prog fn conds apart (w.forCall tape i).memory i.args ∧ X (w.forCall tape i).memory i.args) ∧ sizedMet enc C.prog fn (OpenSpec.ofChange s) apart (w.forCall tape i).memory i.args) ∧ a.holds C.prog (lone (Frame.enter C.prog f i.args .normal) [] (w.forCall tape i)))
    (contract : ∀ (W : World) (base : Nat) (args : Array Value) (ds gs : List (DataW H)) (before : List MemPlace),
      (∀ (j : Nat) t v, fn.params[j]? = some t → args[j]? = some v → Value.okWide C.prog W .any base t v) →
      DataW.Whole enc C.prog fn.params.toList s.vars apart W args.toList ds gs before → X W args → W.ShapedOpen C.prog →
      Calls C.prog f args W fun e W' => ∃ v, e = .returned v ∧ s.post enc C.prog fn apart fresh handsOn again W args v W') :
    ReturnsInHanded a C os f .any (fun w args => (s.pre enc C.prog fn conds apart w args ∧ X w args) ∧ sizedMet enc C.prog fn (OpenSpec.ofChange s) apart w args) (s.post enc C.prog fn apart fresh handsOn again) := by
  refine returnsInHanded_of_calls own started noInit witness ?_
  intro w tape i _ hsh _ hok hpre _
  obtain ⟨_, _, _, fn', hfn', _, _, _, _, hval⟩ := hok
  obtain rfl : fn' = fn := Option.some.inj (hfn'.symm.trans hfn)
  obtain ⟨⟨⟨ds, gs, before, hw, _⟩, hx⟩, _⟩ := hpre
  refine (contract (w.forCall tape i) w.heap.size i.args ds gs before hval (DataW.Whole.of_heap (w' := w.forCall tape i) (by rfl) hw) (hX _ _ _ (by rfl) hx) hsh).mono fun e W' ⟨v, he, hp⟩ => ?_
  subst he
  exact ChangeSpec.post_blind hp

abbrev laid := Rows.fnExactShimPutRow.laid

abbrev plain : List (String × DataW Unit) := [("math/bits.deBruijn32tab", Rows.laid_math_bits_deBruijn32tab), ("math/bits.deBruijn64tab", Rows.laid_math_bits_deBruijn64tab), ("internal/strconv.uint64pow10", Rows.laid_internal_strconv_uint64pow10), ("unicode/utf8.acceptRanges", Rows.laid_unicode_utf8_acceptRanges), ("strconv.ErrRange", Rows.laid_strconv_ErrRange), ("strconv.ErrSyntax", Rows.laid_strconv_ErrSyntax), ("loop.example/g00579/impl.errCut", Rows.laid_loop_example_g00579_impl_errCut), ("loop.example/g00579/impl.errHead", Rows.laid_loop_example_g00579_impl_errHead), ("loop.example/g00579/impl.errWrite", Rows.laid_loop_example_g00579_impl_errWrite), ("loop.example/g00579/impl.errSum", Rows.laid_loop_example_g00579_impl_errSum), ("unicode/utf8.first", Rows.laid_unicode_utf8_first)]

abbrev handle : String × DataW Unit := ("errors.errorType", Rows.laid_errors_errorType)

theorem laid_plain : (laid.filter fun x => x.2.handleName?.isNone) = plain := by kernel_rfl

theorem laid_handle : (laid.filter fun x => x.2.handleName?.isSome) = [handle] := by kernel_rfl

theorem laid_two {W : World} (h : laidMetH Tryz.prog laid W) : laidMet Tryz.prog plain W ∧ handlesMet Tryz.prog [handle] W := by
  unfold laidMetH at h
  rw [laid_handle] at h
  rw [← laid_plain]
  exact h

theorem pow_same : (Rows.laid_internal_strconv_uint64pow10 : DataW Unit) = Lib.tabData .u64 Lib.pow10Tab := by kernel_rfl

theorem tab_of {W : World} (h : laidMet Tryz.prog plain W) : Tab W := by
  have h2 := h.tail.tail
  rw [pow_same] at h2
  exact Lib.tabIs_of_head gPow (by kernel_rfl) Tryz.underlying261 Tryz.underlying117 (by kernel_rfl) (by kernel_rfl) h2

theorem gMax : Tryz.prog.globalNamed "internal/bytealg.MaxLen" = some 5 := by kernel_rfl

theorem gSyn : Tryz.prog.globalNamed "strconv.ErrSyntax" = some 7 := by kernel_rfl

theorem gSynT : (Tryz.prog.globals[7]?).map (·.type) = some 125 := by kernel_rfl

theorem gRan : Tryz.prog.globalNamed "strconv.ErrRange" = some 8 := by kernel_rfl

theorem gRanT : (Tryz.prog.globals[8]?).map (·.type) = some 125 := by kernel_rfl

theorem gCut : Tryz.prog.globalNamed "loop.example/g00579/impl.errCut" = some 4 := by kernel_rfl

theorem gCutT : (Tryz.prog.globals[4]?).map (·.type) = some 125 := by kernel_rfl

theorem gHead : Tryz.prog.globalNamed "loop.example/g00579/impl.errHead" = some 1 := by kernel_rfl

theorem gHeadT : (Tryz.prog.globals[1]?).map (·.type) = some 125 := by kernel_rfl

theorem gWrite : Tryz.prog.globalNamed "loop.example/g00579/impl.errWrite" = some 2 := by kernel_rfl

theorem gWriteT : (Tryz.prog.globals[2]?).map (·.type) = some 125 := by kernel_rfl

theorem gSum : Tryz.prog.globalNamed "loop.example/g00579/impl.errSum" = some 3 := by kernel_rfl

theorem gSumT : (Tryz.prog.globals[3]?).map (·.type) = some 125 := by kernel_rfl

theorem gET : Tryz.prog.globalNamed "errors.errorType" = some 0 := by kernel_rfl

theorem cellsE : Tryz.prog.cellsOf 293 = 1 := by kernel_rfl

theorem cellsS : Tryz.prog.cellsOf 9 = 1 := by kernel_rfl

theorem star : "*" ++ "errors.errorString" = "*errors.errorString" := by decide

theorem rowE (u : TypeId) (h : Tryz.prog.typeName? 3 u = some "*errors.errorString") : u = 291 :=
  typeName_ptr_named (nm := "errors.errorString") (by rw [star]; kernel_rfl) (by kernel_rfl) (by decide) u (by rw [star]; exact h)

theorem errs_of {W : World} (h : laidMet Tryz.prog plain W) (hs : W.ShapedOpen Tryz.prog) : RV W ∧ EV W := by
  have h4 := h.tail.tail.tail.tail
  obtain ⟨aRan, sRan, hvRan, -, -, -⟩ := laid_sentinel (h4) gRan gRanT Tryz.underlying125 rowE Tryz.underlying291 Tryz.underlying293 rfl rfl Tryz.underlying9 cellsE cellsS
  have cRan : W.cell? ⟨8, 0, none⟩ = some (.iface 291 (.pointer (some aRan))) := by have h0 := World.var?_cell gRan hvRan 0; simpa using h0
  obtain ⟨aSyn, sSyn, hvSyn, -, -, -⟩ := laid_sentinel (h4.tail) gSyn gSynT Tryz.underlying125 rowE Tryz.underlying291 Tryz.underlying293 rfl rfl Tryz.underlying9 cellsE cellsS
  have cSyn : W.cell? ⟨7, 0, none⟩ = some (.iface 291 (.pointer (some aSyn))) := by have h0 := World.var?_cell gSyn hvSyn 0; simpa using h0
  obtain ⟨aCut, sCut, hvCut, -, -, -⟩ := laid_sentinel (h4.tail.tail) gCut gCutT Tryz.underlying125 rowE Tryz.underlying291 Tryz.underlying293 rfl rfl Tryz.underlying9 cellsE cellsS
  have cCut : W.cell? ⟨4, 0, none⟩ = some (.iface 291 (.pointer (some aCut))) := by have h0 := World.var?_cell gCut hvCut 0; simpa using h0
  obtain ⟨aHead, sHead, hvHead, -, -, -⟩ := laid_sentinel (h4.tail.tail.tail) gHead gHeadT Tryz.underlying125 rowE Tryz.underlying291 Tryz.underlying293 rfl rfl Tryz.underlying9 cellsE cellsS
  have cHead : W.cell? ⟨1, 0, none⟩ = some (.iface 291 (.pointer (some aHead))) := by have h0 := World.var?_cell gHead hvHead 0; simpa using h0
  obtain ⟨aWrite, sWrite, hvWrite, -, -, -⟩ := laid_sentinel (h4.tail.tail.tail.tail) gWrite gWriteT Tryz.underlying125 rowE Tryz.underlying291 Tryz.underlying293 rfl rfl Tryz.underlying9 cellsE cellsS
  have cWrite : W.cell? ⟨2, 0, none⟩ = some (.iface 291 (.pointer (some aWrite))) := by have h0 := World.var?_cell gWrite hvWrite 0; simpa using h0
  obtain ⟨aSum, sSum, hvSum, -, -, -⟩ := laid_sentinel (h4.tail.tail.tail.tail.tail) gSum gSumT Tryz.underlying125 rowE Tryz.underlying291 Tryz.underlying293 rfl rfl Tryz.underlying9 cellsE cellsS
  have cSum : W.cell? ⟨3, 0, none⟩ = some (.iface 291 (.pointer (some aSum))) := by have h0 := World.var?_cell gSum hvSum 0; simpa using h0
  obtain ⟨m, hm⟩ := Tryz.laysM147.s1_3 W hs
  have cm : W.cell? ⟨5, 0, none⟩ = some (.int .i64 m) := hm
  exact ⟨⟨⟨World.block_lt_of_cell? W _ cm, m, cm⟩, ⟨World.block_lt_of_cell? W _ cSyn, _, _, cSyn⟩, World.block_lt_of_cell? W _ cRan, _, _, cRan⟩, ⟨World.block_lt_of_cell? W _ cCut, _, _, cCut⟩, ⟨World.block_lt_of_cell? W _ cHead, _, _, cHead⟩, ⟨World.block_lt_of_cell? W _ cWrite, _, _, cWrite⟩, World.block_lt_of_cell? W _ cSum, _, _, cSum⟩

theorem rt : (Tryz.prog.cutTypes.find? (·.1 == "internal/reflectlite.rtype")).map (·.2) = some 193 := by kernel_rfl

theorem oneRow : ((List.range 324).filter fun t => Tryz.prog.rowNamed t [101, 114, 114, 111, 114]) = [125] := by kernel_rfl

theorem tsize : Tryz.prog.types.size = 324 := by kernel_rfl

theorem et_of {W : World} (h : handlesMet Tryz.prog [handle] W) : ET W := by
  obtain ⟨name, u, ty, e1, e2, e3, e4, e5⟩ := h _ (List.mem_singleton.2 rfl)
  have en : name = [101, 114, 114, 111, 114] := (Option.some.inj e1).symm
  subst en
  obtain rfl := Option.some.inj (rt.symm.trans e2)
  have hm : ty ∈ (List.range 324).filter fun t => Tryz.prog.rowNamed t [101, 114, 114, 111, 114] := List.mem_filter.2 ⟨List.mem_range.2 (by rw [← tsize]; exact e3), e4⟩
  rw [oneRow] at hm
  obtain rfl := List.mem_singleton.1 hm
  have hh : typeHandle Tryz.prog 125 = .pointer (some ⟨13, 125, none⟩) := by kernel_rfl
  rw [hh] at e5
  have h0 := World.var?_cell gET e5 0
  unfold ET
  simpa using h0

theorem lv_of {W : World} (h : laidMetH Tryz.prog laid W) (hs : W.ShapedOpen Tryz.prog) : LV W :=
  ⟨(errs_of (laid_two h).1 hs).2, (errs_of (laid_two h).1 hs).1, tab_of (laid_two h).1, et_of (laid_two h).2⟩

noncomputable def baseW (os : Os) : World :=
  let w0 := World.holding Tryz.prog os ⟨#[], #[], []⟩
  { w0 with heap := w0.heap.modify 0 fun
      | .cells _ t frozen => .cells #[.iface 193 (.agg #[.pointer (some ⟨13, 125, none⟩)])] t frozen
      | o => o }

noncomputable def laidW (os : Os) : World := (baseW os).layVars Tryz.prog plain

theorem laidW_os (os : Os) : (laidW os).os = os := World.layVars_os _ _ _

theorem laidW_fits (os : Os) : (baseW os).layFits Tryz.prog plain [] = true := by kernel_rfl

theorem laidW_ifaces (os : Os) : (baseW os).layIfaces Tryz.prog plain (laidW os) = true := by kernel_rfl

theorem laidW_met (os : Os) (args : Array Value) : laidMetH Tryz.prog laid ((laidW os).forCall (fun _ _ => 0) ⟨#[], args, []⟩).memory := by
  refine laidMetH_of_parts ?_ (by kernel_rfl)
  rw [laid_plain]
  have e1 : (plain.filter fun x => (plain.map (·.1)).contains x.1) = plain := List.filter_eq_self.2 fun x hx => List.contains_iff_mem.2 (List.mem_map.2 ⟨x, hx, rfl⟩)
  have e2 : (plain.filter fun x => !(plain.map (·.1)).contains x.1) = [] := List.filter_eq_nil_iff.2 fun x hx => by rw [List.contains_iff_mem.2 (List.mem_map.2 ⟨x, hx, rfl⟩)]; simp
  have h : laidMet Tryz.prog plain (laidW os) := laidMet_layVars (w0 := baseW os) (plain.map (·.1)) [] (by rw [e1]; rfl) (by rw [e1]; exact laidW_fits os) (by rw [e1]; exact laidW_ifaces os) (by rw [e2]; exact LaidIn.none)
  exact h.of_heap (by simp [World.memory, World.forCall, Input.heap])

theorem vars_four {H : Type} {enc : TypeId × Value → H} {W : World} {a b c d : String} {gs : List (DataW H)} {ps : List MemPlace} (h : DataW.TrodVars enc Tryz.prog W (fun _ => true) [a, b, c, d] gs ps) : ∃ g1 g2 g3 g4, gs = [g1, g2, g3, g4] := by
  match gs, h with
  | [], h => exact h.elim
  | [_], h => obtain ⟨_, _, _, _, _, _, _, _, _, _, h, _⟩ := h; exact h.elim
  | [_, _], h => obtain ⟨_, _, _, _, _, _, _, _, _, _, h, _⟩ := h; obtain ⟨_, _, _, _, _, _, _, _, _, _, h, _⟩ := h; exact h.elim
  | [_, _, _], h => obtain ⟨_, _, _, _, _, _, _, _, _, _, h, _⟩ := h; obtain ⟨_, _, _, _, _, _, _, _, _, _, h, _⟩ := h; obtain ⟨_, _, _, _, _, _, _, _, _, _, h, _⟩ := h; exact h.elim
  | [g1, g2, g3, g4], _ => exact ⟨g1, g2, g3, g4, rfl⟩
  | _ :: _ :: _ :: _ :: _ :: _, h => obtain ⟨_, _, _, _, _, _, _, _, _, _, h, _⟩ := h; obtain ⟨_, _, _, _, _, _, _, _, _, _, h, _⟩ := h; obtain ⟨_, _, _, _, _, _, _, _, _, _, h, _⟩ := h; obtain ⟨_, _, _, _, _, _, _, _, _, _, h, _⟩ := h; exact h.elim

theorem lifted (os : Os) (started : os.Started) (H : Type) (enc : TypeId × Value → H) :
    ReturnsInHanded {} Tryz.checked os 6 .any (fun w args => (Rows.fnExactShimPutSpec.pre enc Tryz.prog Tryz.f6 [] false w args ∧ laidMetH Tryz.prog laid w) ∧ sizedMet enc Tryz.prog Tryz.f6 (OpenSpec.ofChange Rows.fnExactShimPutSpec) false w args)
      (Rows.fnExactShimPutSpec.post enc Tryz.prog Tryz.f6 false true false false) := by
  refine lift_laid_shaped (C := Tryz.checked) (X := fun w _ => laidMetH Tryz.prog laid w) (fun _ _ _ hh h => h.of_heap hh) own started (by kernel_rfl) Tryz.func6
    (ChangeSpec.witness_shaped (enc := enc) (C := Tryz.checked) (os := os) (X := fun w _ => laidMetH Tryz.prog laid w) false (laidW os) #[.agg #[.int .i64 0, .int .i64 0, .int .i64 0, .int .i64 0, .slice none 0 0, .string ⟨#[]⟩], .int .i64 0, .int .i64 0, .bool false, .int .i64 0] 8 (laidW_os os) (World.shaped_of_ZipB (by kernel_rfl) (by kernel_rfl)) (by kernel_rfl) (by kernel_rfl) (by kernel_rfl) (laidW_met os _)) ?_
  intro W base args ds gs before hval0 hW hL hSh
  have hval : ∀ (j : Nat) t v, Tryz.f6.params[j]? = some t → args[j]? = some v → Value.okWide Tryz.prog W .any base t v := hval0
  have hW' := hW
  obtain ⟨p, q, hA0, hV0, rfl, hfz, hnd⟩ := hW
  have hA : DataW.TrodAll enc Tryz.prog W 0 (fun _ => true) true Tryz.f6.params.toList args.toList ds p := hA0
  have hV : DataW.TrodVars enc Tryz.prog W (fun _ => true) ["loop.example/g00579/impl.errHead", "loop.example/g00579/impl.errCut", "loop.example/g00579/impl.errWrite", "loop.example/g00579/impl.errSum"] gs q := hV0
  rw [Tryz.params6] at hA hval
  obtain ⟨v0, v1, v2, v3, v4, d0, d1, d2, d3, d4, p0, p1, p2, p3, p4, rfl, rfl, rfl, h0, h1, h2, h3, h4⟩ := trodAll_five hA
  have k0 := h0
  have lt0 : ∀ x ∈ p0, x.block < W.heap.size := by obtain ⟨m, hm⟩ := k0; exact DataW.trod_lt m _ _ _ hm
  have k1 := h1
  have lt1 : ∀ x ∈ p1, x.block < W.heap.size := by obtain ⟨m, hm⟩ := k1; exact DataW.trod_lt m _ _ _ hm
  have k2 := h2
  have lt2 : ∀ x ∈ p2, x.block < W.heap.size := by obtain ⟨m, hm⟩ := k2; exact DataW.trod_lt m _ _ _ hm
  have k3 := h3
  have lt3 : ∀ x ∈ p3, x.block < W.heap.size := by obtain ⟨m, hm⟩ := k3; exact DataW.trod_lt m _ _ _ hm
  have k4 := h4
  have lt4 : ∀ x ∈ p4, x.block < W.heap.size := by obtain ⟨m, hm⟩ := k4; exact DataW.trod_lt m _ _ _ hm
  obtain ⟨g1, g2, g3, g4, rfl⟩ := vars_four hV
  obtain ⟨x0, a0, cap0, hv0, hl0, ht0, hw0⟩ := open_shim (hval 0 53 v0 rfl rfl) h0
  subst hv0
  obtain ⟨a1, hv1, _, _, wf1⟩ := open_int Tryz.underlying3 (hval 1 3 v1 rfl rfl) h1
  subst hv1
  have wa1 : -9223372036854775808 ≤ a1 ∧ a1 ≤ 9223372036854775807 := by
    simp only [Lit.wf, Bool.and_eq_true, decide_eq_true_eq] at wf1
    exact wf1
  obtain ⟨a2, hv2, _, _, wf2⟩ := open_int Tryz.underlying3 (hval 2 3 v2 rfl rfl) h2
  subst hv2
  have wa2 : -9223372036854775808 ≤ a2 ∧ a2 ≤ 9223372036854775807 := by
    simp only [Lit.wf, Bool.and_eq_true, decide_eq_true_eq] at wf2
    exact wf2
  obtain ⟨b3, hv3⟩ := open_bool Tryz.underlying4 (hval 3 4 v3 rfl rfl)
  subst hv3
  obtain ⟨a4, hv4, _, _, wf4⟩ := open_int Tryz.underlying3 (hval 4 3 v4 rfl rfl) h4
  subst hv4
  have wa4 : -9223372036854775808 ≤ a4 ∧ a4 ≤ 9223372036854775807 := by
    simp only [Lit.wf, Bool.and_eq_true, decide_eq_true_eq] at wf4
    exact wf4
  clear hA0 hval0 hV0
  refine (walk x0 a0 cap0 a1 a2 b3 a4 W hl0 ht0 hw0 wa1 wa2  wa4 (lv_of hL hSh)).mono fun e W' ⟨he, bel⟩ => ?_
  subst he
  exact ⟨_, rfl, _, _, _, [], _, _, hW', trodAll_mk1 (shut_bool Tryz.underlying4 _), (trodAll_mk5 (Below.trod laidOut (by kernel_rfl) (of_decide_eq_true (by kernel_rfl)) k0 bel lt0) (Below.trod laidOut (by kernel_rfl) (of_decide_eq_true (by kernel_rfl)) k1 bel lt1) (Below.trod laidOut (by kernel_rfl) (of_decide_eq_true (by kernel_rfl)) k2 bel lt2) (Below.trod laidOut (by kernel_rfl) (of_decide_eq_true (by kernel_rfl)) k3 bel lt3) (Below.trod laidOut (by kernel_rfl) (of_decide_eq_true (by kernel_rfl)) k4 bel lt4)), Below.trodVars laidOut bel (by kernel_rfl) hV, bel.frame _, fun h => by cases h⟩

theorem cIn : (Rows.fnExactShimPutRow.inPlace == Tryz.prog.inPlace 6) = true := by kernel_rfl

theorem cUn : (Rows.fnExactShimPutRow.unfollowed == Tryz.prog.unfollowed 6) = true := by kernel_rfl

theorem cRe : (Rows.fnExactShimPutRow.recurses == Tryz.prog.recurses 6) = true := by kernel_rfl

theorem cNa : (Rows.fnExactShimPutRow.named == Tryz.prog.varsNamed 6) = true := by kernel_rfl

theorem cMa : mapsRowed Tryz.prog = true := by kernel_rfl

theorem closed : joinedFacts Tryz.prog 6 Tryz.f6 Rows.fnExactShimPutSpec Rows.fnExactShimPutRow = true := by
  unfold joinedFacts
  rw [cIn, cUn, cRe, cNa, cMa, laidOut]
  kernel_rfl

theorem over : Rows.fnExactShimPutRow.holds Tryz.pinned (OpenSpec.ofChange Rows.fnExactShimPutSpec) :=
  OpenClaim.holds_of_wide 6 Tryz.f6 rfl rfl rfl rfl rfl rfl rfl ⟨rfl, rfl, rfl, rfl, rfl⟩ rfl rfl rfl rfl rfl (by kernel_rfl) Tryz.func6 closed
    (of_decide_eq_true (by kernel_rfl)) (by unfold Func.isWrapper; rw [if_neg (by decide +kernel)]; exact ⟨rfl, rfl⟩)
    (fun os started H enc _ => lifted os started H enc)

theorem card : Rows.FnExactShimPutCardSaid :=
  Claim7.holds_tied_plain_at .later [] [.data, .data, .data, .data, .handle, .sentinel, .sentinel, .sentinel, .sentinel, .sentinel, .sentinel, .pinned] true Rows.fnExactShimPutCard.stood.harness Rows.fnExactShimPutCard.stood.looks
    over (fun _ h => by cases h) (by kernel_rfl) (fun _ h => by cases h) fnExactShimPut_row_tie rfl ⟨rfl, rfl⟩ (by kernel_rfl) rfl
    (fun f fn hf hfn => by
      obtain rfl : f = 6 := Option.some.inj ((show Tryz.prog.funcNamed Rows.fnExactShimPutRow.func = some 6 by kernel_rfl).symm.trans hf) |>.symm
      obtain rfl : fn = Tryz.f6 := (Option.some.inj (Tryz.func6.symm.trans hfn)).symm
      exact ⟨by kernel_rfl, fun j t ht => by
        rw [Tryz.params6] at ht
        have hm : t ∈ [53, 3, 3, 4, 3] := by simpa using Array.mem_of_getElem? ht
        have hall : ([53, 3, 3, 4, 3].all fun u => !Tryz.prog.wantsStandIn u) = true := by kernel_rfl
        exact (show Tryz.prog.wantsStandIn t = false by simpa using List.all_eq_true.1 hall t hm)⟩)
    (by kernel_rfl)

end Go.Proofs.YtbbmpfkijhhemaaGreatDoor.lawShimPut
namespace Go.Proofs.YtbbmpfkijhhemaaGreatDoor
theorem fnExactShimPut_holds : Rows.FnExactShimPutCardSaid := lawShimPut.card
#print axioms fnExactShimPut_holds
end Go.Proofs.YtbbmpfkijhhemaaGreatDoor
