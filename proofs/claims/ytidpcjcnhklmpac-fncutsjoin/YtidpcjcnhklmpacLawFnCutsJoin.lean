/- At every two codes the law FnCutsJoin answers true: two drawn cuts, joined, are a cut. No conditions. -/
import Derived.Test.YtidpcjcnhklmpacPack12
import Derived.Test.YtidpcjcnhklmpacPack13
namespace Go.Proofs.Ytidpcjcnhklmpac.lawFnCutsJoin
open Go.ChangeShapes Go.WideShapes Go.ChangeAt Go.RowKit Go.Joins
attribute [local go_sem ↓] Go.wp_at_zero Go.wp_at_succ

set_option maxRecDepth 100000 in
theorem big_is (a : Option Addr) (len cap : Nat) (r : Bool) (h : decide (1048576 < len) = r) (hm : len ≤ maxLen) (w : World) :
    Calls Try.prog 6 #[.slice a len cap] w fun e w' => e = .returned (.bool r) ∧ w' = w := by
  unfold maxLen at hm
  cases r
  · have h' : len ≤ 1048576 := by simpa using h
    clear h
    go_enter Try.func6, Try.ntmps6
    go_wp2
    go_ret
    exact ⟨by simp; omega, rfl⟩
  · have h' : 1048576 < len := by simpa using h
    clear h
    go_enter Try.func6, Try.ntmps6
    go_wp2
    go_ret
    exact ⟨by simp; omega, rfl⟩

set_option maxRecDepth 100000 in
theorem open_bytes {H : Type} {enc : TypeId × Value → H} {w : World} {base b0 : Nat} {held : Bool} {r : Go.Reach} {v : Value} {d : DataW H} {p : List MemPlace} (hv : Value.okWide Try.prog w r b0 22 v) (h : DataW.Trod enc Try.prog w base (fun _ => true) held 22 v d p) :
    ∃ (a : Option Addr) (len cap : Nat), v = .slice a len cap ∧ (len ≤ maxLen ∧ Bytes w a len) := by
  obtain ⟨a, len, cap, rfl⟩ := okWide_slice Try.underlying22 hv
  obtain ⟨fuel, hf⟩ := h
  refine ⟨a, len, cap, rfl, ?_⟩
  rcases open_ints Try.underlying22 Try.underlying5 (by kernel_rfl) hf with ⟨hcs, _⟩ | ⟨x, l, c, zs, hcs, _, hl, hm, hz, _, hcell, hwz⟩
  · simp [Value.cells] at hcs
    obtain ⟨rfl, rfl, rfl⟩ := hcs
    exact ⟨Nat.zero_le _, .inl rfl⟩
  · simp [Value.cells] at hcs
    obtain ⟨rfl, rfl, rfl⟩ := hcs
    refine ⟨by omega, ?_⟩
    by_cases h0 : len = 0
    · exact .inl h0
    · have hzl : zs.length = cap := by simpa using hz
      have hx : x = ⟨x.block, x.off, none⟩ := by
        have h1 := hcell 0 (by omega)
        simp [Addr.add] at h1
        cases x with
        | mk b o s =>
          cases s with
          | none => rfl
          | some s =>
            simp only [World.cell?] at h1
            split at h1 <;> simp at h1
      refine .inr ⟨x.block, x.off, by rw [← hx], ?_, fun i hi => ?_⟩
      · have h1 := hcell 0 (by omega)
        have := World.block_lt_of_cell? w _ h1
        simpa [Addr.add] using this
      · have h1 := hcell i (by omega)
        have hw : (Lit.int .u8 (zs.getD i 0)).wf = true := hwz _ (by rw [List.getD_eq_getElem?_getD, List.getElem?_eq_getElem (by omega)]; exact List.getElem_mem _)
        have hb := bounds_u8 hw
        refine ⟨zs.getD i 0, hb.1, hb.2, ?_⟩
        rw [hx] at h1
        have e : (Addr.mk x.block x.off none).add i = ⟨x.block, x.off + i, none⟩ := by
          unfold Addr.add
          split
          · rename_i h
            rw [h]
            rfl
          · rfl
        rw [e] at h1
        exact h1

set_option maxRecDepth 100000 in
set_option maxHeartbeats 1000000 in
theorem walk_big (a : Option Addr) (len cap : Nat) (a' : Option Addr) (len' cap' : Nat) (w : World) (hm : len ≤ maxLen) (hm' : len' ≤ maxLen) (h : 1048576 < len ∨ 1048576 < len') :
    Calls Try.prog 4 #[.slice a len cap, .slice a' len' cap'] w fun e w' => e = .returned (.bool true) ∧ Below w.heap.size w w' := by
  by_cases h1 : 1048576 < len
  · have d1 : decide (1048576 < len) = true := by simpa using h1
    clear h h1
    go_enter Try.func4, Try.ntmps4
    go_wp2_with (go_at_call 6; refine (big_is _ _ _ true d1 hm _).mono ?_; rintro e w1 ⟨rfl, rfl⟩)
    go_ret
    exact ⟨rfl, Below.refl _ _⟩
  · have d1 : decide (1048576 < len) = false := by simpa using h1
    have d2 : decide (1048576 < len') = true := by simp; omega
    clear h h1
    go_enter Try.func4, Try.ntmps4
    go_wp2_with fail
    refine (big_is _ _ _ false d1 hm _).mono ?_
    rintro e w1 ⟨rfl, rfl⟩
    go_wp2_with fail
    refine (big_is _ _ _ true d2 hm' _).mono ?_
    rintro e w2 ⟨rfl, rfl⟩
    go_wp2
    go_ret
    exact ⟨rfl, Below.refl _ _⟩

set_option maxRecDepth 100000 in
theorem specCut_is (r : Bool) (a : Option Addr) (n cap : Nat) (ws : List Wr) (h : cutB ws = r) (w : World) (hn : ws.length = n) (hm : n ≤ 1048576) (hx : Few ws) (hh : IsWs w a ws) :
    Calls Try.prog 16 #[.slice a n cap] w fun e w' => e = .returned (.bool r) ∧ Below w.heap.size w w' := by
  subst h
  exact specIsCut_any a n cap ws w hn hm hx hh

set_option maxRecDepth 100000 in
theorem implCut_is (r : Bool) (a : Option Addr) (n cap : Nat) (ws : List Wr) (h : cutB ws = r) (w : World) (hn : ws.length = n) (hm : n ≤ 1048576) (hx : Few ws) (hh : IsWs w a ws) :
    Calls Try.prog 15 #[.slice a n cap] w fun e w' => e = .returned (.bool r) ∧ Below w.heap.size w w' := by
  subst h
  exact implIsCut_any a n cap ws w hn hm hx hh

set_option maxRecDepth 100000 in
set_option maxHeartbeats 8000000 in
theorem walk_small (a : Option Addr) (len cap : Nat) (a' : Option Addr) (len' cap' : Nat) (w : World) (hy : Bytes w a len) (hy' : Bytes w a' len') (hl : len ≤ 1048576) (hl' : len' ≤ 1048576) :
    Calls Try.prog 4 #[.slice a len cap, .slice a' len' cap'] w fun e w' => e = .returned (.bool true) ∧ Below w.heap.size w w' := by
  have HY : Hid (Bytes w a len) := hy
  have HY' : Hid (Bytes w a' len') := hy'
  have d1 : decide (1048576 < len) = false := by simp; omega
  have d2 : decide (1048576 < len') = false := by simp; omega
  clear hy hy'
  go_enter Try.func4, Try.ntmps4
  go_wp2_with fail
  refine (big_is _ _ _ false d1 (by unfold maxLen; omega) _).mono ?_
  rintro e w0 ⟨rfl, rfl⟩
  go_wp2_with fail
  refine (big_is _ _ _ false d2 (by unfold maxLen; omega) _).mono ?_
  rintro e w0' ⟨rfl, rfl⟩
  clear d1 d2
  go_wp2_with fail
  refine (drawIsCut_any _ _ _ _ HY.out hl).mono ?_
  rintro e w1 ⟨v1, es1, rfl, ⟨g1, cp1, rfl, l1, f1, r1⟩, hb1⟩
  have HX1 := Lib.hid (few_of f1)
  have HI1 := Lib.hid ((r1.holds rfl).isWs HX1.out)
  have HB1 := Lib.hid hb1
  clear f1 r1 hb1
  go_wp2_with fail
  refine (drawIsCut_any _ _ _ _ (HY'.out.below HB1.out) hl').mono ?_
  rintro e w2 ⟨v2, es2, rfl, ⟨g2, cp2, rfl, l2, f2, r2⟩, hb2⟩
  have HX2 := Lib.hid (few_of f2)
  have HA2 := Lib.hid (HI1.out.below hb2)
  have HC2 := Lib.hid ((r2.holds rfl).isWs HX2.out)
  have HB2 := Lib.hid (below_step HB1.out HB1.out.size hb2)
  clear f2 r2 hb2 HI1 HB1 HY HY'
  have HN1 : Hid ((es1.map (·.x)).length = es1.length) := by simp [Hid]
  have HN2 : Hid ((es2.map (·.x)).length = es2.length) := by simp [Hid]
  generalize es1.map (·.x) = xa at *
  generalize es2.map (·.x) = xb at *
  generalize es1.length = n1 at *
  generalize es2.length = n2 at *
  have HJ : Hid (cutB xa = true → cutB xb = true → cutB (joinB xa xb) = true) := cut_join
  cases ha : cutB xa <;> cases hb : cutB xb
  · go_wp2_with fail
    refine (implCut_is false _ _ _ _ ha _ HN1.out (by omega) HX1.out HA2.out).mono ?_
    rintro e w3 ⟨rfl, hbb⟩
    have HA3 := Lib.hid (HA2.out.below hbb)
    have HC3 := Lib.hid (HC2.out.below hbb)
    have HB3 := Lib.hid (below_step HB2.out HB2.out.size hbb)
    clear hbb HA2 HC2 HB2
    go_wp2_with fail
    refine (specCut_is false _ _ _ _ ha _ HN1.out (by omega) HX1.out HA3.out).mono ?_
    rintro e w4 ⟨rfl, hbb⟩
    have HA4 := Lib.hid (HA3.out.below hbb)
    have HC4 := Lib.hid (HC3.out.below hbb)
    have HB4 := Lib.hid (below_step HB3.out HB3.out.size hbb)
    clear hbb HA3 HC3 HB3
    go_wp2_with fail
    refine (implCut_is false _ _ _ _ hb _ HN2.out (by omega) HX2.out HC4.out).mono ?_
    rintro e w5 ⟨rfl, hbb⟩
    have HA5 := Lib.hid (HA4.out.below hbb)
    have HC5 := Lib.hid (HC4.out.below hbb)
    have HB5 := Lib.hid (below_step HB4.out HB4.out.size hbb)
    clear hbb HA4 HC4 HB4
    go_wp2_with fail
    refine (specCut_is false _ _ _ _ hb _ HN2.out (by omega) HX2.out HC5.out).mono ?_
    rintro e w6 ⟨rfl, hbb⟩
    have HA6 := Lib.hid (HA5.out.below hbb)
    have HC6 := Lib.hid (HC5.out.below hbb)
    have HB6 := Lib.hid (below_step HB5.out HB5.out.size hbb)
    clear hbb HA5 HC5 HB5
    go_wp2_with fail
    refine (specCut_is false _ _ _ _ ha _ HN1.out (by omega) HX1.out HA6.out).mono ?_
    rintro e w7 ⟨rfl, hbb⟩
    have HA7 := Lib.hid (HA6.out.below hbb)
    have HC7 := Lib.hid (HC6.out.below hbb)
    have HB7 := Lib.hid (below_step HB6.out HB6.out.size hbb)
    clear hbb HA6 HC6 HB6
    go_wp2
    go_ret
    exact ⟨rfl, HB7.out⟩
  · go_wp2_with fail
    refine (implCut_is false _ _ _ _ ha _ HN1.out (by omega) HX1.out HA2.out).mono ?_
    rintro e w3 ⟨rfl, hbb⟩
    have HA3 := Lib.hid (HA2.out.below hbb)
    have HC3 := Lib.hid (HC2.out.below hbb)
    have HB3 := Lib.hid (below_step HB2.out HB2.out.size hbb)
    clear hbb HA2 HC2 HB2
    go_wp2_with fail
    refine (specCut_is false _ _ _ _ ha _ HN1.out (by omega) HX1.out HA3.out).mono ?_
    rintro e w4 ⟨rfl, hbb⟩
    have HA4 := Lib.hid (HA3.out.below hbb)
    have HC4 := Lib.hid (HC3.out.below hbb)
    have HB4 := Lib.hid (below_step HB3.out HB3.out.size hbb)
    clear hbb HA3 HC3 HB3
    go_wp2_with fail
    refine (implCut_is true _ _ _ _ hb _ HN2.out (by omega) HX2.out HC4.out).mono ?_
    rintro e w5 ⟨rfl, hbb⟩
    have HA5 := Lib.hid (HA4.out.below hbb)
    have HC5 := Lib.hid (HC4.out.below hbb)
    have HB5 := Lib.hid (below_step HB4.out HB4.out.size hbb)
    clear hbb HA4 HC4 HB4
    go_wp2_with fail
    refine (specCut_is true _ _ _ _ hb _ HN2.out (by omega) HX2.out HC5.out).mono ?_
    rintro e w6 ⟨rfl, hbb⟩
    have HA6 := Lib.hid (HA5.out.below hbb)
    have HC6 := Lib.hid (HC5.out.below hbb)
    have HB6 := Lib.hid (below_step HB5.out HB5.out.size hbb)
    clear hbb HA5 HC5 HB5
    go_wp2_with fail
    refine (specCut_is false _ _ _ _ ha _ HN1.out (by omega) HX1.out HA6.out).mono ?_
    rintro e w7 ⟨rfl, hbb⟩
    have HA7 := Lib.hid (HA6.out.below hbb)
    have HC7 := Lib.hid (HC6.out.below hbb)
    have HB7 := Lib.hid (below_step HB6.out HB6.out.size hbb)
    clear hbb HA6 HC6 HB6
    go_wp2
    go_ret
    exact ⟨rfl, HB7.out⟩
  · go_wp2_with fail
    refine (implCut_is true _ _ _ _ ha _ HN1.out (by omega) HX1.out HA2.out).mono ?_
    rintro e w3 ⟨rfl, hbb⟩
    have HA3 := Lib.hid (HA2.out.below hbb)
    have HC3 := Lib.hid (HC2.out.below hbb)
    have HB3 := Lib.hid (below_step HB2.out HB2.out.size hbb)
    clear hbb HA2 HC2 HB2
    go_wp2_with fail
    refine (specCut_is true _ _ _ _ ha _ HN1.out (by omega) HX1.out HA3.out).mono ?_
    rintro e w4 ⟨rfl, hbb⟩
    have HA4 := Lib.hid (HA3.out.below hbb)
    have HC4 := Lib.hid (HC3.out.below hbb)
    have HB4 := Lib.hid (below_step HB3.out HB3.out.size hbb)
    clear hbb HA3 HC3 HB3
    go_wp2_with fail
    refine (implCut_is false _ _ _ _ hb _ HN2.out (by omega) HX2.out HC4.out).mono ?_
    rintro e w5 ⟨rfl, hbb⟩
    have HA5 := Lib.hid (HA4.out.below hbb)
    have HC5 := Lib.hid (HC4.out.below hbb)
    have HB5 := Lib.hid (below_step HB4.out HB4.out.size hbb)
    clear hbb HA4 HC4 HB4
    go_wp2_with fail
    refine (specCut_is false _ _ _ _ hb _ HN2.out (by omega) HX2.out HC5.out).mono ?_
    rintro e w6 ⟨rfl, hbb⟩
    have HA6 := Lib.hid (HA5.out.below hbb)
    have HC6 := Lib.hid (HC5.out.below hbb)
    have HB6 := Lib.hid (below_step HB5.out HB5.out.size hbb)
    clear hbb HA5 HC5 HB5
    go_wp2_with fail
    refine (specCut_is true _ _ _ _ ha _ HN1.out (by omega) HX1.out HA6.out).mono ?_
    rintro e w7 ⟨rfl, hbb⟩
    have HA7 := Lib.hid (HA6.out.below hbb)
    have HC7 := Lib.hid (HC6.out.below hbb)
    have HB7 := Lib.hid (below_step HB6.out HB6.out.size hbb)
    clear hbb HA6 HC6 HB6
    go_wp2_with fail
    refine (specCut_is false _ _ _ _ hb _ HN2.out (by omega) HX2.out HC7.out).mono ?_
    rintro e w8 ⟨rfl, hbb⟩
    have HA8 := Lib.hid (HA7.out.below hbb)
    have HC8 := Lib.hid (HC7.out.below hbb)
    have HB8 := Lib.hid (below_step HB7.out HB7.out.size hbb)
    clear hbb HA7 HC7 HB7
    go_wp2
    go_ret
    exact ⟨rfl, HB8.out⟩
  · go_wp2_with fail
    refine (implCut_is true _ _ _ _ ha _ HN1.out (by omega) HX1.out HA2.out).mono ?_
    rintro e w3 ⟨rfl, hbb⟩
    have HA3 := Lib.hid (HA2.out.below hbb)
    have HC3 := Lib.hid (HC2.out.below hbb)
    have HB3 := Lib.hid (below_step HB2.out HB2.out.size hbb)
    clear hbb HA2 HC2 HB2
    go_wp2_with fail
    refine (specCut_is true _ _ _ _ ha _ HN1.out (by omega) HX1.out HA3.out).mono ?_
    rintro e w4 ⟨rfl, hbb⟩
    have HA4 := Lib.hid (HA3.out.below hbb)
    have HC4 := Lib.hid (HC3.out.below hbb)
    have HB4 := Lib.hid (below_step HB3.out HB3.out.size hbb)
    clear hbb HA3 HC3 HB3
    go_wp2_with fail
    refine (implCut_is true _ _ _ _ hb _ HN2.out (by omega) HX2.out HC4.out).mono ?_
    rintro e w5 ⟨rfl, hbb⟩
    have HA5 := Lib.hid (HA4.out.below hbb)
    have HC5 := Lib.hid (HC4.out.below hbb)
    have HB5 := Lib.hid (below_step HB4.out HB4.out.size hbb)
    clear hbb HA4 HC4 HB4
    go_wp2_with fail
    refine (specCut_is true _ _ _ _ hb _ HN2.out (by omega) HX2.out HC5.out).mono ?_
    rintro e w6 ⟨rfl, hbb⟩
    have HA6 := Lib.hid (HA5.out.below hbb)
    have HC6 := Lib.hid (HC5.out.below hbb)
    have HB6 := Lib.hid (below_step HB5.out HB5.out.size hbb)
    clear hbb HA5 HC5 HB5
    go_wp2_with fail
    refine (specCut_is true _ _ _ _ ha _ HN1.out (by omega) HX1.out HA6.out).mono ?_
    rintro e w7 ⟨rfl, hbb⟩
    have HA7 := Lib.hid (HA6.out.below hbb)
    have HC7 := Lib.hid (HC6.out.below hbb)
    have HB7 := Lib.hid (below_step HB6.out HB6.out.size hbb)
    clear hbb HA6 HC6 HB6
    go_wp2_with fail
    refine (specCut_is true _ _ _ _ hb _ HN2.out (by omega) HX2.out HC7.out).mono ?_
    rintro e w8 ⟨rfl, hbb⟩
    have HA8 := Lib.hid (HA7.out.below hbb)
    have HC8 := Lib.hid (HC7.out.below hbb)
    have HB8 := Lib.hid (below_step HB7.out HB7.out.size hbb)
    clear hbb HA7 HC7 HB7
    have HJT := Lib.hid (HJ.out ha hb)
    have HJF := Lib.hid (joinB_few xa xb)
    have HJL := Lib.hid (joinB_len xa xb)
    go_wp2_with fail
    refine (implMapJoin_any _ _ n1 n2 _ _ xa xb _ HN1.out HN2.out (by omega) (by omega) HX1.out HX2.out HA8.out HC8.out).mono ?_
    rintro e wj ⟨v, es, rfl, hes, hrow, hbb⟩
    obtain ⟨ga, gc, L', rfl, hl', hg8⟩ := hrow.ownA hes
    have HBJ := Lib.hid (below_step HB8.out HB8.out.size hbb)
    have HWJ := Lib.hid (hg8.isWs HJF.out)
    have hL6 : L' ≤ 6 := by rw [← hl']; exact HJL.out
    have HLJ := Lib.hid hl'
    clear hbb hg8 hrow hes hl'
    go_wp2_with fail
    refine (implCut_is true _ _ _ (joinB xa xb) HJT.out _ HLJ.out (by omega) HJF.out HWJ.out).mono ?_
    rintro e wk ⟨rfl, hbb⟩
    have HB9 := Lib.hid (below_step HBJ.out HBJ.out.size hbb)
    clear hbb
    go_wp2
    go_ret
    exact ⟨rfl, HB9.out⟩

set_option maxRecDepth 100000 in
theorem walk (a : Option Addr) (len cap : Nat) (a' : Option Addr) (len' cap' : Nat) (w : World) (hr : len ≤ maxLen ∧ Bytes w a len) (hr' : len' ≤ maxLen ∧ Bytes w a' len') :
    Calls Try.prog 4 #[.slice a len cap, .slice a' len' cap'] w fun e w' => e = .returned (.bool true) ∧ Below w.heap.size w w' := by
  by_cases h : 1048576 < len ∨ 1048576 < len'
  · exact walk_big a len cap a' len' cap' w hr.1 hr'.1 h
  · exact walk_small a len cap a' len' cap' w hr.2 hr'.2 (by omega) (by omega)

set_option maxRecDepth 100000 in
theorem lifted (os : Os) (started : os.Started) (H : Type) (enc : TypeId × Value → H) :
    ReturnsInHanded {} Try.checked os 4 .any (Rows.fnCutsJoinSpec.pre6 enc Try.prog Try.f4 Rows.fnCutsJoinRow.domain false) (Rows.fnCutsJoinSpec.post enc Try.prog Try.f4 false true false false) := by
  refine returnsInHanded_of_change (C := Try.checked) own started (by kernel_rfl) Try.func4
    (ChangeSpec.witness6 (enc := enc) (C := Try.checked) false ⟨#[], #[.slice none 0 0, .slice none 0 0], []⟩ 8 (by kernel_rfl) (by kernel_rfl) (by kernel_rfl) (by kernel_rfl)) ?_
  intro W base args ds gs before hval0 hW hcnd _
  have hval : ∀ (j : Nat) t v, Try.f4.params[j]? = some t → args[j]? = some v → Value.okWide Try.prog W .any base t v := hval0
  have hW' := hW
  obtain ⟨p, q, hA0, hV, rfl, hfz, hnd⟩ := hW
  have hA : DataW.TrodAll enc Try.prog W 0 (fun _ => true) true Try.f4.params.toList args.toList ds p := hA0
  rw [Try.params4] at hA hval
  obtain ⟨v0, v1, d0, d1, p0, p1, rfl, rfl, rfl, h0, h1⟩ := trodAll_two hA
  have k0 := h0
  have lt0 : ∀ x ∈ p0, x.block < W.heap.size := by obtain ⟨m, hm⟩ := k0; exact DataW.trod_lt m _ _ _ hm
  have k1 := h1
  have lt1 : ∀ x ∈ p1, x.block < W.heap.size := by obtain ⟨m, hm⟩ := k1; exact DataW.trod_lt m _ _ _ hm
  obtain ⟨rfl, rfl⟩ := trodVars_none hV
  obtain ⟨a0, len0, cap0, hv0, hr0⟩ := open_bytes (hval 0 22 v0 rfl rfl) h0
  subst hv0
  obtain ⟨a1, len1, cap1, hv1, hr1⟩ := open_bytes (hval 1 22 v1 rfl rfl) h1
  subst hv1
  clear hA0 hval0
  refine (walk a0 len0 cap0 a1 len1 cap1 W hr0 hr1).mono fun e W' ⟨he, bel⟩ => ?_
  subst he
  exact ⟨_, rfl, _, _, _, [], _, [], hW', trodAll_mk1 (shut_bool Try.underlying4 _), (trodAll_mk2 (Below.trod laidOut (by kernel_rfl) (of_decide_eq_true (by kernel_rfl)) k0 bel lt0) (Below.trod laidOut (by kernel_rfl) (of_decide_eq_true (by kernel_rfl)) k1 bel lt1)), rfl, bel.frame _, fun h => by cases h⟩

set_option maxRecDepth 100000 in
theorem over : Rows.fnCutsJoinRow.holds Try.pinned (OpenSpec.ofChange Rows.fnCutsJoinSpec) :=
  OpenClaim.holds_of_wide 4 Try.f4 rfl rfl rfl rfl rfl rfl rfl ⟨rfl, rfl, rfl, rfl, rfl⟩ rfl rfl rfl rfl rfl (by kernel_rfl) Try.func4 (by kernel_rfl)
    (of_decide_eq_true (by kernel_rfl)) (by unfold Func.isWrapper; rw [if_neg (by decide +kernel)]; exact ⟨rfl, rfl⟩)
    (fun os started H enc _ => lifted os started H enc)

end Go.Proofs.Ytidpcjcnhklmpac.lawFnCutsJoin
namespace Go.Proofs.Ytidpcjcnhklmpac

set_option maxRecDepth 100000 in
theorem fnCutsJoin_holds : Rows.FnCutsJoinSaid := lawFnCutsJoin.over
#print axioms fnCutsJoin_holds
end Go.Proofs.Ytidpcjcnhklmpac
