/- At every two codes the law FnCame answers true: posts come behind what their sites had seen; in whatever order they are there, the same ones come. No conditions. -/
import Derived.Test.YtpejdhbajejmoaaPack8
import Derived.Test.YtpejdhbajejmoaaPack9
import Derived.Test.YtpejdhbajejmoaaPack10
import Derived.Test.YtpejdhbajejmoaaPack1
import Derived.Test.YtpejdhbajejmoaaPack11
import Derived.Test.YtpejdhbajejmoaaPack12
import Derived.Test.YtpejdhbajejmoaaRows
import Derived.Deep.DeepCutAuto
namespace Go.Proofs.Ytpejdhbajejmoaa.lawCame
open Go.ChangeShapes Go.WideShapes Go.ChangeAt Go.RowKit Go.Joins
attribute [local go_sem ↓] Go.wp_at_zero Go.wp_at_succ

set_option maxRecDepth 100000 in
theorem big_is (a : Option Addr) (len cap : Nat) (r : Bool) (h : decide (1048576 < len) = r) (hm : len ≤ maxLen) (w : World) :
    Calls Try.prog 4 #[.slice a len cap] w fun e w' => e = .returned (.bool r) ∧ w' = w := by
  unfold maxLen at hm
  cases r
  · have h' : len ≤ 1048576 := by simpa using h
    clear h
    go_enter Try.func4, Try.ntmps4
    go_wp2
    go_ret
    exact ⟨by simp; omega, rfl⟩
  · have h' : 1048576 < len := by simpa using h
    clear h
    go_enter Try.func4, Try.ntmps4
    go_wp2
    go_ret
    exact ⟨by simp; omega, rfl⟩

set_option maxRecDepth 100000 in
theorem open_bytes {H : Type} {enc : TypeId × Value → H} {w : World} {base b0 : Nat} {held : Bool} {r : Go.Reach} {v : Value} {d : DataW H} {p : List MemPlace} (hv : Value.okWide Try.prog w r b0 22 v) (h : DataW.Trod enc Try.prog w base (fun _ => true) held 22 v d p) :
    ∃ (a : Option Addr) (len cap : Nat), v = .slice a len cap ∧ (len ≤ maxLen ∧ Bytes w a len) := by
  obtain ⟨a, len, cap, rfl⟩ := okWide_slice Try.underlying22 hv
  obtain ⟨fuel, hf⟩ := h
  refine ⟨a, len, cap, rfl, ?_⟩
  rcases open_ints Try.underlying22 Try.underlying5 (by kernel_rfl) hf with ⟨hcs, _⟩ | ⟨x, l, c, zs, hcs, _, hl, hm, hz, _, hcell, hwz⟩
  · simp [Value.cells] at hcs
    obtain ⟨rfl, rfl, rfl⟩ := hcs
    exact ⟨Nat.zero_le _, .inl rfl⟩
  · simp [Value.cells] at hcs
    obtain ⟨rfl, rfl, rfl⟩ := hcs
    refine ⟨by omega, ?_⟩
    by_cases h0 : len = 0
    · exact .inl h0
    · have hzl : zs.length = cap := by simpa using hz
      have hx : x = ⟨x.block, x.off, none⟩ := by
        have h1 := hcell 0 (by omega)
        simp [Addr.add] at h1
        cases x with
        | mk b o s =>
          cases s with
          | none => rfl
          | some s =>
            simp only [World.cell?] at h1
            split at h1 <;> simp at h1
      refine .inr ⟨x.block, x.off, by rw [← hx], ?_, fun i hi => ?_⟩
      · have h1 := hcell 0 (by omega)
        have := World.block_lt_of_cell? w _ h1
        simpa [Addr.add] using this
      · have h1 := hcell i (by omega)
        have hw : (Lit.int .u8 (zs.getD i 0)).wf = true := hwz _ (by rw [List.getD_eq_getElem?_getD, List.getElem?_eq_getElem (by omega)]; exact List.getElem_mem _)
        have hb := bounds_u8 hw
        refine ⟨zs.getD i 0, hb.1, hb.2, ?_⟩
        rw [hx] at h1
        have e : (Addr.mk x.block x.off none).add i = ⟨x.block, x.off + i, none⟩ := by
          unfold Addr.add
          split
          · rename_i h
            rw [h]
            rfl
          · rfl
        rw [e] at h1
        exact h1

set_option maxRecDepth 100000 in
set_option maxHeartbeats 1000000 in
theorem walk_big1 (a : Option Addr) (len cap : Nat) (v : Value) (w : World) (hm : len ≤ maxLen) (h : 1048576 < len) :
    Calls Try.prog 3 #[.slice a len cap, v] w fun e w' => e = .returned (.bool true) ∧ Below w.heap.size w w' := by
  have d1 : decide (1048576 < len) = true := by simpa using h
  clear h
  go_enter Try.func3, Try.ntmps3
  go_wp2_with (go_at_call 4; refine (big_is _ _ _ true d1 hm _).mono ?_; rintro e w1 ⟨rfl, rfl⟩)
  go_ret
  exact ⟨rfl, Below.refl _ _⟩

set_option maxRecDepth 100000 in
set_option maxHeartbeats 1000000 in
theorem walk_big2 (a : Option Addr) (len cap : Nat) (a' : Option Addr) (len' cap' : Nat) (w : World) (h : len ≤ 1048576) (hm' : len' ≤ maxLen) (h' : 1048576 < len') :
    Calls Try.prog 3 #[.slice a len cap, .slice a' len' cap'] w fun e w' => e = .returned (.bool true) ∧ Below w.heap.size w w' := by
  have d1 : decide (1048576 < len) = false := by simp; omega
  have d2 : decide (1048576 < len') = true := by simpa using h'
  have hm : len ≤ maxLen := by unfold maxLen; omega
  clear h h'
  go_enter Try.func3, Try.ntmps3
  go_wp2_with fail
  refine (big_is _ _ _ false d1 hm _).mono ?_
  rintro e w1 ⟨rfl, rfl⟩
  go_wp2_with fail
  refine (big_is _ _ _ true d2 hm' _).mono ?_
  rintro e w2 ⟨rfl, rfl⟩
  go_wp2
  go_ret
  exact ⟨rfl, Below.refl _ _⟩

/-- Two like ones of four. -/
def SameK : Prop := ∀ (xs : List Int) (a1 : Option Addr) (c1 : Nat) (a2 : Option Addr) (c2 : Nat) (W : World), xs.length = 4 → IsIs W a1 xs → IsIs W a2 xs → Calls Try.prog 8 #[.slice a1 4 c1, .slice a2 4 c2] W fun e w' => e = .returned (.bool true) ∧ Below W.heap.size W w'

theorem sameK : SameK := fun xs a1 c1 a2 c2 W h4 h1 h2 => by
  have h := same_dec a1 a2 c1 c2 xs xs W (by omega) (by omega) h1 h2
  rw [decide_eq_true rfl, h4] at h
  exact h

theorem cellB {w w' : World} {b o : Nat} {v : Value} (hb : Below w.heap.size w w') (hz : b < w.heap.size) (h : w.cell? ⟨b, o, none⟩ = some v) : w'.cell? ⟨b, o, none⟩ = some v :=
  (hb.cell (p := ⟨b, o, none⟩) hz).trans h

/-- The box of the vector that the posts are joined to, and what it holds. -/
structure AtW (U wr : World) (xs : List Int) : Prop where
  low : Below U.heap.size U wr
  lt : U.heap.size < wr.heap.size
  fz : ∀ o, wr.frozen? ⟨U.heap.size, o, none⟩ = false
  box : ∃ ga ca, wr.cell? ⟨U.heap.size, 0, none⟩ = some (.slice ga 4 ca) ∧ IsIs wr ga xs

theorem AtW.below {U wr w' : World} {xs : List Int} (h : AtW U wr xs) (hb : Below wr.heap.size wr w') : AtW U w' xs := by
  obtain ⟨ga, ca, h1, h2⟩ := h.box
  exact ⟨below_step h.low h.low.size hb, Nat.lt_of_lt_of_le h.lt hb.size, fun o => (hb.frozen (p := ⟨U.heap.size, o, none⟩) h.lt).trans (h.fz o), ga, ca, cellB hb h.lt h1, h2.below hb⟩

theorem AtW.set {U wr : World} {xs ys : List Int} (h : AtW U wr xs) {lo hi : Nat} {g : Option Addr} {cp : Nat} (hy : OwnI wr lo hi g ys) (hlo : U.heap.size < lo) : AtW U (wr.setCell ⟨U.heap.size, 0, none⟩ (.slice g 4 cp)) ys := by
  obtain ⟨ga, ca, h1, h2⟩ := h.box
  refine ⟨h.low.setCell (p := ⟨U.heap.size, 0, none⟩) (Nat.le_refl _) _, by simpa using h.lt, fun o => by rw [World.frozen?_setCell]; exact h.fz o, g, cp, World.cell?_setCell_same _ _ _ h1, ?_⟩
  rcases hy with hy | ⟨b, h3, h4, h5, h6, h7, h8⟩
  · exact .inl hy
  · exact .inr ⟨b, 0, h3, by simpa using h6, fun i hi => by
      rw [Nat.zero_add]
      exact (World.cell?_of_block (a := ⟨b, i, none⟩) (Below.heap_setCell _ _ _ _ (by show b ≠ U.heap.size; omega))).trans (h7 i hi)⟩

theorem _root_.Go.Proofs.Ytpejdhbajejmoaa.OwnI.mono_lo {w : World} {lo lo' hi : Nat} {a : Option Addr} {zs : List Int} (h : OwnI w lo hi a zs) (hl : lo' ≤ lo) : OwnI w lo' hi a zs := by
  rcases h with h | ⟨b, h1, h2, h3, h4⟩
  · exact .inl h
  · exact .inr ⟨b, h1, Nat.le_trans hl h2, h3, h4⟩

theorem _root_.Go.Proofs.Ytpejdhbajejmoaa.IsIs.cell_at {w : World} {a : Option Addr} {zs : List Int} (h : IsIs w a zs) {i : Nat} (hi : i < zs.length) : ∃ g o, a = some ⟨g, o, none⟩ ∧ g < w.heap.size ∧ w.cell? ⟨g, o + i, none⟩ = some (.int .i64 (zs.getD i 0)) := by
  rcases h with h | ⟨b, o, h1, h2, h3⟩
  · subst h
    simp at hi
  · exact ⟨b, o, h1, h2, h3 i hi⟩

/-- What is known of the posts turned. -/
def PassT (ps : List Pst) (n N : Nat) : Prop := (∀ x ∈ outC ps N, x ∈ outC (ps.drop n ++ ps.take n) N) ∧ (outC (ps.drop n ++ ps.take n) N).length = N ∧ ∀ y ∈ outC (ps.drop n ++ ps.take n) N, y.xs.length = 4

theorem _root_.Go.Proofs.Ytpejdhbajejmoaa.TellV.off {vv : List Int} {gv b t : Nat} {x : Value} {w w' : World} (h : TellV vv gv w) (hb : w.heap[b]? = some (.cells #[x] t (0, 0))) (hh : Hole b w w') : TellV vv gv w' := by
  have hne : gv ≠ b := by
    rintro rfl
    have h1 := h.1.2.1 1 (by rw [h.2]; omega)
    rw [cell_of_row _ _ 1 _ _ (0, 0) hb] at h1
    simp at h1
  exact ⟨h.1.of_block (hh.block _ h.1.1 hne) (Nat.lt_of_lt_of_le h.1.1 hh.size), h.2⟩

theorem _root_.Go.Proofs.Ytpejdhbajejmoaa.TellO.off {B M b t : Nat} {out : List Pst} {x : Option Addr} {cp : Nat} {y : Value} {w w' : World} (h : TellO B M out x cp w) (hb : w.heap[b]? = some (.cells #[y] t (0, 0))) (hh : Hole b w w') : TellO B M out x cp w' := by
  rcases h with h | ⟨es, h1, h2, h3, h4⟩
  · exact .inl h
  · refine .inr ⟨es, ⟨?_, fun e he => ?_, h1.apart⟩, h2, h3, h4⟩
    · refine h1.own.kept (row := some b) ⟨hh.os, hh.tape, hh.output, hh.size, fun k hk hn => hh.block k hk (fun e => hn (by rw [e]))⟩ ?_
      rcases h1.own.2 with ⟨e1, e2⟩ | ⟨g, c, cur, e1, e2, e3, e4⟩
      · exact absurd (List.length_eq_zero_iff.1 e2) h2
      · refine .inr fun hg => ?_
        have hg' : g = b := by
          rw [e1] at hg
          simpa [Value.ownBlock] using hg
        subst hg'
        have hl : 0 < es.length := List.length_pos_iff.2 h2
        have hown := h1.own
        rw [e1] at hown
        have hc := hown.cellAt 1 (by omega)
        have hp := psVals_at es 0 1 hl (by omega)
        rw [show 0 * 3 + 1 = 1 by rfl] at hp
        rw [hp, cell_of_row _ _ 1 _ _ (0, 0) hb] at hc
        simp [psVals] at hc
    · obtain ⟨n1, n2, n3⟩ := h1.nums e he
      have hne : e.g ≠ b := by
        rintro rfl
        have h5 := n3.2.1 1 (by rw [h4 e he]; omega)
        rw [cell_of_row _ _ 1 _ _ (0, 0) hb] at h5
        simp at h5
      exact ⟨n1, n2, n3.of_block (hh.block _ n3.1 hne) (Nat.lt_of_lt_of_le n3.1 hh.size)⟩

set_option maxRecDepth 100000 in
set_option maxHeartbeats 16000000 in
theorem walk_small (a : Option Addr) (len cap : Nat) (a' : Option Addr) (len' cap' : Nat) (w : World) (hy : Bytes w a len) (hl : len ≤ 1048576) (hy' : Bytes w a' len') (hl' : len' ≤ 1048576) :
    Calls Try.prog 3 #[.slice a len cap, .slice a' len' cap'] w fun e w' => e = .returned (.bool true) ∧ Below w.heap.size w w' := by
  have HY : Hid (Bytes w a len) := hy
  have HY' : Hid (Bytes w a' len') := hy'
  have d1 : decide (1048576 < len) = false := by simp; omega
  have d2 : decide (1048576 < len') = false := by simp; omega
  have KS := Lib.hid sameK
  clear hy hy'
  go_enter Try.func3, Try.ntmps3
  go_wp2_with fail
  refine (big_is _ _ _ false d1 (by unfold maxLen; omega) _).mono ?_
  rintro e w0 ⟨rfl, hw⟩
  subst w0
  go_wp2_with fail
  refine (big_is _ _ _ false d2 (by unfold maxLen; omega) _).mono ?_
  rintro e w0 ⟨rfl, hw⟩
  subst w0
  clear d1 d2
  have HB : Hid (Below w.heap.size w w) := Below.refl _ _
  go_wp2_with fail
  refine (drawInOrder_any _ _ _ _ HY.out hl).mono ?_
  rintro e wu1 ⟨xp, cpp, ps, rfl, hp1, hp0, hp2, hp3, hb⟩
  clear HY
  replace HY' := Lib.hid (HY'.out.below hb)
  replace HB := Lib.hid (below_step HB.out HB.out.size hb)
  have HP := Lib.hid hp3
  have HX := Lib.hid hp2
  clear hb hp3 hp2
  obtain ⟨L, hL⟩ : ∃ L, ps.length = L := ⟨_, rfl⟩
  rw [hL] at hp1 hp0 ⊢
  have HL := Lib.hid hL
  clear hL
  go_wp2_with fail
  refine (implInOrder_any xp L cpp ps _ HL.out (by omega) (fun i hi => Nat.le_trans (HX.out i (by rw [HL.out]; exact hi)) (by omega)) HP.out).mono ?_
  intro e wu2 h
  obtain ⟨N, hg, hf, xo, co, gv, cv, rfl, ho, hv, hb⟩ := came_some h
  clear h
  replace HY' := Lib.hid (HY'.out.below hb)
  replace HP := Lib.hid (HP.out.below hb)
  replace HB := Lib.hid (below_step HB.out HB.out.size hb)
  have HG := Lib.hid hg
  have HF := Lib.hid hf
  have hN : N ≤ L := by rw [← HL.out]; exact (outC_bulk hg).2
  have HV4 := Lib.hid (runC_four hg)
  have HOL := Lib.hid (outC_len hg)
  have HO := Lib.hid ho
  have HV := Lib.hid hv
  clear hg hf ho hv hb
  go_wp2_with fail
  have hA : Below wu2.heap.size wu2 (wu2.alloc (.cells #[.slice (some ⟨gv, 0, none⟩) 4 cv] 28)) := (Below.refl _ _).alloc (Nat.le_refl _) _
  replace HY' := Lib.hid (HY'.out.below hA)
  replace HP := Lib.hid (HP.out.below hA)
  replace HO := Lib.hid (HO.out.below hA)
  replace HV := Lib.hid (HV.out.below hA)
  replace HB := Lib.hid (below_step HB.out HB.out.size hA)
  clear hA
  have c7 : (wu2.alloc (.cells #[.slice (some ⟨gv, 0, none⟩) 4 cv] 28)).cell? ⟨wu2.heap.size, 0, none⟩ = some (.slice (some ⟨gv, 0, none⟩) 4 cv) := by go_simp
  have z7 : wu2.heap.size < (wu2.alloc (.cells #[.slice (some ⟨gv, 0, none⟩) 4 cv] 28)).heap.size := by simp
  generalize (wu2.alloc (.cells #[.slice (some ⟨gv, 0, none⟩) 4 cv] 28)) = wk2 at *
  refine (specInOrder_any xp L cpp ps _ HL.out (by omega) (fun i hi => Nat.le_trans (HX.out i (by rw [HL.out]; exact hi)) (by omega)) HP.out).mono ?_
  intro e wu3 h
  obtain ⟨xw, cw, gw, cvw, rfl, ho, hv, hb⟩ := came_of HG.out HF.out h
  clear h
  replace HY' := Lib.hid (HY'.out.below hb)
  replace HP := Lib.hid (HP.out.below hb)
  replace HO := Lib.hid (HO.out.below hb)
  replace HV := Lib.hid (HV.out.below hb)
  replace c7 := cellB hb z7 c7
  replace z7 := Nat.lt_of_lt_of_le z7 hb.size
  replace HB := Lib.hid (below_step HB.out HB.out.size hb)
  have HW := Lib.hid ho
  have HZ := Lib.hid hv
  clear ho hv hb
  go_wp2_with fail
  have hA : Below wu3.heap.size wu3 (wu3.alloc (.cells #[.slice (some ⟨gw, 0, none⟩) 4 cvw] 28)) := (Below.refl _ _).alloc (Nat.le_refl _) _
  replace HY' := Lib.hid (HY'.out.below hA)
  replace HP := Lib.hid (HP.out.below hA)
  replace HO := Lib.hid (HO.out.below hA)
  replace HV := Lib.hid (HV.out.below hA)
  replace c7 := cellB hA z7 c7
  replace z7 := Nat.lt_of_lt_of_le z7 hA.size
  replace HW := Lib.hid (HW.out.below hA)
  replace HZ := Lib.hid (HZ.out.below hA)
  replace HB := Lib.hid (below_step HB.out HB.out.size hA)
  clear hA
  have c9 : (wu3.alloc (.cells #[.slice (some ⟨gw, 0, none⟩) 4 cvw] 28)).cell? ⟨wu3.heap.size, 0, none⟩ = some (.slice (some ⟨gw, 0, none⟩) 4 cvw) := by go_simp
  have z9 : wu3.heap.size < (wu3.alloc (.cells #[.slice (some ⟨gw, 0, none⟩) 4 cvw] 28)).heap.size := by simp
  generalize (wu3.alloc (.cells #[.slice (some ⟨gw, 0, none⟩) 4 cvw] 28)) = wk3 at *
  refine (KS.out _ _ _ _ _ _ HV4.out HV.out HZ.out).mono ?_
  rintro e wu4 ⟨rfl, hb⟩
  replace HY' := Lib.hid (HY'.out.below hb)
  replace HP := Lib.hid (HP.out.below hb)
  replace HO := Lib.hid (HO.out.below hb)
  replace HV := Lib.hid (HV.out.below hb)
  replace c7 := cellB hb z7 c7
  replace z7 := Nat.lt_of_lt_of_le z7 hb.size
  replace HW := Lib.hid (HW.out.below hb)
  replace HZ := Lib.hid (HZ.out.below hb)
  replace c9 := cellB hb z9 c9
  replace z9 := Nat.lt_of_lt_of_le z9 hb.size
  replace HB := Lib.hid (below_step HB.out HB.out.size hb)
  clear hb c9 z9 HZ
  have hm4 := run_make_four
  go_upto_region 9 with fail
  have hA : Below wu4.heap.size wu4 (wu4.alloc (.cells #[.int .i64 0, .int .i64 0, .int .i64 0, .int .i64 0] 3)) := (Below.refl _ _).alloc (Nat.le_refl _) _
  replace HY' := Lib.hid (HY'.out.below hA)
  replace HP := Lib.hid (HP.out.below hA)
  replace HO := Lib.hid (HO.out.below hA)
  replace HV := Lib.hid (HV.out.below hA)
  replace c7 := cellB hA z7 c7
  replace z7 := Nat.lt_of_lt_of_le z7 hA.size
  replace HW := Lib.hid (HW.out.below hA)
  replace HB := Lib.hid (below_step HB.out HB.out.size hA)
  clear hA
  have hz4 : IsIs (wu4.alloc (.cells #[.int .i64 0, .int .i64 0, .int .i64 0, .int .i64 0] 3)) (some ⟨wu4.heap.size, 0, none⟩) (runC ps 0).2 := by
    refine .inr ⟨wu4.heap.size, 0, rfl, by simp, fun i hi => ?_⟩
    rw [Nat.zero_add, cell_of_row _ _ i _ _ (0, 0) (heap_alloc_new wu4 _)]
    match i, hi with
    | 0, _ => rfl
    | 1, _ => rfl
    | 2, _ => rfl
    | 3, _ => rfl
  have hu : (wu4.alloc (.cells #[.int .i64 0, .int .i64 0, .int .i64 0, .int .i64 0] 3)).heap.size = wu4.heap.size + 1 := by simp
  generalize wu4.alloc (.cells #[.int .i64 0, .int .i64 0, .int .i64 0, .int .i64 0] 3) = U at *
  rw [← hu]
  generalize wu4.heap.size = zz at *
  have AT : Hid (AtW U (U.alloc (.cells #[.slice (some ⟨zz, 0, none⟩) 4 4] 28)) (runC ps 0).2) := ⟨(Below.refl _ _).alloc (Nat.le_refl _) _, by simp, fun o => by go_simp, some ⟨zz, 0, none⟩, 4, by go_simp, hz4.below ((Below.refl _ _).alloc (Nat.le_refl _) _)⟩
  clear hz4 hu hm4
  go_wp2
  go_loopw [11] (fun i wr => ∃ k : Nat, k ≤ N ∧ i = .int .i64 k ∧ Hid (AtW U wr (runC ps k).2)) (fun i _ => N - (intOf i).toNat)
  case atStart => exact ⟨0, Nat.zero_le _, rfl, AT⟩
  case round =>
    clear AT
    obtain ⟨k, hk, rfl, AT⟩ := hrel
    by_cases hk' : k < N
    · skip
      obtain ⟨s1, s2, s3⟩ := came_step HG.out hk'
      obtain ⟨ga, ca, q1, q2⟩ := AT.out.box
      have hlo := AT.out.low
      have hlt := AT.out.lt
      obtain ⟨bo, oo, ao, ko, rfl, e1, e2, e3, e4, e5⟩ := ps_cells (HO.out.below hlo) (k := k) (by rw [HOL.out]; exact hk')
      obtain ⟨bw, ow, aw, kw, rfl, f1, f2, f3, f4, f5⟩ := ps_cells (HW.out.below hlo) (k := k) (by rw [HOL.out]; exact hk')
      generalize (outC ps N).getD k pz = X at *
      obtain ⟨xf, xx, xy⟩ := X
      simp only at s1 s2 s3 e2 e3 e4 e5 f2 f3 f4 f5
      rw [s3] at e3 f3
      have hk4 := runC_four (HG.out.less hk)
      have HSM : Hid (∀ p : Aft wr.heap.size wr, Calls Try.prog 8 #[.slice ao 4 ko, .slice aw 4 kw] p.now fun e w' => e = .returned (.bool true) ∧ Below p.now.heap.size p.now w') := fun p => KS.out xx _ _ _ _ p.now s3 (e5.below p.below) (f5.below p.below)
      have HMC : Hid (∀ p : Aft wr.heap.size wr, Calls Try.prog 9 #[vecV ga 4 ca, postV xf ao 4 ko xy] p.now fun e w' => e = .returned (.bool true) ∧ Below p.now.heap.size p.now w') := fun p => by
        have h := implMayCome_any ga ao 4 4 ca ko xf xy (runC ps k).2 xx p.now hk4 (by unfold maxLen; omega) (q2.below p.below) s3 (by unfold maxLen; omega) (e5.below p.below)
        rw [s1] at h
        exact h
      have S2 := Lib.hid s2
      have S3 := Lib.hid s3
      have Q2 := Lib.hid q2
      have E5 := Lib.hid e5
      clear s1 s2 s3 hk4 f5 q2 e5
      have i1 : (k : Int) < (N : Int) := by omega
      have i0 : (0 : Int) ≤ (k : Int) := by omega
      go_wp2_with fail
      have ge2 := aft_cell e1 e2
      have ge3 := aft_cell e1 e3
      have ge4 := aft_cell e1 e4
      have gf2 := aft_cell f1 f2
      have gf3 := aft_cell f1 f3
      have gf4 := aft_cell f1 f4
      have gq1 := aft_cell hlt q1
      have ne := aft_some wr
      refine wp_region_aft (by kernel_rfl) (by kernel_rfl) ?_
      repeat (first | go_big_quiet_step (first | (go_at_call 8; exact aft_of (HSM.out _)) | (go_at_call 9; exact aft_of (HMC.out _))))
      refine wpQuiet_nil ?_
      intro wv hv
      have AT2 := Lib.hid (AT.out.below hv)
      have hlv := AT2.out.lt
      have h1 := Nat.lt_of_lt_of_le e1 hv.size
      replace e3 := cellB hv e1 e3
      replace q1 := cellB hv hlt q1
      have Q5 := Lib.hid (Q2.out.below hv)
      have E6 := Lib.hid (E5.out.below hv)
      clear hv ge2 ge3 ge4 gf2 gf3 gf4 gq1 ne HSM HMC f1 f2 f3 f4 e2 e4 AT hlt hlo e1 Q2 E5
      have hk4 := Lib.hid (runC_four (HG.out.less hk))
      have hk5 := Lib.hid (runC_four (HG.out.less (show k + 1 ≤ N by omega)))
      go_upto_region 14 with fail
      refine wp_region_slotsH 8 [[(10, false)], [(6, false)], [(11, false)], [(109, true), (110, true)], [(111, true)], [(112, true)], [(113, true)], [(108, true), (114, true)]] (fun w' => Below wv.heap.size wv w') (fun w w' => Below w.heap.size w w') (by kernel_rfl) (by kernel_rfl) (by rfl) (Below.refl _ _).drew (fun _ _ h hb => below_step h h.size hb) ?_
      apply slot_eq_h
      · intro ρ w' ⟨p1, p2, p3⟩ hS hn
        have d0 := cellB hS hlv q1
        simp at hn
        go_simp
        exact ⟨Below.refl _ _, rfl⟩
      iterate 4 (apply slot_eq_h; · (intro ρ w' ⟨p1, p2, p3⟩ hS hn; simp at hn; go_simp; exact ⟨Below.refl _ _, rfl⟩))
      apply slot_eq_h
      · intro ρ w' ⟨p1, p2, p3⟩ hS hn
        have d0 := cellB hS h1 e3
        simp at hn
        go_simp
        exact ⟨Below.refl _ _, rfl⟩
      apply slot_eq_h
      · intro ρ w' ⟨p1, p2, p3⟩ hS hn
        simp at hn
        go_simp
        exact ⟨Below.refl _ _, rfl⟩
      refine slot_fact_h (AnsF wv.heap.size (runC ps (k + 1)).2) (lasts_ansF _ _) ?_ ?_
      · intro ρ w' ⟨p1, p2, p3⟩ hS hn
        simp at hn
        go_simp
        refine got_call (implVecJoin_any ga ao 4 4 ca ko (runC ps k).2 xx w' hk4.out (by unfold maxLen; omega) (Q5.out.below hS) S3.out (by unfold maxLen; omega) (E6.out.below hS)) fun e w'' ⟨g, cp, he, ho, hb⟩ => ⟨_, he, hb, g, cp, by rw [S2.out], ?_⟩
        rw [S2.out]
        exact ho.mono_lo hS.size
      refine slot_end_h ?_
      rintro vs w6 hS hF
      simp at hF
      obtain ⟨⟨g, cp, x115, hown⟩, x114, x113, x112, x111, x110, x109, x108⟩ := hF
      rw [hk5.out] at x115
      simp only [List.take_succ_cons, List.take_zero, List.drop_succ_cons, List.drop_zero, putAll, x115, x114, x113, x112, x111, x110, x109, x108]
      clear x115 x114 x113 x112 x111 x110 x109 x108
      simp only [Act.put, List.setIfInBounds_toArray, List.set_cons_succ, List.set_cons_zero]
      have AT3 := Lib.hid (AT2.out.below hS)
      obtain ⟨gb, cb, q3, -⟩ := AT3.out.box
      have fz := AT3.out.fz
      have AT4 := Lib.hid (AT3.out.set (cp := cp) hown hlv)
      clear hown hS AT2 AT3
      simp only [vecV]
      go_wp2
      go_roundw
      case rel =>
        repeat apply Exists.intro
        refine ⟨?_, rfl⟩
        exact ⟨k + 1, by omega, by go_num, AT4⟩
      case measure => simp [intOf]; omega
    · obtain rfl : N = k := by omega
      replace HY' := Lib.hid (HY'.out.below AT.out.low)
      replace HP := Lib.hid (HP.out.below AT.out.low)
      replace HO := Lib.hid (HO.out.below AT.out.low)
      replace HV := Lib.hid (HV.out.below AT.out.low)
      replace c7 := cellB AT.out.low z7 c7
      replace z7 := Nat.lt_of_lt_of_le z7 AT.out.low.size
      replace HW := Lib.hid (HW.out.below AT.out.low)
      replace HB := Lib.hid (below_step HB.out HB.out.size AT.out.low)
      obtain ⟨ga, ca, q1, q2⟩ := AT.out.box
      clear AT HW
      go_wp2_with fail
      refine (KS.out _ _ _ _ _ _ HV4.out q2 HV.out).mono ?_
      rintro e wy ⟨rfl, hb⟩
      replace HY' := Lib.hid (HY'.out.below hb)
      replace HP := Lib.hid (HP.out.below hb)
      replace HO := Lib.hid (HO.out.below hb)
      replace HV := Lib.hid (HV.out.below hb)
      replace c7 := cellB hb z7 c7
      replace z7 := Nat.lt_of_lt_of_le z7 hb.size
      replace HB := Lib.hid (below_step HB.out HB.out.size hb)
      clear hb q1 q2
      go_wp2
      go_loopw [12] (fun i wr => ∃ k : Nat, k ≤ L ∧ i = .int .i64 k ∧ Hid (UpT ps k) ∧ Hid (Below wy.heap.size wy wr)) (fun i _ => L - (intOf i).toNat)
      case atStart => exact ⟨0, Nat.zero_le _, rfl, upT_zero ps, Below.refl _ _⟩
      case round =>
        obtain ⟨i, hi, rfl, HU, HR⟩ := hrel
        by_cases hi' : i < L
        · skip
          have i1 : (i : Int) < (L : Int) := by omega
          go_wp2
          go_loopw [13] (fun j wr => ∃ k : Nat, k ≤ i ∧ j = .int .i64 k ∧ Hid (UpK ps i k) ∧ Hid (Below wy.heap.size wy wr)) (fun j _ => i - (intOf j).toNat)
          case atStart => exact ⟨0, Nat.zero_le _, rfl, HU.out.start, HR⟩
          case round =>
            obtain ⟨k, hk, rfl, HK, HR2⟩ := hrel
            by_cases hk' : k < i
            · obtain ⟨bp, op, ap, kp, hxp, e1, e2, e3, e4, e5⟩ := ps_cells (HP.out.below HR2.out) (k := i) (by rw [HL.out]; exact hi')
              obtain ⟨bq, oq, aq, kq, hxq, f1, f2, f3, f4, f5⟩ := ps_cells (HP.out.below HR2.out) (k := k) (by rw [HL.out]; omega)
              rw [hxp] at hxq
              obtain ⟨rfl, rfl⟩ : bp = bq ∧ op = oq := by
                injection hxq with h
                injection h with h1 h2
                exact ⟨h1, h2⟩
              have hpx := HX.out i (by rw [HL.out]; exact hi')
              have hqx := HX.out k (by rw [HL.out]; omega)
              have HN : Hid (apartT (ps.getD i pz) (ps.getD k pz) → UpK ps i (k + 1)) := fun h => HK.out.next h
              clear HK f1 hxq HU HR
              generalize ps.getD i pz = X at *
              generalize ps.getD k pz = Y at *
              obtain ⟨pf, px, py⟩ := X
              obtain ⟨qf, qx, qy⟩ := Y
              simp only at e2 e3 e4 e5 f2 f3 f4 f5 hpx hqx
              have j1 : (k : Int) < (i : Int) := by omega
              have j2 : (k : Int) < (L : Int) := by omega
              have j0 : (0 : Int) ≤ (k : Int) := by omega
              have i0 : (0 : Int) ≤ (i : Int) := by omega
              subst hxp
              rename World => wr2
              by_cases hf : pf = qf
              · subst hf
                have hfb : (pf == pf) = true := by simp
                go_wp2_with fail
                have ge2 := aft_cell e1 e2
                have gf2 := aft_cell e1 f2
                have ne := aft_some wr2
                refine wp_region_aft (by kernel_rfl) (by kernel_rfl) ?_
                repeat (first | go_big_quiet_step (fail))
                refine wpQuiet_nil ?_
                intro wv hv
                have HR3 := Lib.hid (below_step HR2.out HR2.out.size hv)
                replace e2 := cellB hv e1 e2
                replace e3 := cellB hv e1 e3
                replace e4 := cellB hv e1 e4
                replace f2 := cellB hv e1 f2
                replace f3 := cellB hv e1 f3
                replace f4 := cellB hv e1 f4
                replace e1 := Nat.lt_of_lt_of_le e1 hv.size
                have E5 := Lib.hid (e5.below hv)
                have F5 := Lib.hid (f5.below hv)
                clear hv ge2 gf2 ne e5 f5
                go_upto_region 24 with fail
                go_cut [14, 15] (fun s14 s15 wx => ∃ b1 b2, s14 = .pointer (some ⟨b1, 0, none⟩) ∧ s15 = .pointer (some ⟨b2, 0, none⟩) ∧ (b1 < wx.heap.size ∧ b2 < wx.heap.size ∧ wx.cell? ⟨b1, 0, none⟩ = some (.int .i64 pf) ∧ wx.cell? ⟨b1, 1, none⟩ = some (.slice ap px.length kp) ∧ wx.cell? ⟨b2, 0, none⟩ = some (.int .i64 pf) ∧ wx.cell? ⟨b2, 1, none⟩ = some (.slice aq qx.length kq)) ∧ Hid (Below wv.heap.size wv wx))
                case first =>
                  go_region
                  all_goals (go_wp2_with fail; go_meet; (case rel => exact ⟨_, _, rfl, rfl, ⟨by simp <;> omega, by simp <;> omega, by go_simp, by go_simp, by go_simp, by go_simp⟩, (((Below.refl _ _).alloc (Nat.le_refl _) _).alloc (by simp) _).drew⟩))
                case rest =>
                  obtain ⟨b1, b2, rfl, rfl, ⟨b3, b4, b5, b6, b7, b8⟩, HR4⟩ := hcut
                  have HR5 := Lib.hid (below_step HR3.out HR3.out.size HR4.out)
                  have E6 := Lib.hid (E5.out.below HR4.out)
                  have F6 := Lib.hid (F5.out.below HR4.out)
                  clear HR3 HR4 E5 F5 e2 e3 e4 f2 f3 f4 e1 HR2
                  by_cases g1 : pf < 0
                  · have g1b : decide (pf < 0) = true := decide_eq_true g1
                    go_wp2_with fail
                    have k5 := aft_cell b3 b5
                    have k6 := aft_cell b3 b6
                    have k7 := aft_cell b4 b7
                    have k8 := aft_cell b4 b8
                    have ne := aft_some wc
                    refine wp_region_aft (by kernel_rfl) (by kernel_rfl) ?_
                    repeat (first | go_big_quiet_step (fail))
                    refine wpQuiet_nil ?_
                    intro wq hq
                    have HBZ := Lib.hid (below_step (below_step HB.out HB.out.size HR5.out) (Nat.le_trans HB.out.size HR5.out.size) hq)
                    clear hq
                    go_wp2
                    go_ret
                    exact ⟨rfl, HBZ.out⟩
                  · have g1b : decide (pf < 0) = false := decide_eq_false g1
                    by_cases g2 : (px.length : Int) ≤ pf
                    · have g2b : decide ((px.length : Int) ≤ pf) = true := decide_eq_true g2
                      go_wp2_with fail
                      have k5 := aft_cell b3 b5
                      have k6 := aft_cell b3 b6
                      have k7 := aft_cell b4 b7
                      have k8 := aft_cell b4 b8
                      have ne := aft_some wc
                      refine wp_region_aft (by kernel_rfl) (by kernel_rfl) ?_
                      repeat (first | go_big_quiet_step (fail))
                      refine wpQuiet_nil ?_
                      intro wq hq
                      have HBZ := Lib.hid (below_step (below_step HB.out HB.out.size HR5.out) (Nat.le_trans HB.out.size HR5.out.size) hq)
                      clear hq
                      go_wp2
                      go_ret
                      exact ⟨rfl, HBZ.out⟩
                    · have g2b : decide ((px.length : Int) ≤ pf) = false := decide_eq_false g2
                      by_cases g3 : (qx.length : Int) ≤ pf
                      · have g3b : decide ((qx.length : Int) ≤ pf) = true := decide_eq_true g3
                        go_wp2_with fail
                        have k5 := aft_cell b3 b5
                        have k6 := aft_cell b3 b6
                        have k7 := aft_cell b4 b7
                        have k8 := aft_cell b4 b8
                        have ne := aft_some wc
                        refine wp_region_aft (by kernel_rfl) (by kernel_rfl) ?_
                        repeat (first | go_big_quiet_step (fail))
                        refine wpQuiet_nil ?_
                        intro wq hq
                        have HBZ := Lib.hid (below_step (below_step HB.out HB.out.size HR5.out) (Nat.le_trans HB.out.size HR5.out.size) hq)
                        clear hq
                        go_wp2
                        go_ret
                        exact ⟨rfl, HBZ.out⟩
                      · have g3b : decide ((qx.length : Int) ≤ pf) = false := decide_eq_false g3
                        obtain ⟨t, rfl⟩ : ∃ t : Nat, pf = (t : Int) := ⟨pf.toNat, by omega⟩
                        obtain ⟨gp, op2, hap, hgp, hcp⟩ := E6.out.cell_at (i := t) (by omega)
                        obtain ⟨gq, oq2, haq, hgq, hcq⟩ := F6.out.cell_at (i := t) (by omega)
                        subst hap haq
                        have t0 : (0 : Int) ≤ (t : Int) := by omega
                        have t1 : (t : Int) < (px.length : Int) := by omega
                        have t2 : (t : Int) < (qx.length : Int) := by omega
                        have n1 : t < px.length := by omega
                        have n2 : t < qx.length := by omega
                        have n3 : decide (px.length ≤ t) = false := decide_eq_false (by omega)
                        have n4 : decide (qx.length ≤ t) = false := decide_eq_false (by omega)
                        have kp1 := aft_cell hgp hcp
                        have kq1 := aft_cell hgq hcq
                        by_cases g4 : px.getD t 0 = qx.getD t 0
                        · have g4b : (px.getD t 0 == qx.getD t 0) = true := by simpa using g4
                          generalize px.getD t 0 = zp at *
                          generalize qx.getD t 0 = zq at *
                          go_wp2_with fail
                          have k5 := aft_cell b3 b5
                          have k6 := aft_cell b3 b6
                          have k7 := aft_cell b4 b7
                          have k8 := aft_cell b4 b8
                          have ne := aft_some wc
                          refine wp_region_aft (by kernel_rfl) (by kernel_rfl) ?_
                          repeat (first | go_big_quiet_step (fail))
                          refine wpQuiet_nil ?_
                          intro wq hq
                          have HBZ := Lib.hid (below_step (below_step HB.out HB.out.size HR5.out) (Nat.le_trans HB.out.size HR5.out.size) hq)
                          clear hq
                          go_wp2
                          go_ret
                          exact ⟨rfl, HBZ.out⟩
                        · have g4b : (px.getD t 0 == qx.getD t 0) = false := by simpa using g4
                          have HN2 := Lib.hid (HN.out fun _ => ⟨by show (0 : Int) ≤ t; omega, by show (t : Int) < px.length; omega, by show (t : Int) < qx.length; omega, by show px.getD (t : Int).toNat 0 ≠ qx.getD (t : Int).toNat 0; simpa using g4⟩)
                          clear HN
                          generalize px.getD t 0 = zp at *
                          generalize qx.getD t 0 = zq at *
                          go_wp2_with fail
                          have k5 := aft_cell b3 b5
                          have k6 := aft_cell b3 b6
                          have k7 := aft_cell b4 b7
                          have k8 := aft_cell b4 b8
                          have ne := aft_some wc
                          refine wp_region_aft (by kernel_rfl) (by kernel_rfl) ?_
                          repeat (first | go_big_quiet_step (fail))
                          refine wpQuiet_nil ?_
                          intro wq hq
                          have HR6 := Lib.hid (below_step HR5.out HR5.out.size hq)
                          clear hq k5 k6 k7 k8 kp1 kq1 ne
                          go_wp2
                          exact ⟨⟨k + 1, by omega, by go_num, HN2, HR6⟩, by simp [intOf]; omega⟩
              · have hfb : (pf == qf) = false := by simpa using hf
                go_wp2_with fail
                have ge2 := aft_cell e1 e2
                have gf2 := aft_cell e1 f2
                have ne := aft_some wr2
                refine wp_region_aft (by kernel_rfl) (by kernel_rfl) ?_
                repeat (first | go_big_quiet_step (fail))
                refine wpQuiet_nil ?_
                intro wv hv
                have HR3 := Lib.hid (below_step HR2.out HR2.out.size hv)
                clear hv ge2 gf2 ne
                go_wp2
                exact ⟨⟨k + 1, by omega, by go_num, HN.out (fun e => absurd e hf), HR3⟩, by simp [intOf]; omega⟩
            · obtain rfl : k = i := by omega
              go_wp2
              exact ⟨⟨k + 1, by omega, by go_num, HK.out.done, HR2⟩, by simp [intOf]; omega⟩
        · obtain rfl : i = L := by omega
          by_cases hL0 : i = 0
          · subst hL0
            replace HY' := Lib.hid (HY'.out.below HR.out)
            replace HP := Lib.hid (HP.out.below HR.out)
            replace HO := Lib.hid (HO.out.below HR.out)
            replace HV := Lib.hid (HV.out.below HR.out)
            replace c7 := cellB HR.out z7 c7
            replace z7 := Nat.lt_of_lt_of_le z7 HR.out.size
            replace HB := Lib.hid (below_step HB.out HB.out.size HR.out)
            go_wp2
            go_ret
            exact ⟨rfl, HB.out⟩
          · have i1 : ¬ (i : Int) = 0 := by omega
            have HT := Lib.hid (oneT_of (by rw [HL.out]; exact HU.out))
            replace HY' := Lib.hid (HY'.out.below HR.out)
            replace HP := Lib.hid (HP.out.below HR.out)
            replace HO := Lib.hid (HO.out.below HR.out)
            replace HV := Lib.hid (HV.out.below HR.out)
            replace c7 := cellB HR.out z7 c7
            replace z7 := Nat.lt_of_lt_of_le z7 HR.out.size
            replace HB := Lib.hid (below_step HB.out HB.out.size HR.out)
            clear HU HR
            go_wp2_with fail
            refine (pickB_any a' len' cap' i _ HY'.out hl' (by omega)).mono ?_
            rintro e wz ⟨n, rfl, hn, hw⟩
            subst wz
            have hni : n < i := hn (by omega)
            clear hn
            obtain ⟨bp, op, _, _, hxp, -⟩ := ps_cells HP.out (k := 0) (by rw [HL.out]; omega)
            subst hxp
            obtain ⟨es, hT⟩ := turnF_of HP.out HL.out (fun j hj => HX.out j hj) hni
            have HTF := Lib.hid hT
            have HQ : Hid (∀ M, GoC (ps.drop n ++ ps.take n) M → firstC (runC (ps.drop n ++ ps.take n) M).2 (ps.drop n ++ ps.take n) = (ps.drop n ++ ps.take n).length → M = N ∧ (runC (ps.drop n ++ ps.take n) M).2 = (runC ps N).2 ∧ PassT ps n N) := fun M h1 h2 => by
              obtain ⟨r1, r2, r3⟩ := came_same (turned_mem ps n) HT.out HG.out HF.out h1 h2
              subst r2
              exact ⟨rfl, r1, r3, outC_len h1, outC_four h1⟩
            have HH := Lib.hid hT.headB
            have HMK := Lib.hid hT.mark
            have HL1 : Hid ((es.drop n).length = i - n) := by show _ = _; rw [List.length_drop, hT.len]
            have HL2 : Hid ((es.take n).length = n) := by show _ = _; rw [List.length_take, hT.len]; omega
            have HL3 := Lib.hid hT.len2
            have HX2 := Lib.hid (small_turned HX.out n)
            clear hT
            obtain ⟨ii, hii, hxi⟩ := Option.map_eq_some_iff.1 infoPst
            simp only [Prod.mk.injEq] at hxi
            have HII := Lib.hid hii
            have HXI := Lib.hid hxi
            clear hii hxi
            have n0 : (0 : Int) ≤ (n : Int) := by omega
            have n1 : (n : Int) ≤ (i : Int) := by omega
            have n2 : (i : Int) ≤ (cpp : Int) := by omega
            have n3 : (n : Int) ≤ (cpp : Int) := by omega
            have n4 : ¬ cpp - n = 0 := by omega
            have n5 : n ≤ i := by omega
            have n6 : n ≤ cpp := by omega
            have n7 : ¬ cpp = n := by omega
            go_upto_region 30 with fail
            refine wp_region_slots_w 14 [12] (193, 203) [[], [(5, false)], [(16, false)], [(195, true), (196, true)], [(194, true), (197, true)], [(5, false)], [(16, false)], [(199, true), (200, true)], [(198, true), (201, true)], [(202, true)], [(203, true)], [(193, true)], [(193, true)], []] (fun w' => Below wr.heap.size wr w') (fun w' => Below wr.heap.size wr w') (fun _ w' => Below wr.heap.size wr w') (fun _ _ => True) (fun d => if d = 198 then some 202 else none) (RM wr.heap.size (markT es n) 202) (by kernel_rfl) (by kernel_rfl) (fun _ _ d _ _ h => by cases d <;> exact h) (by rfl) (Below.refl _ _).drew (by kernel_rfl) (fun _ => trivial) (fun _ => trivial) (by kernel_rfl) (fun _ _ _ _ _ _ _ _ => trivial) (onlyM_of (by kernel_rfl)) (fun d f w w' h1 h2 => rm_step h1 h1.size h2) (fun _ _ _ h => h) (fun _ _ _ h => h) ?_
            refine slotU_fact (fun v _ => ∃ X, v = .slice (some ⟨X, 0, none⟩) 0 0) (fun _ _ _ _ _ _ h _ => h) ?_ ?_
            · intro ρ w' ⟨p1, p2, p3⟩ hS _ hn
              simp at hn
              go_simp
              exact ⟨rm_below (by simp) ((Below.refl _ _).alloc (Nat.le_refl _) _), _, rfl⟩
            apply slotU_eq
            · intro ρ w' ⟨p1, p2, p3⟩ hS _ hn
              simp at hn
              go_simp
              exact ⟨rm_below (by simp) (Below.refl _ _), rfl⟩
            apply slotU_eq
            · intro ρ w' ⟨p1, p2, p3⟩ hS _ hn
              simp at hn
              go_simp
              exact ⟨rm_below (by simp) (Below.refl _ _), rfl⟩
            apply slotU_eq
            · intro ρ w' ⟨p1, p2, p3⟩ hS _ hn
              simp at hn
              go_simp
              exact ⟨rm_below (by simp) (Below.refl _ _), rfl⟩
            refine slotU_fact (RowT wr.heap.size (i - n) ((es.drop n).flatMap pqVals)) (lastsM_until (by rfl) (lasts_rowT _ _ _)) ?_ ?_
            · intro ρ w' ⟨p1, p2, p3⟩ hS _ hn
              simp at hn
              obtain ⟨⟨X, x194⟩, x197⟩ := hn
              obtain ⟨v', w'', hr, hT', hb⟩ := run_first w' wr.heap.size (i - n) hS.size (es.drop n) HL1.out (by omega) (by omega) 24 24 ii (postV 0 none 0 0 0) Try.underlying24 HII.out HXI.out.1 HXI.out.2.1 HXI.out.2.2 (by rfl) X ⟨bp, op + n * 3, none⟩ (cpp - n) (HTF.out.tail hS)
              exact got_append_run (.tmp 194) (.tmp 197) _ rfl _ _ v' w'' x194 x197 hr ⟨rm_below (by simp) hb, hT'⟩
            apply slotU_eq
            · intro ρ w' ⟨p1, p2, p3⟩ hS _ hn
              simp at hn
              go_simp
              exact ⟨rm_below (by simp) (Below.refl _ _), rfl⟩
            apply slotU_eq
            · intro ρ w' ⟨p1, p2, p3⟩ hS _ hn
              simp at hn
              go_simp
              exact ⟨rm_below (by simp) (Below.refl _ _), rfl⟩
            apply slotU_eq
            · intro ρ w' ⟨p1, p2, p3⟩ hS _ hn
              simp at hn
              go_simp
              exact ⟨rm_below (by simp) (Below.refl _ _), rfl⟩
            refine slotU_fact (RowT wr.heap.size i ((es.drop n).flatMap pqVals ++ (es.take n).flatMap pqVals)) (lastsM_own (lasts_rowT _ _ _)) ?_ ?_
            · intro ρ w' ⟨p1, p2, p3⟩ hS _ hn
              simp at hn
              obtain ⟨⟨g, cg, x198, hown⟩, x201⟩ := hn
              obtain ⟨v', w'', hr, hT', ht⟩ := run_second w' wr.heap.size (i - n) n hS.size _ (es.take n) HL2.out (by omega) 24 24 ii (postV 0 none 0 0 0) Try.underlying24 HII.out HXI.out.1 HXI.out.2.1 HXI.out.2.2 (by rfl) g cg (markT es n) hown HMK.out (by omega) ⟨bp, op, none⟩ cpp (HTF.out.head hS)
              rw [Nat.sub_add_cancel n5] at hT'
              exact got_append_run (.tmp 198) (.tmp 201) _ rfl _ _ v' w'' x198 x201 hr ⟨.inl ⟨rfl, ht⟩, hT'⟩
            refine slotU_fact (AnsT (PassT ps n N) wr.heap.size N (outC (ps.drop n ++ ps.take n) N) (runC ps N).2) (lasts_ansT HH.out) ?_ ?_
            · intro ρ w' ⟨p1, p2, p3⟩ hS _ hn
              simp at hn
              obtain ⟨g, cg, x202, hown⟩ := hn
              go_simp
              exact got_call (implInOrder_any (some ⟨g, 0, none⟩) i cg (ps.drop n ++ ps.take n) w' HL3.out (by omega) (fun j hj => Nat.le_trans (HX2.out j (by rw [HL3.out]; exact hj)) (by omega)) (HTF.out.isPs hS hown)) fun e w'' h => by
                obtain ⟨v, he, ha, hb⟩ := ansT_of h hS.size HQ.out
                exact ⟨v, he, rm_below (by simp) hb, ha⟩
            refine slotU_fact (AnsT (PassT ps n N) wr.heap.size N (outC (ps.drop n ++ ps.take n) N) (runC ps N).2) (lasts_ansT HH.out) ?_ ?_
            · intro ρ w' ⟨p1, p2, p3⟩ hS _ hn
              simp at hn
              obtain ⟨x, cp, gv', cv', hPP, x203, h1, h2⟩ := hn
              go_simp
              exact ⟨rm_below (by simp) (Below.refl _ _), x, cp, gv', cv', (by first | exact hPP | trivial), rfl, h1, h2⟩
            refine slotU_fact (OutT (PassT ps n N) wr.heap.size N (outC (ps.drop n ++ ps.take n) N)) (lasts_outT HH.out) ?_ ?_
            · intro ρ w' ⟨p1, p2, p3⟩ hS _ hn
              simp at hn
              obtain ⟨x, cp, gv', cv', hPP, x203, h1, h2⟩ := hn
              go_simp
              exact ⟨rm_below (by simp) (Below.refl _ _), x, cp, (by first | exact hPP | trivial), rfl, h1⟩
            refine slotU_fact (VecT (runC ps N).2) (lasts_vecT HH.out) ?_ ?_
            · intro ρ w' ⟨p1, p2, p3⟩ hS _ hn
              simp at hn
              obtain ⟨x, cp, gv', cv', hPP, x203, h1, h2⟩ := hn
              go_simp
              exact ⟨rm_below (by simp) (Below.refl _ _), gv', cv', rfl, h2⟩
            refine slotU_fact (BoxF wr.heap.size) (lastsM_both (lasts_boxF _) (lasts_boxM _ _ _)) ?_ ?_
            · intro ρ w' ⟨p1, p2, p3⟩ hS _ hn
              simp at hn
              go_simp
              exact ⟨rm_below (by simp) ((Below.refl _ _).alloc (Nat.le_refl _) _), w'.heap.size, rfl, hS.size, heap_alloc_new w' _⟩
            refine slotU_end ?_
            rintro vs w6 hS hF
            simp at hF
            obtain ⟨⟨b18, x18, hb18, hh18⟩, ⟨gu, cu, x205, hu⟩, ⟨xt, ct, hPP, x204, ht⟩, ⟨xa, ca1, ga1, cva1, -, x193, -, -⟩, ⟨xa2, ca2, ga2, cva2, -, x203, -, -⟩, ⟨g2, cg2, x202, -⟩, x201, x200, x199, x197, x196, x195, X, x194⟩ := hF
            simp only [List.take_succ_cons, List.take_zero, List.drop_succ_cons, List.drop_zero, putAll, x18, x205, x204, x193, x203, x202, x201, x200, x199, x197, x196, x195, x194]
            clear x18 x205 x204 x193 x203 x202 x201 x200 x199 x197 x196 x195 x194
            simp only [Act.put, List.setIfInBounds_toArray, List.set_cons_succ, List.set_cons_zero]
            obtain ⟨dd0, dd1, dd2⟩ := cells_one hh18
            have hb7 : Below wr.heap.size wr (w6.setCell ⟨b18, 0, none⟩ (.slice (some ⟨gu, 0, none⟩) 4 cu)) := hS.setCell (p := ⟨b18, 0, none⟩) hb18 _
            replace HY' := Lib.hid (HY'.out.below hb7)
            replace HP := Lib.hid (HP.out.below hb7)
            replace HO := Lib.hid (HO.out.below hb7)
            replace HV := Lib.hid (HV.out.below hb7)
            replace c7 := cellB hb7 z7 c7
            replace z7 := Nat.lt_of_lt_of_le z7 hb7.size
            replace HB := Lib.hid (below_step HB.out HB.out.size hb7)
            have hst : Hole b18 w6 (w6.setCell ⟨b18, 0, none⟩ (.slice (some ⟨gu, 0, none⟩) 4 cu)) := (Hole.refl _ _).set 0 _
            have HU := Lib.hid (hu.off hh18 hst).1.isIs
            have HTT := Lib.hid (ht.off hh18 hst).isPs
            have c18 : (w6.setCell ⟨b18, 0, none⟩ (.slice (some ⟨gu, 0, none⟩) 4 cu)).cell? ⟨b18, 0, none⟩ = some (.slice (some ⟨gu, 0, none⟩) 4 cu) := World.cell?_setCell_same _ _ _ dd0
            have HPP := Lib.hid hPP
            clear hh18 hu ht hst hb7 hS hb18 hPP HTF HQ HH HMK HL1 HL2 HL3 HX2 HII HXI
            simp only [vecV]
            go_upto_region 31 with fail
            generalize w6.setCell ⟨b18, 0, none⟩ (.slice (some ⟨gu, 0, none⟩) 4 cu) = W7 at *
            clear dd0 dd1 dd2
            go_wp2_with fail
            refine (KS.out _ _ _ _ _ _ HV4.out HU.out HV.out).mono ?_
            rintro e w8 ⟨rfl, hb⟩
            clear HU c18
            replace HP := Lib.hid (HP.out.below hb)
            replace HO := Lib.hid (HO.out.below hb)
            replace HTT := Lib.hid (HTT.out.below hb)
            replace HB := Lib.hid (below_step HB.out HB.out.size hb)
            clear hb c7 z7 HV HY'
            go_wp2
            go_loopw [19] (fun i wr => ∃ k : Nat, k ≤ N ∧ i = .int .i64 k ∧ Hid (Below w8.heap.size w8 wr)) (fun i _ => N - (intOf i).toNat)
            case atStart => exact ⟨0, Nat.zero_le _, rfl, Below.refl _ _⟩
            case round =>
              obtain ⟨k, hk, rfl, HR⟩ := hrel
              by_cases hk' : k < N
              · have k1 : (k : Int) < (N : Int) := by omega
                have k0 : (0 : Int) ≤ (k : Int) := by omega
                obtain ⟨bo, oo, ao, ko, hxo, e1, e2, e3, e4, e5⟩ := ps_cells (HO.out.below HR.out) (k := k) (by rw [HOL.out]; exact hk')
                subst hxo
                have hme : (outC ps N).getD k pz ∈ outC (ps.drop n ++ ps.take n) N := HPP.out.1 _ (by rw [List.getD, List.getElem?_eq_getElem (by rw [HOL.out]; exact hk')]; exact List.getElem_mem _)
                have HALL : Hid (((outC (ps.drop n ++ ps.take n) N).take N).any (hitT ((outC ps N).getD k pz)) = true) := hit_all hme N HPP.out.2.1
                have hx4 := (came_step HG.out hk').2.2
                clear hme
                generalize (outC ps N).getD k pz = X at *
                have E1 := Lib.hid e1
                have E2 := Lib.hid e2
                have E3 := Lib.hid e3
                have E5 := Lib.hid e5
                clear e1 e2 e3 e4 e5
                go_wp2
                go_loopw [20, 21] (fun f j wq => ∃ (m : Nat) (b : Bool), m ≤ N ∧ j = .int .i64 m ∧ f = .bool b ∧ Hid (b = ((outC (ps.drop n ++ ps.take n) N).take m).any (hitT X)) ∧ Hid (Below wr.heap.size wr wq)) (fun _ j _ => N - (intOf j).toNat)
                case atStart => exact ⟨0, false, Nat.zero_le _, rfl, rfl, rfl, Below.refl _ _⟩
                case round =>
                  obtain ⟨m, b, hm, rfl, rfl, HF2, HR2⟩ := hrel
                  by_cases hm' : m < N
                  · have m1 : (m : Int) < (N : Int) := by omega
                    have m0 : (0 : Int) ≤ (m : Int) := by omega
                    have HNX := Lib.hid (hit_next (outC (ps.drop n ++ ps.take n) N) X m (by rw [HPP.out.2.1]; exact hm'))
                    obtain ⟨bt, ot, at_, kt, hxt, f1, f2, f3, f4, f5⟩ := ps_cells (HTT.out.below (below_step HR.out HR.out.size HR2.out)) (k := m) (by rw [HPP.out.2.1]; exact hm')
                    subst hxt
                    have e1 := Nat.lt_of_lt_of_le E1.out HR2.out.size
                    have e2 := cellB HR2.out E1.out E2.out
                    have e3 := cellB HR2.out E1.out E3.out
                    have F5 := Lib.hid f5
                    have E6 := Lib.hid (E5.out.below HR2.out)
                    have hy4 : ((outC (ps.drop n ++ ps.take n) N).getD m pz).xs.length = 4 := HPP.out.2.2 _ (by rw [List.getD, List.getElem?_eq_getElem (by rw [HPP.out.2.1]; exact hm')]; exact List.getElem_mem _)
                    generalize (outC (ps.drop n ++ ps.take n) N).getD m pz = Y at *
                    obtain ⟨yf, yx, yy⟩ := Y
                    obtain ⟨xf, xx, xy⟩ := X
                    simp only at e2 e3 f2 f3 hy4 hx4
                    rw [hx4] at e3
                    rw [hy4] at f3
                    go_wp2_with fail
                    have ge2 := aft_cell e1 e2
                    have ge3 := aft_cell e1 e3
                    have gf2 := aft_cell f1 f2
                    have gf3 := aft_cell f1 f3
                    have ne := aft_some wr
                    cases b with
                    | true =>
                      have HF3 : Hid (true = ((outC (ps.drop n ++ ps.take n) N).take (m + 1)).any (hitT ⟨xf, xx, xy⟩)) := by
                        show _ = _
                        rw [HNX.out, ← HF2.out, Bool.true_or]
                      refine wp_region_aft (by kernel_rfl) (by kernel_rfl) ?_
                      repeat (first | go_big_quiet_step (fail))
                      refine wpQuiet_nil ?_
                      intro wv hv
                      have HR3 := Lib.hid (below_step HR2.out HR2.out.size hv)
                      clear hv ge2 ge3 gf2 gf3 ne
                      go_wp2
                      exact ⟨⟨m + 1, true, by omega, by go_num, rfl, HF3, HR3⟩, by simp [intOf]; omega⟩
                    | false =>
                      by_cases hf : yf = xf
                      · subst hf
                        have hfb : (yf == yf) = true := by simp
                        obtain ⟨dd, hdd⟩ : ∃ d, d = decide (yx = xx) := ⟨_, rfl⟩
                        have HF3 : Hid (dd = ((outC (ps.drop n ++ ps.take n) N).take (m + 1)).any (hitT ⟨yf, xx, xy⟩)) := by
                          show _ = _
                          rw [HNX.out, ← HF2.out, Bool.false_or, hdd]
                          simp [hitT]
                        have HSM : Hid (∀ p : Aft wr.heap.size wr, Calls Try.prog 8 #[.slice at_ 4 kt, .slice ao 4 ko] p.now fun e w' => e = .returned (.bool dd) ∧ Below p.now.heap.size p.now w') := fun p => by
                          have h := same_dec at_ ao kt ko yx xx p.now (by omega) (by omega) (F5.out.below p.below) (E6.out.below p.below)
                          rw [hx4, hy4, ← hdd] at h
                          exact h
                        clear hdd
                        refine wp_region_aft (by kernel_rfl) (by kernel_rfl) ?_
                        repeat (first | go_big_quiet_step (first | (go_at_call 8; exact aft_of (HSM.out _))))
                        refine wpQuiet_nil ?_
                        intro wv hv
                        have HR3 := Lib.hid (below_step HR2.out HR2.out.size hv)
                        clear hv ge2 ge3 gf2 gf3 ne HSM
                        go_wp2
                        exact ⟨⟨m + 1, dd, by omega, by go_num, rfl, HF3, HR3⟩, by simp [intOf]; omega⟩
                      · have hfb : (yf == xf) = false := by simpa using hf
                        have HF3 : Hid (false = ((outC (ps.drop n ++ ps.take n) N).take (m + 1)).any (hitT ⟨xf, xx, xy⟩)) := by
                          show _ = _
                          rw [HNX.out, ← HF2.out, Bool.false_or]
                          simp [hitT, hf]
                        refine wp_region_aft (by kernel_rfl) (by kernel_rfl) ?_
                        repeat (first | go_big_quiet_step (fail))
                        refine wpQuiet_nil ?_
                        intro wv hv
                        have HR3 := Lib.hid (below_step HR2.out HR2.out.size hv)
                        clear hv ge2 ge3 gf2 gf3 ne
                        go_wp2
                        exact ⟨⟨m + 1, false, by omega, by go_num, rfl, HF3, HR3⟩, by simp [intOf]; omega⟩
                  · obtain rfl : N = m := by omega
                    have hb : b = true := HF2.out.trans HALL.out
                    subst hb
                    have HR3 := Lib.hid (below_step HR.out HR.out.size HR2.out)
                    go_wp2
                    exact ⟨⟨k + 1, by omega, by go_num, HR3⟩, by simp [intOf]; omega⟩
              · obtain rfl : N = k := by omega
                replace HP := Lib.hid (HP.out.below HR.out)
                replace HO := Lib.hid (HO.out.below HR.out)
                replace HTT := Lib.hid (HTT.out.below HR.out)
                replace HB := Lib.hid (below_step HB.out HB.out.size HR.out)
                go_wp2
                go_ret
                exact ⟨rfl, HB.out⟩

theorem walk (a : Option Addr) (len cap : Nat) (a' : Option Addr) (len' cap' : Nat) (w : World) (h : len ≤ maxLen ∧ Bytes w a len) (h' : len' ≤ maxLen ∧ Bytes w a' len') :
    Calls Try.prog 3 #[.slice a len cap, .slice a' len' cap'] w fun e w' => e = .returned (.bool true) ∧ Below w.heap.size w w' := by
  by_cases hl : len ≤ 1048576
  · by_cases hl' : len' ≤ 1048576
    · exact walk_small a len cap a' len' cap' w h.2 hl h'.2 hl'
    · exact walk_big2 a len cap a' len' cap' w hl h'.1 (by omega)
  · exact walk_big1 a len cap _ w h.1 (by omega)

set_option maxRecDepth 100000 in
theorem lifted (os : Os) (started : os.Started) (H : Type) (enc : TypeId × Value → H) :
    ReturnsInHanded {} Try.checked os 3 .any (Rows.fnCameSpec.pre6 enc Try.prog Try.f3 Rows.fnCameRow.domain false) (Rows.fnCameSpec.post enc Try.prog Try.f3 false true false false) := by
  refine returnsInHanded_of_change (C := Try.checked) own started (by kernel_rfl) Try.func3
    (ChangeSpec.witness6 (enc := enc) (C := Try.checked) false ⟨#[], #[.slice none 0 0, .slice none 0 0], []⟩ 8 (by kernel_rfl) (by kernel_rfl) (by kernel_rfl) (by kernel_rfl)) ?_
  intro W base args ds gs before hval0 hW hcnd _
  have hval : ∀ (j : Nat) t v, Try.f3.params[j]? = some t → args[j]? = some v → Value.okWide Try.prog W .any base t v := hval0
  have hW' := hW
  obtain ⟨p, q, hA0, hV, rfl, hfz, hnd⟩ := hW
  have hA : DataW.TrodAll enc Try.prog W 0 (fun _ => true) true Try.f3.params.toList args.toList ds p := hA0
  rw [Try.params3] at hA hval
  obtain ⟨v0, v1, d0, d1, p0, p1, rfl, rfl, rfl, h0, h1⟩ := trodAll_two hA
  have k0 := h0
  have lt0 : ∀ x ∈ p0, x.block < W.heap.size := by obtain ⟨m, hm⟩ := k0; exact DataW.trod_lt m _ _ _ hm
  have k1 := h1
  have lt1 : ∀ x ∈ p1, x.block < W.heap.size := by obtain ⟨m, hm⟩ := k1; exact DataW.trod_lt m _ _ _ hm
  obtain ⟨rfl, rfl⟩ := trodVars_none hV
  obtain ⟨a0, len0, cap0, hv0, hr0⟩ := open_bytes (hval 0 22 v0 rfl rfl) h0
  subst hv0
  obtain ⟨a1, len1, cap1, hv1, hr1⟩ := open_bytes (hval 1 22 v1 rfl rfl) h1
  subst hv1
  clear hA0 hval0
  refine (walk a0 len0 cap0 a1 len1 cap1 W hr0 hr1).mono fun e W' ⟨he, bel⟩ => ?_
  subst he
  exact ⟨_, rfl, _, _, _, [], _, [], hW', trodAll_mk1 (shut_bool Try.underlying4 _), (trodAll_mk2 (Below.trod laidOut (by kernel_rfl) (of_decide_eq_true (by kernel_rfl)) k0 bel lt0) (Below.trod laidOut (by kernel_rfl) (of_decide_eq_true (by kernel_rfl)) k1 bel lt1)), rfl, bel.frame _, fun h => by cases h⟩

theorem over : Rows.fnCameRow.holds Try.pinned (OpenSpec.ofChange Rows.fnCameSpec) :=
  OpenClaim.holds_of_wide 3 Try.f3 rfl rfl rfl rfl rfl rfl rfl ⟨rfl, rfl, rfl, rfl, rfl⟩ rfl rfl rfl rfl rfl (by kernel_rfl) Try.func3 (by kernel_rfl)
    (of_decide_eq_true (by kernel_rfl)) (by unfold Func.isWrapper; rw [if_neg (by decide +kernel)]; exact ⟨rfl, rfl⟩)
    (fun os started H enc _ => lifted os started H enc)

end Go.Proofs.Ytpejdhbajejmoaa.lawCame
namespace Go.Proofs.Ytpejdhbajejmoaa
theorem fnCame_holds : Rows.FnCameSaid := lawCame.over
#print axioms fnCame_holds
end Go.Proofs.Ytpejdhbajejmoaa
