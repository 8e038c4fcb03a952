import Derived.Test.YtolmlcbgdihcbabPack1
import Derived.Laws.Cover3
import Derived.BigQuiet
import Derived.LoopN
import Derived.Lib.MinMax
/- Vectors: which are VecOk; the contracts of VecOk of both sides, of the program's ticksOf, and of the laws' szVec, toVec, eqVec. -/
namespace Go.Proofs.Ytolmlcbgdihcbab
open Go.ChangeShapes Go.WideShapes Go.ChangeAt Go.RowKit Go.Joins
attribute [local go_sem ↓] Go.wp_at_zero Go.wp_at_succ

abbrev vecV (a : Option Addr) (n cap : Nat) : Value := .agg #[.slice a n cap]

abbrev tkV (x0 x1 x2 x3 : Int) : Value := .agg #[.int .i64 x0, .int .i64 x1, .int .i64 x2, .int .i64 x3]

/-- Four numbers, all in 0 .. m. -/
def perB (m : Int) (zs : List Int) : Bool := decide (zs.length = 4) && zs.all fun z => btw z 0 m

def okT (z : Int) : Bool := btw z 0 1000000

def vecB (zs : List Int) : Bool := perB 1000000 zs

theorem okT_iff (z : Int) : okT z = true ↔ 0 ≤ z ∧ z ≤ 1000000 := by
  unfold okT btw
  simp

theorem perB_four {m : Int} {zs : List Int} (h : perB m zs = true) : ∃ x0 x1 x2 x3, zs = [x0, x1, x2, x3] ∧ (0 ≤ x0 ∧ x0 ≤ m) ∧ (0 ≤ x1 ∧ x1 ≤ m) ∧ (0 ≤ x2 ∧ x2 ≤ m) ∧ (0 ≤ x3 ∧ x3 ≤ m) := by
  unfold perB at h
  rw [Bool.and_eq_true, decide_eq_true_iff] at h
  obtain ⟨hl, ha⟩ := h
  match zs, hl, ha with
  | [x0, x1, x2, x3], _, ha =>
    simp only [List.all_cons, List.all_nil, Bool.and_true, Bool.and_eq_true, btw, decide_eq_true_iff] at ha
    exact ⟨x0, x1, x2, x3, rfl, ha⟩

theorem vecB_four {zs : List Int} (h : vecB zs = true) : ∃ x0 x1 x2 x3, zs = [x0, x1, x2, x3] ∧ (0 ≤ x0 ∧ x0 ≤ 1000000) ∧ (0 ≤ x1 ∧ x1 ≤ 1000000) ∧ (0 ≤ x2 ∧ x2 ≤ 1000000) ∧ (0 ≤ x3 ∧ x3 ≤ 1000000) := perB_four h

theorem perB_is (m x0 x1 x2 x3 : Int) : perB m [x0, x1, x2, x3] = true ↔ (0 ≤ x0 ∧ x0 ≤ m) ∧ (0 ≤ x1 ∧ x1 ≤ m) ∧ (0 ≤ x2 ∧ x2 ≤ m) ∧ (0 ≤ x3 ∧ x3 ≤ m) := by
  unfold perB
  simp only [List.length_cons, List.length_nil, List.all_cons, List.all_nil, Bool.and_true, Bool.and_eq_true, btw, decide_eq_true_iff]
  simp

theorem vecB_is (x0 x1 x2 x3 : Int) : vecB [x0, x1, x2, x3] = true ↔ (0 ≤ x0 ∧ x0 ≤ 1000000) ∧ (0 ≤ x1 ∧ x1 ≤ 1000000) ∧ (0 ≤ x2 ∧ x2 ≤ 1000000) ∧ (0 ≤ x3 ∧ x3 ≤ 1000000) := perB_is _ _ _ _ _

theorem perB_len {m : Int} {zs : List Int} (h : zs.length ≠ 4) : perB m zs = false := by
  unfold perB
  rw [decide_eq_false h, Bool.false_and]

theorem vecB_len {zs : List Int} (h : zs.length ≠ 4) : vecB zs = false := perB_len h

theorem perB_bad {m : Int} {zs : List Int} {k : Nat} (hk : k < zs.length) (h : btw (zs.getD k 0) 0 m = false) : perB m zs = false := by
  unfold perB
  have : zs.all (fun z => btw z 0 m) = false := List.all_eq_false.2 ⟨zs.getD k 0, by simp [List.getD, hk], by rw [h]; simp⟩
  rw [this, Bool.and_false]

theorem vecB_bad {zs : List Int} {k : Nat} (hk : k < zs.length) (h : okT (zs.getD k 0) = false) : vecB zs = false := perB_bad hk h

theorem perB_good {m : Int} {zs : List Int} (hl : zs.length = 4) (h : ∀ k, k < 4 → btw (zs.getD k 0) 0 m = true) : perB m zs = true := by
  unfold perB
  rw [decide_eq_true hl, Bool.true_and, List.all_eq_true]
  intro z hz
  obtain ⟨i, hi, rfl⟩ := List.getElem_of_mem hz
  have := h i (by omega)
  simpa [List.getD, hi] using this

theorem vecB_good {zs : List Int} (hl : zs.length = 4) (h : ∀ k, k < 4 → okT (zs.getD k 0) = true) : vecB zs = true := perB_good hl h

theorem perB_next {m : Int} {zs : List Int} {k : Nat} (h : ∀ j, j < k → btw (zs.getD j 0) 0 m = true) (hk : btw (zs.getD k 0) 0 m = true) : ∀ j, j < k + 1 → btw (zs.getD j 0) 0 m = true := fun j hj => by
  by_cases h' : j < k
  · exact h j h'
  · have : j = k := by omega
    rw [this]
    exact hk

theorem okT_next {zs : List Int} {k : Nat} (h : ∀ j, j < k → okT (zs.getD j 0) = true) (hk : okT (zs.getD k 0) = true) : ∀ j, j < k + 1 → okT (zs.getD j 0) = true := perB_next h hk

set_option maxRecDepth 100000 in
theorem inRangeM (m n : Int) (v : Bool) (h : btw n 0 m = v) (w : World) :
    Calls Try.prog 37 #[.int .i64 n, .int .i64 0, .int .i64 m] w fun e w' => e = .returned (.bool v) ∧ w' = w := by
  rw [← h]
  exact inRange_any n 0 m w

set_option maxRecDepth 100000 in
theorem betweenT (n : Int) (v : Bool) (h : okT n = v) (w : World) :
    Calls Try.prog 27 #[.int .i64 n, .int .i64 0, .int .i64 1000000] w fun e w' => e = .returned (.bool v) ∧ w' = w := by
  rw [← h]
  exact between_any n 0 1000000 w

set_option maxRecDepth 100000 in
set_option maxHeartbeats 2000000 in
theorem specVecOk_any (a : Option Addr) (n cap : Nat) (zs : List Int) (w : World) (hl : zs.length = n) (hn : n ≤ maxLen) (hh : IsIs w a zs) :
    Calls Try.prog 13 #[vecV a n cap] w fun e w' => e = .returned (.bool (vecB zs)) ∧ Below w.heap.size w w' := by
  have HH : Hid (IsIs w a zs) := hh
  have HN : Hid (zs.length = n) := hl
  have HB : Hid (Below w.heap.size w (w.alloc (.cells #[.slice a n cap] 26))) := (Below.refl _ _).alloc (Nat.le_refl _) _
  clear hh hl
  by_cases h4 : n = 4
  · subst h4
    go_enter Try.func13, Try.ntmps13
    go_wp2
    go_loopw [3] (fun i wr => ∃ k : Nat, k ≤ 4 ∧ i = .int .i64 k ∧ Hid (∀ j, j < k → okT (zs.getD j 0) = true) ∧ wr = w.alloc (.cells #[.slice a 4 cap] 26)) (fun i _ => 4 - (intOf i).toNat)
    case atStart => exact ⟨0, Nat.zero_le _, rfl, fun j hj => by omega, rfl⟩
    case round =>
      obtain ⟨k, hk, rfl, HG, rfl⟩ := hrel
      by_cases hk' : k < 4
      · have hkz : k < zs.length := by rw [HN.out]; exact hk'
        obtain ⟨b, o, rfl, hz, e0⟩ := HH.out.at (Below.refl _ _) hkz
        have hz : b < w.heap.size := hz
        have i1 : (0 : Int) ≤ (k : Int) := by omega
        have i2 : (k : Int) < 4 := by omega
        clear HH
        cases h1 : okT (zs.getD k 0)
        · have HF : Hid (vecB zs = false) := vecB_bad hkz h1
          generalize zs.getD k 0 = x at *
          go_wp2_with (go_at_call 27; refine (betweenT _ false h1 _).mono ?_; rintro e w' ⟨rfl, rfl⟩)
          go_ret
          exact ⟨ret_bool HF.out.symm, HB.out⟩
        · have HG2 : Hid (∀ j, j < k + 1 → okT (zs.getD j 0) = true) := okT_next HG.out h1
          generalize zs.getD k 0 = x at *
          go_wp2_with (go_at_call 27; refine (betweenT _ true h1 _).mono ?_; rintro e w' ⟨rfl, rfl⟩)
          exact ⟨⟨k + 1, by omega, by go_num, HG2, trivial⟩, by simp [intOf]; omega⟩
      · have hkk : k = 4 := by omega
        subst hkk
        have HF : Hid (vecB zs = true) := vecB_good HN.out HG.out
        go_wp2
        go_ret
        exact ⟨ret_bool HF.out.symm, HB.out⟩
  · have HF : Hid (vecB zs = false) := vecB_len (by rw [HN.out]; exact h4)
    have h4' : ¬ (n : Int) = 4 := by omega
    go_enter Try.func13, Try.ntmps13
    go_wp2
    go_ret
    exact ⟨ret_bool HF.out.symm, HB.out⟩

set_option maxRecDepth 100000 in
set_option maxHeartbeats 2000000 in
theorem perSiteOf_any (m : Int) (a : Option Addr) (n cap : Nat) (zs : List Int) (w : World) (hl : zs.length = n) (hn : n ≤ maxLen) (hh : IsIs w a zs) :
    Calls Try.prog 36 #[.slice a n cap, .int .i64 m] w fun e w' => (∃ x0 x1 x2 x3, e = .returned (.tuple #[tkV x0 x1 x2 x3, .bool (perB m zs)]) ∧ (perB m zs = true → zs = [x0, x1, x2, x3])) ∧ Below w.heap.size w w' := by
  have HH : Hid (IsIs w a zs) := hh
  have HN : Hid (zs.length = n) := hl
  have hres : Try.f36.results = #[.cell 4 52, .tmp 5] := by kernel_rfl
  clear hh hl
  by_cases h4 : n = 4
  · subst h4
    have HB : Hid (Below w.heap.size w (w.alloc (.cells #[.int .i64 0, .int .i64 0, .int .i64 0, .int .i64 0] 52))) := (Below.refl _ _).alloc (Nat.le_refl _) _
    go_enter Try.func36, Try.ntmps36
    go_wp2
    go_loopw [14] (fun i wr => ∃ k : Nat, k ≤ 4 ∧ i = .int .i64 k ∧ Hid (∀ j, j < k → btw (zs.getD j 0) 0 m = true) ∧ wr = w.alloc (.cells #[.int .i64 0, .int .i64 0, .int .i64 0, .int .i64 0] 52)) (fun i _ => 4 - (intOf i).toNat)
    case atStart => exact ⟨0, Nat.zero_le _, rfl, fun j hj => by omega, rfl⟩
    case round =>
      obtain ⟨k, hk, rfl, HG, rfl⟩ := hrel
      by_cases hk' : k < 4
      · have hkz : k < zs.length := by rw [HN.out]; exact hk'
        obtain ⟨b, o, rfl, hz, e0⟩ := HH.out.at (Below.refl _ _) hkz
        have i1 : (0 : Int) ≤ (k : Int) := by omega
        have i2 : (k : Int) < 4 := by omega
        clear HH
        cases h1 : btw (zs.getD k 0) 0 m
        · have HF : Hid (perB m zs = false) := perB_bad hkz h1
          generalize zs.getD k 0 = x at *
          go_wp2_with (go_at_call 37; refine (inRangeM m _ false h1 _).mono ?_; rintro e w' ⟨rfl, rfl⟩)
          refine bodyPost_ret (v := .tuple #[tkV 0 0 0 0, .bool false]) (by simp only [results, hres]; go_simp) rfl ⟨⟨0, 0, 0, 0, by rw [HF.out], fun h => by rw [HF.out] at h; cases h⟩, HB.out⟩
        · have HG2 : Hid (∀ j, j < k + 1 → btw (zs.getD j 0) 0 m = true) := perB_next HG.out h1
          generalize zs.getD k 0 = x at *
          go_wp2_with (go_at_call 37; refine (inRangeM m _ true h1 _).mono ?_; rintro e w' ⟨rfl, rfl⟩)
          exact ⟨⟨k + 1, by omega, by go_num, HG2, trivial⟩, by simp [intOf]; omega⟩
      · have hkk : k = 4 := by omega
        subst hkk
        have hF : perB m zs = true := perB_good HN.out HG.out
        obtain ⟨x0, x1, x2, x3, rfl, -⟩ := perB_four hF
        have HF := Lib.hid hF
        obtain ⟨b, o, rfl, hz, e0⟩ := HH.out.at (Below.refl _ _) (k := 0) (by simp)
        obtain ⟨_, _, he, -, e1⟩ := HH.out.at (Below.refl _ _) (k := 1) (by simp)
        injection he with he
        injection he with he1 he2
        subst he1
        subst he2
        obtain ⟨_, _, he, -, e2⟩ := HH.out.at (Below.refl _ _) (k := 2) (by simp)
        injection he with he
        injection he with he1 he2
        subst he1
        subst he2
        obtain ⟨_, _, he, -, e3⟩ := HH.out.at (Below.refl _ _) (k := 3) (by simp)
        injection he with he
        injection he with he1 he2
        subst he1
        subst he2
        simp only [Nat.add_zero, List.getD_cons_zero, List.getD_cons_succ] at e0 e1 e2 e3
        have hat : ∀ w, (Instr.arrayAt 52 (.slice (some ⟨b, o, none⟩) 4 cap)).run Try.prog w = .ok (.pointer (some ⟨b, o, none⟩)) w := fun w => run_arrayAt w 52 _ 4 _ 4 cap Try.underlying52 (Nat.le_refl _)
        clear hF HH
        go_wp2_with (simp only [hat])
        refine bodyPost_ret (v := .tuple #[tkV x0 x1 x2 x3, .bool true]) (by simp only [results, hres]; go_simp) rfl ⟨⟨x0, x1, x2, x3, by rw [HF.out], fun _ => ⟨rfl, rfl, rfl, rfl⟩⟩, (Below.refl _ _).alloc (Nat.le_refl _) _⟩
  · have HF : Hid (perB m zs = false) := perB_len (by rw [HN.out]; exact h4)
    have h4' : ¬ (n : Int) = 4 := by omega
    go_enter Try.func36, Try.ntmps36
    go_wp2
    refine bodyPost_ret (v := .tuple #[tkV 0 0 0 0, .bool false]) (by simp only [results, hres]; go_simp) rfl ⟨⟨0, 0, 0, 0, by rw [HF.out], fun h => by rw [HF.out] at h; cases h⟩, (Below.refl _ _).alloc (Nat.le_refl _) _⟩

theorem low4 {w w' : World} {B b : Nat} (h : Below B w w') (hb : B ≤ b) (v0 v1 v2 v3 : Value) : Below B w ((((w'.setCell ⟨b, 0, none⟩ v0).setCell ⟨b, 1, none⟩ v1).setCell ⟨b, 2, none⟩ v2).setCell ⟨b, 3, none⟩ v3) :=
  (((h.setCell (p := ⟨b, 0, none⟩) hb _).setCell (p := ⟨b, 1, none⟩) hb _).setCell (p := ⟨b, 2, none⟩) hb _).setCell (p := ⟨b, 3, none⟩) hb _

set_option maxRecDepth 100000 in
theorem ticksOf_any (a : Option Addr) (n cap : Nat) (zs : List Int) (w : World) (hl : zs.length = n) (hn : n ≤ maxLen) (hh : IsIs w a zs) :
    Calls Try.prog 24 #[.slice a n cap] w fun e w' => (∃ x0 x1 x2 x3, e = .returned (.tuple #[tkV x0 x1 x2 x3, .bool (vecB zs)]) ∧ (vecB zs = true → zs = [x0, x1, x2, x3])) ∧ Below w.heap.size w w' := by
  have hres : Try.f24.results = #[.cell 2 52, .tmp 3] := by kernel_rfl
  have HB0 : Hid (Below w.heap.size w (w.alloc (.cells #[.int .i64 0, .int .i64 0, .int .i64 0, .int .i64 0] 52))) := (Below.refl _ _).alloc (Nat.le_refl _) _
  have HH := Lib.hid (hh.below HB0.out)
  clear hh
  go_enter Try.func24, Try.ntmps24
  go_wp2_with fail
  refine (perSiteOf_any 1000000 a n cap zs _ hl hn HH.out).mono ?_
  rintro e w1 ⟨⟨x0, x1, x2, x3, rfl, hx⟩, hb⟩
  have HX := Lib.hid hx
  have HB := Lib.hid (below_step HB0.out HB0.out.size hb)
  obtain ⟨hc, hf⟩ := bcell hb
  have hz : w.heap.size < w1.heap.size := by have := hb.size; simp at this; omega
  clear hx hb
  have HZ : Hid (perB 1000000 zs = vecB zs) := Lib.hid rfl
  rw [HZ.out] at HX
  rw [HZ.out]
  clear HZ
  obtain ⟨v, HV⟩ : ∃ v, Hid (vecB zs = v) := ⟨_, Lib.hid rfl⟩
  rw [HV.out]
  go_wp2
  refine bodyPost_ret (v := .tuple #[tkV x0 x1 x2 x3, .bool v]) (by simp only [results, hres]; go_simp) rfl ⟨⟨x0, x1, x2, x3, by rw [HV.out], HX.out⟩, ?_⟩
  exact low4 HB.out (Nat.le_refl _) _ _ _ _

theorem OwnI.aside {w : World} {lo hi : Nat} {a : Option Addr} {zs : List Int} {p : Addr} (h : OwnI w lo hi a zs) (hp : p.block < lo) (v : Value) : OwnI (w.setCell p v) lo hi a zs := by
  rcases h with h | ⟨b, ha, h1, h2, hlt, hh, hf⟩
  · exact .inl h
  · refine .inr ⟨b, ha, h1, h2, by simpa using hlt, fun i hi => (World.cell?_setCell_other _ _ _ _ (fun e => ?_)).trans (hh i hi), fun o => by rw [World.frozen?_setCell]; exact hf o⟩
    have : p.block = b := by rw [e]
    omega

theorem OwnI.wider {w : World} {lo hi lo' hi' : Nat} {a : Option Addr} {zs : List Int} (h : OwnI w lo hi a zs) (hl : lo' ≤ lo) (hh : hi ≤ hi') : OwnI w lo' hi' a zs := by
  rcases h with h | ⟨b, ha, h1, h2, hlt, hh', hf⟩
  · exact .inl h
  · exact .inr ⟨b, ha, by omega, by omega, hlt, hh', hf⟩

theorem OwnI.isIs {w : World} {lo hi : Nat} {a : Option Addr} {zs : List Int} (h : OwnI w lo hi a zs) : IsIs w a zs := h.isInts.isIs

end Go.Proofs.Ytolmlcbgdihcbab

/- Arrays of four numbers of the program: contracts of join, list, tick, lets; the comparison of two as a whole. -/
namespace Go.Proofs.Ytolmlcbgdihcbab
open Go.ChangeShapes Go.WideShapes Go.ChangeAt Go.RowKit Go.Joins
attribute [local go_sem ↓] Go.wp_at_zero Go.wp_at_succ

theorem run_tk (zs : List Value) (v : Value) (hl : zs.length = 4) {q : Nat} (h : zs[q]? = some v) (w : World) : (Instr.index 52 (.agg zs.toArray) (.int .i64 (q : Int))).run Try.prog w = .ok v w := by
  have hq : q < 4 := by rw [← hl]; exact (List.getElem?_eq_some_iff.1 h).1
  simp [Instr.index, go_sem, Go.part, Try.isAgg3, Try.sizeOf3, hl, hq]
  exact (List.getElem?_eq_some_iff.1 h).2

set_option maxRecDepth 100000 in
set_option maxHeartbeats 4000000 in
theorem tkJoin_any (x0 x1 x2 x3 y0 y1 y2 y3 : Int) (w : World) :
    Calls Try.prog 25 #[tkV x0 x1 x2 x3, tkV y0 y1 y2 y3] w fun e w' => e = .returned (tkV (max x0 y0) (max x1 y1) (max x2 y2) (max x3 y3)) ∧ Below w.heap.size w w' := by
  have hres : Try.f25.results = #[.cell 4 52] := by kernel_rfl
  have i0 : ∀ w, (Instr.index 52 (.agg #[.int .i64 y0, .int .i64 y1, .int .i64 y2, .int .i64 y3]) (.int .i64 0)).run Try.prog w = .ok (.int .i64 y0) w := run_tk [_, _, _, _] _ rfl (q := 0) rfl
  have i1 : ∀ w, (Instr.index 52 (.agg #[.int .i64 y0, .int .i64 y1, .int .i64 y2, .int .i64 y3]) (.int .i64 1)).run Try.prog w = .ok (.int .i64 y1) w := run_tk [_, _, _, _] _ rfl (q := 1) rfl
  have i2 : ∀ w, (Instr.index 52 (.agg #[.int .i64 y0, .int .i64 y1, .int .i64 y2, .int .i64 y3]) (.int .i64 2)).run Try.prog w = .ok (.int .i64 y2) w := run_tk [_, _, _, _] _ rfl (q := 2) rfl
  have i3 : ∀ w, (Instr.index 52 (.agg #[.int .i64 y0, .int .i64 y1, .int .i64 y2, .int .i64 y3]) (.int .i64 3)).run Try.prog w = .ok (.int .i64 y3) w := run_tk [_, _, _, _] _ rfl (q := 3) rfl
  go_enter Try.func25, Try.ntmps25
  go_wp2
  refine wp_loop_rounds 5 ?_
  rw [rounds_succ]
  go_wp2
  rw [rounds_succ]
  go_wp2
  rw [rounds_succ]
  go_wp2
  rw [rounds_succ]
  go_wp2
  rw [rounds_succ]
  go_wp2
  refine bodyPost_ret (v := tkV (max x0 y0) (max x1 y1) (max x2 y2) (max x3 y3)) (by simp only [results, hres]; go_simp) rfl ⟨rfl, ?_⟩
  exact ((((Below.refl _ _).alloc (Nat.le_refl _) _).alloc (by simp) _).alloc (by simp; omega) _)

set_option maxRecDepth 100000 in
theorem tkList_any (x0 x1 x2 x3 : Int) (w : World) :
    Calls Try.prog 26 #[tkV x0 x1 x2 x3] w fun e w' => e = .returned (.slice (some ⟨w.heap.size, 0, none⟩) 4 4) ∧ w' = w.alloc (.cells #[.int .i64 x0, .int .i64 x1, .int .i64 x2, .int .i64 x3] 52) := by
  go_enter Try.func26, Try.ntmps26
  go_wp2
  go_ret
  exact ⟨rfl, rfl⟩

def tkP (x n : Int) (i q : Nat) : Int := if i = q then x + n else x

def tk1 (x : Int) (i q : Nat) : Int := if i = q then x + 1 else x

set_option maxRecDepth 100000 in
set_option maxHeartbeats 4000000 in
theorem tkPlus_any (x0 x1 x2 x3 n : Int) (q : Nat) (hq : q < 4) (h0 : 0 ≤ x0 ∧ x0 ≤ 1000000000) (h1 : 0 ≤ x1 ∧ x1 ≤ 1000000000) (h2 : 0 ≤ x2 ∧ x2 ≤ 1000000000) (h3 : 0 ≤ x3 ∧ x3 ≤ 1000000000) (hn : 0 ≤ n ∧ n ≤ 1000000000) (w : World) :
    Calls Try.prog 29 #[tkV x0 x1 x2 x3, .int .i64 (q : Int), .int .i64 n] w fun e w' => e = .returned (tkV (tkP x0 n 0 q) (tkP x1 n 1 q) (tkP x2 n 2 q) (tkP x3 n 3 q)) ∧ Below w.heap.size w w' := by
  have hres : Try.f29.results = #[.cell 6 52] := by kernel_rfl
  obtain ⟨a0, b0⟩ := h0
  obtain ⟨a1, b1⟩ := h1
  obtain ⟨a2, b2⟩ := h2
  obtain ⟨a3, b3⟩ := h3
  obtain ⟨an, bn⟩ := hn
  match q, hq with
  | 0, _ =>
    show Calls Try.prog 29 #[tkV x0 x1 x2 x3, .int .i64 0, .int .i64 n] w fun e w' => e = .returned (tkV (x0 + n) x1 x2 x3) ∧ Below w.heap.size w w'
    go_enter Try.func29, Try.ntmps29
    go_wp2
    refine bodyPost_ret (v := tkV (x0 + n) x1 x2 x3) (by simp only [results, hres]; go_simp) rfl ⟨rfl, ?_⟩
    exact ((Below.refl _ _).alloc (Nat.le_refl _) _).alloc (by simp) _
  | 1, _ =>
    show Calls Try.prog 29 #[tkV x0 x1 x2 x3, .int .i64 1, .int .i64 n] w fun e w' => e = .returned (tkV x0 (x1 + n) x2 x3) ∧ Below w.heap.size w w'
    go_enter Try.func29, Try.ntmps29
    go_wp2
    refine bodyPost_ret (v := tkV x0 (x1 + n) x2 x3) (by simp only [results, hres]; go_simp) rfl ⟨rfl, ?_⟩
    exact ((Below.refl _ _).alloc (Nat.le_refl _) _).alloc (by simp) _
  | 2, _ =>
    show Calls Try.prog 29 #[tkV x0 x1 x2 x3, .int .i64 2, .int .i64 n] w fun e w' => e = .returned (tkV x0 x1 (x2 + n) x3) ∧ Below w.heap.size w w'
    go_enter Try.func29, Try.ntmps29
    go_wp2
    refine bodyPost_ret (v := tkV x0 x1 (x2 + n) x3) (by simp only [results, hres]; go_simp) rfl ⟨rfl, ?_⟩
    exact ((Below.refl _ _).alloc (Nat.le_refl _) _).alloc (by simp) _
  | 3, _ =>
    show Calls Try.prog 29 #[tkV x0 x1 x2 x3, .int .i64 3, .int .i64 n] w fun e w' => e = .returned (tkV x0 x1 x2 (x3 + n)) ∧ Below w.heap.size w w'
    go_enter Try.func29, Try.ntmps29
    go_wp2
    refine bodyPost_ret (v := tkV x0 x1 x2 (x3 + n)) (by simp only [results, hres]; go_simp) rfl ⟨rfl, ?_⟩
    exact ((Below.refl _ _).alloc (Nat.le_refl _) _).alloc (by simp) _

set_option maxRecDepth 100000 in
theorem tkTick_any (x0 x1 x2 x3 : Int) (q : Nat) (hq : q < 4) (h0 : 0 ≤ x0 ∧ x0 ≤ 1000000) (h1 : 0 ≤ x1 ∧ x1 ≤ 1000000) (h2 : 0 ≤ x2 ∧ x2 ≤ 1000000) (h3 : 0 ≤ x3 ∧ x3 ≤ 1000000) (w : World) :
    Calls Try.prog 29 #[tkV x0 x1 x2 x3, .int .i64 (q : Int), .int .i64 1] w fun e w' => e = .returned (tkV (tk1 x0 0 q) (tk1 x1 1 q) (tk1 x2 2 q) (tk1 x3 3 q)) ∧ Below w.heap.size w w' :=
  tkPlus_any x0 x1 x2 x3 1 q hq (by omega) (by omega) (by omega) (by omega) (by omega) w

set_option maxRecDepth 100000 in
theorem eql_tk (d : Nat) (w : World) (x0 x1 x2 x3 y0 y1 y2 y3 : Int) : (Op.equalIn (d + 2) 52 (tkV x0 x1 x2 x3) (tkV y0 y1 y2 y3)).run Try.prog w = .ok (decide (x0 = y0 ∧ x1 = y1 ∧ x2 = y2 ∧ x3 = y3)) w := by
  have hq : ∀ x y w, (Op.equalIn (d + 1) 3 (.int .i64 x) (.int .i64 y)).run Try.prog w = .ok (x == y) w := fun x y w => run_equalIn_int w d 3 .i64 .i64 x y Try.underlying3
  rw [Op.equalIn]
  simp only [Sem.run_bind, run_underlying Try.underlying52, Result.andThen_ok, Try.sizeOf3]
  rw [Std.Legacy.Range.forIn_eq_forIn_range']
  have hr : List.range' [:4].start [:4].size [:4].step = [0, 1, 2, 3] := rfl
  rw [hr]
  have hp : ∀ (z0 z1 z2 z3 : Int) (i : Nat) (z : Int), ([z0, z1, z2, z3] : List Int)[i]? = some z → ∀ w, (part 3 #[.int .i64 z0, .int .i64 z1, .int .i64 z2, .int .i64 z3] i).run Try.prog w = .ok (.int .i64 z) w := by
    intro z0 z1 z2 z3 i z hz w
    match i, hz with
    | 0, hz | 1, hz | 2, hz | 3, hz =>
      simp at hz
      subst hz
      simp [part, Try.isAgg3, Sem.run_bind]
  have p0 := fun z0 z1 z2 z3 w => hp z0 z1 z2 z3 0 _ rfl w
  have p1 := fun z0 z1 z2 z3 w => hp z0 z1 z2 z3 1 _ rfl w
  have p2 := fun z0 z1 z2 z3 w => hp z0 z1 z2 z3 2 _ rfl w
  have p3 := fun z0 z1 z2 z3 w => hp z0 z1 z2 z3 3 _ rfl w
  clear hp hr
  simp only [List.forIn_cons, List.forIn_nil, Sem.run_bind, Nat.mul_one, p0, hq, Result.andThen_ok]
  by_cases h0 : x0 = y0
  · by_cases h1 : x1 = y1
    · by_cases h2 : x2 = y2
      · by_cases h3 : x3 = y3
        · simp [h0, h1, h2, h3, p1, p2, p3, hq]
        · simp [h0, h1, h2, h3, p1, p2, p3, hq]
      · simp [h0, h1, h2, p1, p2, p3, hq]
    · simp [h0, h1, p1, p2, p3, hq]
  · simp [h0]

def letsB (x0 x1 x2 x3 y0 y1 y2 y3 : Int) (q : Nat) : Bool := decide (max x0 y0 = tk1 x0 0 q ∧ max x1 y1 = tk1 x1 1 q ∧ max x2 y2 = tk1 x2 2 q ∧ max x3 y3 = tk1 x3 3 q)

set_option maxRecDepth 100000 in
set_option maxHeartbeats 4000000 in
theorem tkLets_any (x0 x1 x2 x3 y0 y1 y2 y3 : Int) (q : Nat) (hq : q < 4) (h0 : 0 ≤ x0 ∧ x0 ≤ 1000000) (h1 : 0 ≤ x1 ∧ x1 ≤ 1000000) (h2 : 0 ≤ x2 ∧ x2 ≤ 1000000) (h3 : 0 ≤ x3 ∧ x3 ≤ 1000000) (w : World) :
    Calls Try.prog 34 #[tkV x0 x1 x2 x3, tkV y0 y1 y2 y3, .int .i64 (q : Int)] w fun e w' => e = .returned (.bool (letsB x0 x1 x2 x3 y0 y1 y2 y3 q)) ∧ Below w.heap.size w w' := by
  have HJ : Hid (∀ W, Calls Try.prog 25 #[tkV x0 x1 x2 x3, tkV y0 y1 y2 y3] W fun e w' => e = .returned (tkV (max x0 y0) (max x1 y1) (max x2 y2) (max x3 y3)) ∧ Below W.heap.size W w') := tkJoin_any x0 x1 x2 x3 y0 y1 y2 y3
  have HT : Hid (∀ W, Calls Try.prog 29 #[tkV x0 x1 x2 x3, .int .i64 (q : Int), .int .i64 1] W fun e w' => e = .returned (tkV (tk1 x0 0 q) (tk1 x1 1 q) (tk1 x2 2 q) (tk1 x3 3 q)) ∧ Below W.heap.size W w') := fun W => tkTick_any x0 x1 x2 x3 q hq h0 h1 h2 h3 W
  have HE := Lib.hid (fun d w => eql_tk d w (max x0 y0) (max x1 y1) (max x2 y2) (max x3 y3) (tk1 x0 0 q) (tk1 x1 1 q) (tk1 x2 2 q) (tk1 x3 3 q))
  have HD : Hid (decide (max x0 y0 = tk1 x0 0 q ∧ max x1 y1 = tk1 x1 1 q ∧ max x2 y2 = tk1 x2 2 q ∧ max x3 y3 = tk1 x3 3 q) = letsB x0 x1 x2 x3 y0 y1 y2 y3 q) := Lib.hid rfl
  rw [HD.out] at HE
  clear HD h0 h1 h2 h3
  generalize letsB x0 x1 x2 x3 y0 y1 y2 y3 q = z at *
  generalize (max x0 y0) = m0 at *
  generalize (max x1 y1) = m1 at *
  generalize (max x2 y2) = m2 at *
  generalize (max x3 y3) = m3 at *
  generalize (tk1 x0 0 q) = t0 at *
  generalize (tk1 x1 1 q) = t1 at *
  generalize (tk1 x2 2 q) = t2 at *
  generalize (tk1 x3 3 q) = t3 at *
  go_enter Try.func34, Try.ntmps34
  go_wp2_with fail
  have HB : Hid (Below w.heap.size w ((w.alloc (.cells #[.int .i64 x0, .int .i64 x1, .int .i64 x2, .int .i64 x3] 52)).alloc (.cells #[.int .i64 y0, .int .i64 y1, .int .i64 y2, .int .i64 y3] 52))) := ((Below.refl _ _).alloc (Nat.le_refl _) _).alloc (by simp) _
  have hx : w.heap.size < ((w.alloc (.cells #[.int .i64 x0, .int .i64 x1, .int .i64 x2, .int .i64 x3] 52)).alloc (.cells #[.int .i64 y0, .int .i64 y1, .int .i64 y2, .int .i64 y3] 52)).heap.size := by simp; omega
  have hy : w.heap.size + 1 < ((w.alloc (.cells #[.int .i64 x0, .int .i64 x1, .int .i64 x2, .int .i64 x3] 52)).alloc (.cells #[.int .i64 y0, .int .i64 y1, .int .i64 y2, .int .i64 y3] 52)).heap.size := by simp
  have cx0 : ((w.alloc (.cells #[.int .i64 x0, .int .i64 x1, .int .i64 x2, .int .i64 x3] 52)).alloc (.cells #[.int .i64 y0, .int .i64 y1, .int .i64 y2, .int .i64 y3] 52)).cell? ⟨w.heap.size, 0, none⟩ = some (.int .i64 x0) := by go_simp
  have cx1 : ((w.alloc (.cells #[.int .i64 x0, .int .i64 x1, .int .i64 x2, .int .i64 x3] 52)).alloc (.cells #[.int .i64 y0, .int .i64 y1, .int .i64 y2, .int .i64 y3] 52)).cell? ⟨w.heap.size, 1, none⟩ = some (.int .i64 x1) := by go_simp
  have cx2 : ((w.alloc (.cells #[.int .i64 x0, .int .i64 x1, .int .i64 x2, .int .i64 x3] 52)).alloc (.cells #[.int .i64 y0, .int .i64 y1, .int .i64 y2, .int .i64 y3] 52)).cell? ⟨w.heap.size, 2, none⟩ = some (.int .i64 x2) := by go_simp
  have cx3 : ((w.alloc (.cells #[.int .i64 x0, .int .i64 x1, .int .i64 x2, .int .i64 x3] 52)).alloc (.cells #[.int .i64 y0, .int .i64 y1, .int .i64 y2, .int .i64 y3] 52)).cell? ⟨w.heap.size, 3, none⟩ = some (.int .i64 x3) := by go_simp
  have cy0 : ((w.alloc (.cells #[.int .i64 x0, .int .i64 x1, .int .i64 x2, .int .i64 x3] 52)).alloc (.cells #[.int .i64 y0, .int .i64 y1, .int .i64 y2, .int .i64 y3] 52)).cell? ⟨w.heap.size + 1, 0, none⟩ = some (.int .i64 y0) := by go_simp
  have cy1 : ((w.alloc (.cells #[.int .i64 x0, .int .i64 x1, .int .i64 x2, .int .i64 x3] 52)).alloc (.cells #[.int .i64 y0, .int .i64 y1, .int .i64 y2, .int .i64 y3] 52)).cell? ⟨w.heap.size + 1, 1, none⟩ = some (.int .i64 y1) := by go_simp
  have cy2 : ((w.alloc (.cells #[.int .i64 x0, .int .i64 x1, .int .i64 x2, .int .i64 x3] 52)).alloc (.cells #[.int .i64 y0, .int .i64 y1, .int .i64 y2, .int .i64 y3] 52)).cell? ⟨w.heap.size + 1, 2, none⟩ = some (.int .i64 y2) := by go_simp
  have cy3 : ((w.alloc (.cells #[.int .i64 x0, .int .i64 x1, .int .i64 x2, .int .i64 x3] 52)).alloc (.cells #[.int .i64 y0, .int .i64 y1, .int .i64 y2, .int .i64 y3] 52)).cell? ⟨w.heap.size + 1, 3, none⟩ = some (.int .i64 y3) := by go_simp
  generalize ((w.alloc (.cells #[.int .i64 x0, .int .i64 x1, .int .i64 x2, .int .i64 x3] 52)).alloc (.cells #[.int .i64 y0, .int .i64 y1, .int .i64 y2, .int .i64 y3] 52)) = W at *
  have gx0 := aft_cell hx cx0
  have gx1 := aft_cell hx cx1
  have gx2 := aft_cell hx cx2
  have gx3 := aft_cell hx cx3
  have gy0 := aft_cell hy cy0
  have gy1 := aft_cell hy cy1
  have gy2 := aft_cell hy cy2
  have gy3 := aft_cell hy cy3
  clear hx hy cx0 cx1 cx2 cx3 cy0 cy1 cy2 cy3
  have heq : ∀ w, (Op.equalIn 10000 52 (tkV m0 m1 m2 m3) (tkV t0 t1 t2 t3)).run Try.prog w = .ok z w := fun w => HE.out 9998 w
  have ne := aft_some W
  refine wp_region_aft (by kernel_rfl) (by kernel_rfl) ?_
  repeat (first | go_big_quiet_step (first | (go_at_call 25; exact aft_of (HJ.out _)) | (go_at_call 29; exact aft_of (HT.out _))))
  refine wpQuiet_nil ?_
  intro wq hq
  have HBQ : Hid (Below w.heap.size w wq) := below_step HB.out HB.out.size hq
  clear hq
  go_wp2
  go_ret
  exact ⟨rfl, HBQ.out⟩

end Go.Proofs.Ytolmlcbgdihcbab
