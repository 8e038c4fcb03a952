import Derived.Test.YtaopkoamjfmhhaaPack2
import Derived.Laws.Cover3
import Derived.BigQuiet
import Derived.LoopN
import Derived.Lib.MinMax
import Derived.Test.YtaopkoamjfmhhaaPack1
/- Vectors: which are VecOk; the contracts of VecOk of both sides, of the program's ticksOf, and of the laws' szVec, toVec, eqVec. -/
namespace Go.Proofs.Ytaopkoamjfmhhaa
open Go.ChangeShapes Go.WideShapes Go.ChangeAt Go.RowKit Go.Joins
attribute [local go_sem ↓] Go.wp_at_zero Go.wp_at_succ

abbrev vecV (a : Option Addr) (n cap : Nat) : Value := .agg #[.slice a n cap]

abbrev tkV (x0 x1 x2 x3 : Int) : Value := .agg #[.int .i64 x0, .int .i64 x1, .int .i64 x2, .int .i64 x3]

/-- Four numbers, all in 0 .. m. -/
def perB (m : Int) (zs : List Int) : Bool := decide (zs.length = 4) && zs.all fun z => btw z 0 m

def okT (z : Int) : Bool := btw z 0 1000000

def vecB (zs : List Int) : Bool := perB 1000000 zs

theorem okT_iff (z : Int) : okT z = true ↔ 0 ≤ z ∧ z ≤ 1000000 := by
  unfold okT btw
  simp

theorem perB_four {m : Int} {zs : List Int} (h : perB m zs = true) : ∃ x0 x1 x2 x3, zs = [x0, x1, x2, x3] ∧ (0 ≤ x0 ∧ x0 ≤ m) ∧ (0 ≤ x1 ∧ x1 ≤ m) ∧ (0 ≤ x2 ∧ x2 ≤ m) ∧ (0 ≤ x3 ∧ x3 ≤ m) := by
  unfold perB at h
  rw [Bool.and_eq_true, decide_eq_true_iff] at h
  obtain ⟨hl, ha⟩ := h
  match zs, hl, ha with
  | [x0, x1, x2, x3], _, ha =>
    simp only [List.all_cons, List.all_nil, Bool.and_true, Bool.and_eq_true, btw, decide_eq_true_iff] at ha
    exact ⟨x0, x1, x2, x3, rfl, ha⟩

theorem vecB_four {zs : List Int} (h : vecB zs = true) : ∃ x0 x1 x2 x3, zs = [x0, x1, x2, x3] ∧ (0 ≤ x0 ∧ x0 ≤ 1000000) ∧ (0 ≤ x1 ∧ x1 ≤ 1000000) ∧ (0 ≤ x2 ∧ x2 ≤ 1000000) ∧ (0 ≤ x3 ∧ x3 ≤ 1000000) := perB_four h

theorem perB_is (m x0 x1 x2 x3 : Int) : perB m [x0, x1, x2, x3] = true ↔ (0 ≤ x0 ∧ x0 ≤ m) ∧ (0 ≤ x1 ∧ x1 ≤ m) ∧ (0 ≤ x2 ∧ x2 ≤ m) ∧ (0 ≤ x3 ∧ x3 ≤ m) := by
  unfold perB
  simp only [List.length_cons, List.length_nil, List.all_cons, List.all_nil, Bool.and_true, Bool.and_eq_true, btw, decide_eq_true_iff]
  simp

theorem vecB_is (x0 x1 x2 x3 : Int) : vecB [x0, x1, x2, x3] = true ↔ (0 ≤ x0 ∧ x0 ≤ 1000000) ∧ (0 ≤ x1 ∧ x1 ≤ 1000000) ∧ (0 ≤ x2 ∧ x2 ≤ 1000000) ∧ (0 ≤ x3 ∧ x3 ≤ 1000000) := perB_is _ _ _ _ _

theorem perB_len {m : Int} {zs : List Int} (h : zs.length ≠ 4) : perB m zs = false := by
  unfold perB
  rw [decide_eq_false h, Bool.false_and]

theorem vecB_len {zs : List Int} (h : zs.length ≠ 4) : vecB zs = false := perB_len h

theorem perB_bad {m : Int} {zs : List Int} {k : Nat} (hk : k < zs.length) (h : btw (zs.getD k 0) 0 m = false) : perB m zs = false := by
  unfold perB
  have : zs.all (fun z => btw z 0 m) = false := List.all_eq_false.2 ⟨zs.getD k 0, by simp [List.getD, hk], by rw [h]; simp⟩
  rw [this, Bool.and_false]

theorem vecB_bad {zs : List Int} {k : Nat} (hk : k < zs.length) (h : okT (zs.getD k 0) = false) : vecB zs = false := perB_bad hk h

theorem perB_good {m : Int} {zs : List Int} (hl : zs.length = 4) (h : ∀ k, k < 4 → btw (zs.getD k 0) 0 m = true) : perB m zs = true := by
  unfold perB
  rw [decide_eq_true hl, Bool.true_and, List.all_eq_true]
  intro z hz
  obtain ⟨i, hi, rfl⟩ := List.getElem_of_mem hz
  have := h i (by omega)
  simpa [List.getD, hi] using this

theorem vecB_good {zs : List Int} (hl : zs.length = 4) (h : ∀ k, k < 4 → okT (zs.getD k 0) = true) : vecB zs = true := perB_good hl h

theorem perB_next {m : Int} {zs : List Int} {k : Nat} (h : ∀ j, j < k → btw (zs.getD j 0) 0 m = true) (hk : btw (zs.getD k 0) 0 m = true) : ∀ j, j < k + 1 → btw (zs.getD j 0) 0 m = true := fun j hj => by
  by_cases h' : j < k
  · exact h j h'
  · have : j = k := by omega
    rw [this]
    exact hk

theorem okT_next {zs : List Int} {k : Nat} (h : ∀ j, j < k → okT (zs.getD j 0) = true) (hk : okT (zs.getD k 0) = true) : ∀ j, j < k + 1 → okT (zs.getD j 0) = true := perB_next h hk

set_option maxRecDepth 100000 in
theorem inRangeM (m n : Int) (v : Bool) (h : btw n 0 m = v) (w : World) :
    Calls Try.prog 29 #[.int .i64 n, .int .i64 0, .int .i64 m] w fun e w' => e = .returned (.bool v) ∧ w' = w := by
  rw [← h]
  exact inRange_any n 0 m w

set_option maxRecDepth 100000 in
theorem betweenT (n : Int) (v : Bool) (h : okT n = v) (w : World) :
    Calls Try.prog 32 #[.int .i64 n, .int .i64 0, .int .i64 1000000] w fun e w' => e = .returned (.bool v) ∧ w' = w := by
  rw [← h]
  exact between_any n 0 1000000 w

set_option maxRecDepth 100000 in
set_option maxHeartbeats 2000000 in
theorem perSiteOf_any (m : Int) (a : Option Addr) (n cap : Nat) (zs : List Int) (w : World) (hl : zs.length = n) (hn : n ≤ maxLen) (hh : IsIs w a zs) :
    Calls Try.prog 35 #[.slice a n cap, .int .i64 m] w fun e w' => (∃ x0 x1 x2 x3, e = .returned (.tuple #[tkV x0 x1 x2 x3, .bool (perB m zs)]) ∧ (perB m zs = true → zs = [x0, x1, x2, x3])) ∧ Below w.heap.size w w' := by
  have HH : Hid (IsIs w a zs) := hh
  have HN : Hid (zs.length = n) := hl
  have hres : Try.f35.results = #[.cell 4 43, .tmp 5] := by kernel_rfl
  clear hh hl
  by_cases h4 : n = 4
  · subst h4
    have HB : Hid (Below w.heap.size w (w.alloc (.cells #[.int .i64 0, .int .i64 0, .int .i64 0, .int .i64 0] 43))) := (Below.refl _ _).alloc (Nat.le_refl _) _
    go_enter Try.func35, Try.ntmps35
    go_wp2
    go_loopw [14] (fun i wr => ∃ k : Nat, k ≤ 4 ∧ i = .int .i64 k ∧ Hid (∀ j, j < k → btw (zs.getD j 0) 0 m = true) ∧ wr = w.alloc (.cells #[.int .i64 0, .int .i64 0, .int .i64 0, .int .i64 0] 43)) (fun i _ => 4 - (intOf i).toNat)
    case atStart => exact ⟨0, Nat.zero_le _, rfl, fun j hj => by omega, rfl⟩
    case round =>
      obtain ⟨k, hk, rfl, HG, rfl⟩ := hrel
      by_cases hk' : k < 4
      · have hkz : k < zs.length := by rw [HN.out]; exact hk'
        obtain ⟨b, o, rfl, hz, e0⟩ := HH.out.at (Below.refl _ _) hkz
        have i1 : (0 : Int) ≤ (k : Int) := by omega
        have i2 : (k : Int) < 4 := by omega
        clear HH
        cases h1 : btw (zs.getD k 0) 0 m
        · have HF : Hid (perB m zs = false) := perB_bad hkz h1
          generalize zs.getD k 0 = x at *
          go_wp2_with (go_at_call 29; refine (inRangeM m _ false h1 _).mono ?_; rintro e w' ⟨rfl, rfl⟩)
          refine bodyPost_ret (v := .tuple #[tkV 0 0 0 0, .bool false]) (by simp only [results, hres]; go_simp) rfl ⟨⟨0, 0, 0, 0, by rw [HF.out], fun h => by rw [HF.out] at h; cases h⟩, HB.out⟩
        · have HG2 : Hid (∀ j, j < k + 1 → btw (zs.getD j 0) 0 m = true) := perB_next HG.out h1
          generalize zs.getD k 0 = x at *
          go_wp2_with (go_at_call 29; refine (inRangeM m _ true h1 _).mono ?_; rintro e w' ⟨rfl, rfl⟩)
          exact ⟨⟨k + 1, by omega, by go_num, HG2, trivial⟩, by simp [intOf]; omega⟩
      · have hkk : k = 4 := by omega
        subst hkk
        have hF : perB m zs = true := perB_good HN.out HG.out
        obtain ⟨x0, x1, x2, x3, rfl, -⟩ := perB_four hF
        have HF := Lib.hid hF
        obtain ⟨b, o, rfl, hz, e0⟩ := HH.out.at (Below.refl _ _) (k := 0) (by simp)
        obtain ⟨_, _, he, -, e1⟩ := HH.out.at (Below.refl _ _) (k := 1) (by simp)
        injection he with he
        injection he with he1 he2
        subst he1
        subst he2
        obtain ⟨_, _, he, -, e2⟩ := HH.out.at (Below.refl _ _) (k := 2) (by simp)
        injection he with he
        injection he with he1 he2
        subst he1
        subst he2
        obtain ⟨_, _, he, -, e3⟩ := HH.out.at (Below.refl _ _) (k := 3) (by simp)
        injection he with he
        injection he with he1 he2
        subst he1
        subst he2
        simp only [Nat.add_zero, List.getD_cons_zero, List.getD_cons_succ] at e0 e1 e2 e3
        have hat : ∀ w, (Instr.arrayAt 43 (.slice (some ⟨b, o, none⟩) 4 cap)).run Try.prog w = .ok (.pointer (some ⟨b, o, none⟩)) w := fun w => run_arrayAt w 43 _ 4 _ 4 cap Try.underlying43 (Nat.le_refl _)
        clear hF HH
        go_wp2_with (simp only [hat])
        refine bodyPost_ret (v := .tuple #[tkV x0 x1 x2 x3, .bool true]) (by simp only [results, hres]; go_simp) rfl ⟨⟨x0, x1, x2, x3, by rw [HF.out], fun _ => ⟨rfl, rfl, rfl, rfl⟩⟩, (Below.refl _ _).alloc (Nat.le_refl _) _⟩
  · have HF : Hid (perB m zs = false) := perB_len (by rw [HN.out]; exact h4)
    have h4' : ¬ (n : Int) = 4 := by omega
    go_enter Try.func35, Try.ntmps35
    go_wp2
    refine bodyPost_ret (v := .tuple #[tkV 0 0 0 0, .bool false]) (by simp only [results, hres]; go_simp) rfl ⟨⟨0, 0, 0, 0, by rw [HF.out], fun h => by rw [HF.out] at h; cases h⟩, (Below.refl _ _).alloc (Nat.le_refl _) _⟩

theorem low4 {w w' : World} {B b : Nat} (h : Below B w w') (hb : B ≤ b) (v0 v1 v2 v3 : Value) : Below B w ((((w'.setCell ⟨b, 0, none⟩ v0).setCell ⟨b, 1, none⟩ v1).setCell ⟨b, 2, none⟩ v2).setCell ⟨b, 3, none⟩ v3) :=
  (((h.setCell (p := ⟨b, 0, none⟩) hb _).setCell (p := ⟨b, 1, none⟩) hb _).setCell (p := ⟨b, 2, none⟩) hb _).setCell (p := ⟨b, 3, none⟩) hb _

theorem OwnI.aside {w : World} {lo hi : Nat} {a : Option Addr} {zs : List Int} {p : Addr} (h : OwnI w lo hi a zs) (hp : p.block < lo) (v : Value) : OwnI (w.setCell p v) lo hi a zs := by
  rcases h with h | ⟨b, ha, h1, h2, hlt, hh, hf⟩
  · exact .inl h
  · refine .inr ⟨b, ha, h1, h2, by simpa using hlt, fun i hi => (World.cell?_setCell_other _ _ _ _ (fun e => ?_)).trans (hh i hi), fun o => by rw [World.frozen?_setCell]; exact hf o⟩
    have : p.block = b := by rw [e]
    omega

theorem OwnI.wider {w : World} {lo hi lo' hi' : Nat} {a : Option Addr} {zs : List Int} (h : OwnI w lo hi a zs) (hl : lo' ≤ lo) (hh : hi ≤ hi') : OwnI w lo' hi' a zs := by
  rcases h with h | ⟨b, ha, h1, h2, hlt, hh', hf⟩
  · exact .inl h
  · exact .inr ⟨b, ha, by omega, by omega, hlt, hh', hf⟩

theorem OwnI.isIs {w : World} {lo hi : Nat} {a : Option Addr} {zs : List Int} (h : OwnI w lo hi a zs) : IsIs w a zs := h.isInts.isIs

end Go.Proofs.Ytaopkoamjfmhhaa

/- Arrays of four numbers of the program: contracts of join, list, tick, lets; the comparison of two as a whole. -/
namespace Go.Proofs.Ytaopkoamjfmhhaa
open Go.ChangeShapes Go.WideShapes Go.ChangeAt Go.RowKit Go.Joins
attribute [local go_sem ↓] Go.wp_at_zero Go.wp_at_succ

theorem run_tk (zs : List Value) (v : Value) (hl : zs.length = 4) {q : Nat} (h : zs[q]? = some v) (w : World) : (Instr.index 43 (.agg zs.toArray) (.int .i64 (q : Int))).run Try.prog w = .ok v w := by
  have hq : q < 4 := by rw [← hl]; exact (List.getElem?_eq_some_iff.1 h).1
  simp [Instr.index, go_sem, Go.part, Try.isAgg3, Try.sizeOf3, hl, hq]
  exact (List.getElem?_eq_some_iff.1 h).2

set_option maxRecDepth 100000 in
set_option maxHeartbeats 4000000 in
theorem tkJoin_any (x0 x1 x2 x3 y0 y1 y2 y3 : Int) (w : World) :
    Calls Try.prog 36 #[tkV x0 x1 x2 x3, tkV y0 y1 y2 y3] w fun e w' => e = .returned (tkV (max x0 y0) (max x1 y1) (max x2 y2) (max x3 y3)) ∧ Below w.heap.size w w' := by
  have hres : Try.f36.results = #[.cell 4 43] := by kernel_rfl
  have i0 : ∀ w, (Instr.index 43 (.agg #[.int .i64 y0, .int .i64 y1, .int .i64 y2, .int .i64 y3]) (.int .i64 0)).run Try.prog w = .ok (.int .i64 y0) w := run_tk [_, _, _, _] _ rfl (q := 0) rfl
  have i1 : ∀ w, (Instr.index 43 (.agg #[.int .i64 y0, .int .i64 y1, .int .i64 y2, .int .i64 y3]) (.int .i64 1)).run Try.prog w = .ok (.int .i64 y1) w := run_tk [_, _, _, _] _ rfl (q := 1) rfl
  have i2 : ∀ w, (Instr.index 43 (.agg #[.int .i64 y0, .int .i64 y1, .int .i64 y2, .int .i64 y3]) (.int .i64 2)).run Try.prog w = .ok (.int .i64 y2) w := run_tk [_, _, _, _] _ rfl (q := 2) rfl
  have i3 : ∀ w, (Instr.index 43 (.agg #[.int .i64 y0, .int .i64 y1, .int .i64 y2, .int .i64 y3]) (.int .i64 3)).run Try.prog w = .ok (.int .i64 y3) w := run_tk [_, _, _, _] _ rfl (q := 3) rfl
  go_enter Try.func36, Try.ntmps36
  go_wp2
  refine wp_loop_rounds 5 ?_
  rw [rounds_succ]
  go_wp2
  rw [rounds_succ]
  go_wp2
  rw [rounds_succ]
  go_wp2
  rw [rounds_succ]
  go_wp2
  rw [rounds_succ]
  go_wp2
  refine bodyPost_ret (v := tkV (max x0 y0) (max x1 y1) (max x2 y2) (max x3 y3)) (by simp only [results, hres]; go_simp) rfl ⟨rfl, ?_⟩
  exact ((((Below.refl _ _).alloc (Nat.le_refl _) _).alloc (by simp) _).alloc (by simp; omega) _)

set_option maxRecDepth 100000 in
theorem tkList_any (x0 x1 x2 x3 : Int) (w : World) :
    Calls Try.prog 37 #[tkV x0 x1 x2 x3] w fun e w' => e = .returned (.slice (some ⟨w.heap.size, 0, none⟩) 4 4) ∧ w' = w.alloc (.cells #[.int .i64 x0, .int .i64 x1, .int .i64 x2, .int .i64 x3] 43) := by
  go_enter Try.func37, Try.ntmps37
  go_wp2
  go_ret
  exact ⟨rfl, rfl⟩

def tkP (x n : Int) (i q : Nat) : Int := if i = q then x + n else x

def tk1 (x : Int) (i q : Nat) : Int := if i = q then x + 1 else x

set_option maxRecDepth 100000 in
set_option maxHeartbeats 4000000 in
theorem tkPlus_any (x0 x1 x2 x3 n : Int) (q : Nat) (hq : q < 4) (h0 : 0 ≤ x0 ∧ x0 ≤ 1000000000) (h1 : 0 ≤ x1 ∧ x1 ≤ 1000000000) (h2 : 0 ≤ x2 ∧ x2 ≤ 1000000000) (h3 : 0 ≤ x3 ∧ x3 ≤ 1000000000) (hn : 0 ≤ n ∧ n ≤ 1000000000) (w : World) :
    Calls Try.prog 38 #[tkV x0 x1 x2 x3, .int .i64 (q : Int), .int .i64 n] w fun e w' => e = .returned (tkV (tkP x0 n 0 q) (tkP x1 n 1 q) (tkP x2 n 2 q) (tkP x3 n 3 q)) ∧ Below w.heap.size w w' := by
  have hres : Try.f38.results = #[.cell 6 43] := by kernel_rfl
  obtain ⟨a0, b0⟩ := h0
  obtain ⟨a1, b1⟩ := h1
  obtain ⟨a2, b2⟩ := h2
  obtain ⟨a3, b3⟩ := h3
  obtain ⟨an, bn⟩ := hn
  match q, hq with
  | 0, _ =>
    show Calls Try.prog 38 #[tkV x0 x1 x2 x3, .int .i64 0, .int .i64 n] w fun e w' => e = .returned (tkV (x0 + n) x1 x2 x3) ∧ Below w.heap.size w w'
    go_enter Try.func38, Try.ntmps38
    go_wp2
    refine bodyPost_ret (v := tkV (x0 + n) x1 x2 x3) (by simp only [results, hres]; go_simp) rfl ⟨rfl, ?_⟩
    exact ((Below.refl _ _).alloc (Nat.le_refl _) _).alloc (by simp) _
  | 1, _ =>
    show Calls Try.prog 38 #[tkV x0 x1 x2 x3, .int .i64 1, .int .i64 n] w fun e w' => e = .returned (tkV x0 (x1 + n) x2 x3) ∧ Below w.heap.size w w'
    go_enter Try.func38, Try.ntmps38
    go_wp2
    refine bodyPost_ret (v := tkV x0 (x1 + n) x2 x3) (by simp only [results, hres]; go_simp) rfl ⟨rfl, ?_⟩
    exact ((Below.refl _ _).alloc (Nat.le_refl _) _).alloc (by simp) _
  | 2, _ =>
    show Calls Try.prog 38 #[tkV x0 x1 x2 x3, .int .i64 2, .int .i64 n] w fun e w' => e = .returned (tkV x0 x1 (x2 + n) x3) ∧ Below w.heap.size w w'
    go_enter Try.func38, Try.ntmps38
    go_wp2
    refine bodyPost_ret (v := tkV x0 x1 (x2 + n) x3) (by simp only [results, hres]; go_simp) rfl ⟨rfl, ?_⟩
    exact ((Below.refl _ _).alloc (Nat.le_refl _) _).alloc (by simp) _
  | 3, _ =>
    show Calls Try.prog 38 #[tkV x0 x1 x2 x3, .int .i64 3, .int .i64 n] w fun e w' => e = .returned (tkV x0 x1 x2 (x3 + n)) ∧ Below w.heap.size w w'
    go_enter Try.func38, Try.ntmps38
    go_wp2
    refine bodyPost_ret (v := tkV x0 x1 x2 (x3 + n)) (by simp only [results, hres]; go_simp) rfl ⟨rfl, ?_⟩
    exact ((Below.refl _ _).alloc (Nat.le_refl _) _).alloc (by simp) _

set_option maxRecDepth 100000 in
theorem tkTick_any (x0 x1 x2 x3 : Int) (q : Nat) (hq : q < 4) (h0 : 0 ≤ x0 ∧ x0 ≤ 1000000) (h1 : 0 ≤ x1 ∧ x1 ≤ 1000000) (h2 : 0 ≤ x2 ∧ x2 ≤ 1000000) (h3 : 0 ≤ x3 ∧ x3 ≤ 1000000) (w : World) :
    Calls Try.prog 38 #[tkV x0 x1 x2 x3, .int .i64 (q : Int), .int .i64 1] w fun e w' => e = .returned (tkV (tk1 x0 0 q) (tk1 x1 1 q) (tk1 x2 2 q) (tk1 x3 3 q)) ∧ Below w.heap.size w w' :=
  tkPlus_any x0 x1 x2 x3 1 q hq (by omega) (by omega) (by omega) (by omega) (by omega) w

set_option maxRecDepth 100000 in
theorem eql_tk (d : Nat) (w : World) (x0 x1 x2 x3 y0 y1 y2 y3 : Int) : (Op.equalIn (d + 2) 43 (tkV x0 x1 x2 x3) (tkV y0 y1 y2 y3)).run Try.prog w = .ok (decide (x0 = y0 ∧ x1 = y1 ∧ x2 = y2 ∧ x3 = y3)) w := by
  have hq : ∀ x y w, (Op.equalIn (d + 1) 3 (.int .i64 x) (.int .i64 y)).run Try.prog w = .ok (x == y) w := fun x y w => run_equalIn_int w d 3 .i64 .i64 x y Try.underlying3
  rw [Op.equalIn]
  simp only [Sem.run_bind, run_underlying Try.underlying43, Result.andThen_ok, Try.sizeOf3]
  rw [Std.Legacy.Range.forIn_eq_forIn_range']
  have hr : List.range' [:4].start [:4].size [:4].step = [0, 1, 2, 3] := rfl
  rw [hr]
  have hp : ∀ (z0 z1 z2 z3 : Int) (i : Nat) (z : Int), ([z0, z1, z2, z3] : List Int)[i]? = some z → ∀ w, (part 3 #[.int .i64 z0, .int .i64 z1, .int .i64 z2, .int .i64 z3] i).run Try.prog w = .ok (.int .i64 z) w := by
    intro z0 z1 z2 z3 i z hz w
    match i, hz with
    | 0, hz | 1, hz | 2, hz | 3, hz =>
      simp at hz
      subst hz
      simp [part, Try.isAgg3, Sem.run_bind]
  have p0 := fun z0 z1 z2 z3 w => hp z0 z1 z2 z3 0 _ rfl w
  have p1 := fun z0 z1 z2 z3 w => hp z0 z1 z2 z3 1 _ rfl w
  have p2 := fun z0 z1 z2 z3 w => hp z0 z1 z2 z3 2 _ rfl w
  have p3 := fun z0 z1 z2 z3 w => hp z0 z1 z2 z3 3 _ rfl w
  clear hp hr
  simp only [List.forIn_cons, List.forIn_nil, Sem.run_bind, Nat.mul_one, p0, hq, Result.andThen_ok]
  by_cases h0 : x0 = y0
  · by_cases h1 : x1 = y1
    · by_cases h2 : x2 = y2
      · by_cases h3 : x3 = y3
        · simp [h0, h1, h2, h3, p1, p2, p3, hq]
        · simp [h0, h1, h2, h3, p1, p2, p3, hq]
      · simp [h0, h1, h2, p1, p2, p3, hq]
    · simp [h0, h1, p1, p2, p3, hq]
  · simp [h0]

def letsB (x0 x1 x2 x3 y0 y1 y2 y3 : Int) (q : Nat) : Bool := decide (max x0 y0 = tk1 x0 0 q ∧ max x1 y1 = tk1 x1 1 q ∧ max x2 y2 = tk1 x2 2 q ∧ max x3 y3 = tk1 x3 3 q)

end Go.Proofs.Ytaopkoamjfmhhaa

/- Counters: which are CounterOk; contracts of CounterOk of both sides, of the program's tallies read, joined, told and added up. -/
namespace Go.Proofs.Ytaopkoamjfmhhaa
open Go.ChangeShapes Go.WideShapes Go.ChangeAt Go.RowKit Go.Joins
attribute [local go_sem ↓] Go.wp_at_zero Go.wp_at_succ

abbrev cntV (a : Option Addr) (n cap : Nat) (b : Option Addr) (m cb : Nat) : Value := .agg #[.slice a n cap, .slice b m cb]

abbrev taV (x0 x1 x2 x3 y0 y1 y2 y3 : Int) : Value := .agg #[.int .i64 x0, .int .i64 x1, .int .i64 x2, .int .i64 x3, .int .i64 y0, .int .i64 y1, .int .i64 y2, .int .i64 y3]

def cntB (us ds : List Int) : Bool := perB 1000000000 us && perB 1000000000 ds

/-- The two lists of a counter. -/
def IsC (w : World) (a b : Option Addr) (us ds : List Int) : Prop := IsIs w a us ∧ IsIs w b ds

theorem IsC.below {w w' : World} {a b : Option Addr} {us ds : List Int} (h : IsC w a b us ds) (hb : Below w.heap.size w w') : IsC w' a b us ds := ⟨h.1.below hb, h.2.below hb⟩

theorem cntB_four {us ds : List Int} (h : cntB us ds = true) : ∃ x0 x1 x2 x3 y0 y1 y2 y3, us = [x0, x1, x2, x3] ∧ ds = [y0, y1, y2, y3] ∧ ((0 ≤ x0 ∧ x0 ≤ 1000000000) ∧ (0 ≤ x1 ∧ x1 ≤ 1000000000) ∧ (0 ≤ x2 ∧ x2 ≤ 1000000000) ∧ (0 ≤ x3 ∧ x3 ≤ 1000000000)) ∧ (0 ≤ y0 ∧ y0 ≤ 1000000000) ∧ (0 ≤ y1 ∧ y1 ≤ 1000000000) ∧ (0 ≤ y2 ∧ y2 ≤ 1000000000) ∧ (0 ≤ y3 ∧ y3 ≤ 1000000000) := by
  unfold cntB at h
  rw [Bool.and_eq_true] at h
  obtain ⟨x0, x1, x2, x3, hu, hx⟩ := perB_four h.1
  obtain ⟨y0, y1, y2, y3, hd, hy⟩ := perB_four h.2
  exact ⟨x0, x1, x2, x3, y0, y1, y2, y3, hu, hd, hx, hy⟩

theorem low8 {w w' : World} {B b : Nat} (h : Below B w w') (hb : B ≤ b) (v0 v1 v2 v3 v4 v5 v6 v7 : Value) : Below B w ((((((((w'.setCell ⟨b, 0, none⟩ v0).setCell ⟨b, 1, none⟩ v1).setCell ⟨b, 2, none⟩ v2).setCell ⟨b, 3, none⟩ v3).setCell ⟨b, 4, none⟩ v4).setCell ⟨b, 5, none⟩ v5).setCell ⟨b, 6, none⟩ v6).setCell ⟨b, 7, none⟩ v7) :=
  (((((((h.setCell (p := ⟨b, 0, none⟩) hb _).setCell (p := ⟨b, 1, none⟩) hb _).setCell (p := ⟨b, 2, none⟩) hb _).setCell (p := ⟨b, 3, none⟩) hb _).setCell (p := ⟨b, 4, none⟩) hb _).setCell (p := ⟨b, 5, none⟩) hb _).setCell (p := ⟨b, 6, none⟩) hb _).setCell (p := ⟨b, 7, none⟩) hb _

set_option maxRecDepth 100000 in
theorem betweenC (n : Int) (v : Bool) (h : btw n 0 1000000000 = v) (w : World) :
    Calls Try.prog 32 #[.int .i64 n, .int .i64 0, .int .i64 1000000000] w fun e w' => e = .returned (.bool v) ∧ w' = w := by
  rw [← h]
  exact between_any n 0 1000000000 w

set_option maxRecDepth 100000 in
set_option maxHeartbeats 2000000 in
theorem l12List_any (a : Option Addr) (n cap : Nat) (zs : List Int) (w : World) (hl : zs.length = n) (hn : n ≤ maxLen) (hh : IsIs w a zs) :
    Calls Try.prog 25 #[.slice a n cap] w fun e w' => e = .returned (.bool (perB 1000000000 zs)) ∧ w' = w := by
  have HH : Hid (IsIs w a zs) := hh
  have HN : Hid (zs.length = n) := hl
  clear hh hl
  by_cases h4 : n = 4
  · subst h4
    go_enter Try.func25, Try.ntmps25
    go_wp2
    go_loopw [3] (fun i wr => ∃ k : Nat, k ≤ 4 ∧ i = .int .i64 k ∧ Hid (∀ j, j < k → btw (zs.getD j 0) 0 1000000000 = true) ∧ wr = w) (fun i _ => 4 - (intOf i).toNat)
    case atStart => exact ⟨0, Nat.zero_le _, rfl, fun j hj => by omega, rfl⟩
    case round =>
      obtain ⟨k, hk, rfl, HG, rfl⟩ := hrel
      by_cases hk' : k < 4
      · have hkz : k < zs.length := by rw [HN.out]; exact hk'
        obtain ⟨b, o, rfl, hz, e0⟩ := HH.out.at (Below.refl _ _) hkz
        have hz : b < wr.heap.size := hz
        have i1 : (0 : Int) ≤ (k : Int) := by omega
        have i2 : (k : Int) < 4 := by omega
        clear HH
        cases h1 : btw (zs.getD k 0) 0 1000000000
        · have HF : Hid (perB 1000000000 zs = false) := perB_bad hkz h1
          generalize zs.getD k 0 = x at *
          go_wp2_with (go_at_call 32; refine (betweenC _ false h1 _).mono ?_; rintro e w' ⟨rfl, rfl⟩)
          go_ret
          exact ⟨ret_bool HF.out.symm, rfl⟩
        · have HG2 : Hid (∀ j, j < k + 1 → btw (zs.getD j 0) 0 1000000000 = true) := perB_next HG.out h1
          generalize zs.getD k 0 = x at *
          go_wp2_with (go_at_call 32; refine (betweenC _ true h1 _).mono ?_; rintro e w' ⟨rfl, rfl⟩)
          exact ⟨⟨k + 1, by omega, by go_num, HG2, trivial⟩, by simp [intOf]; omega⟩
      · have hkk : k = 4 := by omega
        subst hkk
        have HF : Hid (perB 1000000000 zs = true) := perB_good HN.out HG.out
        go_wp2
        go_ret
        exact ⟨ret_bool HF.out.symm, rfl⟩
  · have HF : Hid (perB 1000000000 zs = false) := perB_len (by rw [HN.out]; exact h4)
    have h4' : ¬ (n : Int) = 4 := by omega
    go_enter Try.func25, Try.ntmps25
    go_wp2
    go_ret
    exact ⟨ret_bool HF.out.symm, rfl⟩

set_option maxRecDepth 100000 in
set_option maxHeartbeats 2000000 in
theorem specCounterOk_any (a : Option Addr) (n cap : Nat) (b : Option Addr) (m cb : Nat) (us ds : List Int) (w : World) (hl : us.length = n) (hn : n ≤ maxLen) (hl' : ds.length = m) (hm : m ≤ maxLen) (hh : IsC w a b us ds) :
    Calls Try.prog 10 #[cntV a n cap b m cb] w fun e w' => e = .returned (.bool (cntB us ds)) ∧ Below w.heap.size w w' := by
  have HB : Hid (Below w.heap.size w (w.alloc (.cells #[.slice a n cap, .slice b m cb] 26))) := (Below.refl _ _).alloc (Nat.le_refl _) _
  have HC : Hid (IsC (w.alloc (.cells #[.slice a n cap, .slice b m cb] 26)) a b us ds) := hh.below HB.out
  have HL := Lib.hid hl
  have HL' := Lib.hid hl'
  clear hh hl hl'
  cases hu : perB 1000000000 us
  · have HF : Hid (cntB us ds = false) := by
      show cntB us ds = false
      unfold cntB
      rw [hu]
      rfl
    have HU := Lib.hid hu
    clear hu
    go_enter Try.func10, Try.ntmps10
    go_wp2_with fail
    refine (l12List_any a n cap us _ HL.out hn HC.out.1).mono ?_
    rw [HU.out]
    rintro e w1 ⟨rfl, rfl⟩
    go_wp2
    go_ret
    exact ⟨ret_bool HF.out.symm, HB.out⟩
  · have HF : Hid (perB 1000000000 ds = cntB us ds) := by
      show perB 1000000000 ds = cntB us ds
      unfold cntB
      rw [hu]
      rfl
    have HU := Lib.hid hu
    clear hu
    go_enter Try.func10, Try.ntmps10
    go_wp2_with fail
    refine (l12List_any a n cap us _ HL.out hn HC.out.1).mono ?_
    rw [HU.out]
    rintro e w1 ⟨rfl, rfl⟩
    go_wp2_with fail
    refine (l12List_any b m cb ds _ HL'.out hm HC.out.2).mono ?_
    rw [HF.out]
    rintro e w1 ⟨rfl, rfl⟩
    go_wp2
    go_ret
    exact ⟨rfl, HB.out⟩

set_option maxRecDepth 100000 in
set_option maxHeartbeats 4000000 in
theorem tallyOf_any (a : Option Addr) (n cap : Nat) (b : Option Addr) (m cb : Nat) (us ds : List Int) (w : World) (hl : us.length = n) (hn : n ≤ maxLen) (hl' : ds.length = m) (hm : m ≤ maxLen) (hh : IsC w a b us ds) :
    Calls Try.prog 21 #[cntV a n cap b m cb] w fun e w' => (∃ x0 x1 x2 x3 y0 y1 y2 y3, e = .returned (.tuple #[taV x0 x1 x2 x3 y0 y1 y2 y3, .bool (cntB us ds)]) ∧ (cntB us ds = true → us = [x0, x1, x2, x3] ∧ ds = [y0, y1, y2, y3])) ∧ Below w.heap.size w w' := by
  have hres : Try.f21.results = #[.cell 2 45, .tmp 3] := by kernel_rfl
  have HB0 : Hid (Below w.heap.size w ((w.alloc (.cells #[.slice a n cap, .slice b m cb] 26)).alloc (.cells #[.int .i64 0, .int .i64 0, .int .i64 0, .int .i64 0, .int .i64 0, .int .i64 0, .int .i64 0, .int .i64 0] 45))) := ((Below.refl _ _).alloc (Nat.le_refl _) _).alloc (by simp) _
  have HC := Lib.hid hh
  have HL := Lib.hid hl
  have HL' := Lib.hid hl'
  clear hh hl hl'
  go_enter Try.func21, Try.ntmps21
  go_wp2_with fail
  refine (perSiteOf_any 1000000000 a n cap us _ HL.out hn (HC.out.below HB0.out).1).mono ?_
  rintro e w1 ⟨⟨x0, x1, x2, x3, rfl, hx⟩, hb⟩
  have HX := Lib.hid hx
  have HB1 := Lib.hid (below_step HB0.out HB0.out.size hb)
  obtain ⟨hc, hf⟩ := bcell hb
  have hz : w.heap.size + 1 < w1.heap.size := by have := hb.size; simp at this; omega
  have hz1 : w.heap.size < w1.heap.size := by omega
  have HA : Hid (Below w.heap.size w (w1.alloc (.cells #[.int .i64 x0, .int .i64 x1, .int .i64 x2, .int .i64 x3] 43))) := HB1.out.alloc HB1.out.size _
  clear hb hx
  go_wp2_with fail
  refine (perSiteOf_any 1000000000 b m cb ds _ HL'.out hm (HC.out.below HA.out).2).mono ?_
  rintro e w2 ⟨⟨y0, y1, y2, y3, rfl, hy⟩, hb⟩
  have HY := Lib.hid hy
  have HB2 := Lib.hid (below_step HA.out HA.out.size hb)
  obtain ⟨hc2, hf2⟩ := bcell hb
  have hz2 : w1.heap.size < w2.heap.size := by have := hb.size; simp at this; omega
  have hz4 : w.heap.size + 1 < w2.heap.size := by omega
  have hz6 : w.heap.size < w2.heap.size := by omega
  clear hb hy
  cases hu : perB 1000000000 us
  · have HF : Hid (cntB us ds = false) := by
      show cntB us ds = false
      unfold cntB
      rw [hu]
      rfl
    clear HX hu
    go_wp2
    refine bodyPost_ret (v := .tuple #[taV x0 x1 x2 x3 y0 y1 y2 y3, .bool false]) ?_ rfl ?_
    · simp only [results, hres]
      go_simp
    · refine ⟨⟨x0, x1, x2, x3, y0, y1, y2, y3, by rw [HF.out], fun h => by rw [HF.out] at h; cases h⟩, ?_⟩
      have HL8 := low8 HB2.out (b := w.heap.size + 1) (Nat.le_add_right _ 1) (.int .i64 x0) (.int .i64 x1) (.int .i64 x2) (.int .i64 x3) (.int .i64 y0) (.int .i64 y1) (.int .i64 y2) (.int .i64 y3)
      exact HL8.alloc HL8.size _
  · have HF : Hid (perB 1000000000 ds = cntB us ds) := by
      show perB 1000000000 ds = cntB us ds
      unfold cntB
      rw [hu]
      rfl
    have HU := Lib.hid (HX.out hu)
    clear HX hu
    rw [HF.out] at HY
    rw [HF.out]
    obtain ⟨z, HZ⟩ : ∃ z, Hid (cntB us ds = z) := ⟨_, Lib.hid rfl⟩
    rw [HZ.out]
    go_wp2
    refine bodyPost_ret (v := .tuple #[taV x0 x1 x2 x3 y0 y1 y2 y3, .bool z]) ?_ rfl ?_
    · simp only [results, hres]
      go_simp
    · refine ⟨⟨x0, x1, x2, x3, y0, y1, y2, y3, by rw [HZ.out], fun h => ⟨HU.out, HY.out h⟩⟩, ?_⟩
      have HL8 := low8 HB2.out (b := w.heap.size + 1) (Nat.le_add_right _ 1) (.int .i64 x0) (.int .i64 x1) (.int .i64 x2) (.int .i64 x3) (.int .i64 y0) (.int .i64 y1) (.int .i64 y2) (.int .i64 y3)
      exact HL8.alloc HL8.size _

end Go.Proofs.Ytaopkoamjfmhhaa

/- The program's VecJoin, VecCmp, VecTick, MayCome. -/
namespace Go.Proofs.Ytaopkoamjfmhhaa
open Go.ChangeShapes Go.WideShapes Go.ChangeAt Go.RowKit Go.Joins
attribute [local go_sem ↓] Go.wp_at_zero Go.wp_at_succ

def joinV (xs ys : List Int) : List Int := if vecB xs && vecB ys then List.zipWith max xs ys else []

theorem joinV_good {xs ys : List Int} (h : vecB xs = true) (h' : vecB ys = true) : joinV xs ys = List.zipWith max xs ys := by
  unfold joinV
  rw [h, h']
  rfl

theorem joinV_bad {xs ys : List Int} (h : (vecB xs && vecB ys) = false) : joinV xs ys = [] := by
  unfold joinV
  rw [h]
  rfl

theorem own4 (w : World) (lo : Nat) (h : lo ≤ w.heap.size) (z0 z1 z2 z3 : Int) (t g : Nat) (hg : g = w.heap.size) : OwnI (w.alloc (.cells #[.int .i64 z0, .int .i64 z1, .int .i64 z2, .int .i64 z3] t)) lo (w.alloc (.cells #[.int .i64 z0, .int .i64 z1, .int .i64 z2, .int .i64 z3] t)).heap.size (some ⟨g, 0, none⟩) [z0, z1, z2, z3] := by
  subst hg
  refine .inr ⟨w.heap.size, rfl, h, by simp, by simp, fun i hi => ?_, fun o => by go_simp⟩
  match i, hi with
  | 0, _ | 1, _ | 2, _ | 3, _ => go_simp

theorem ret_int {a b : Int} (h : a = b) : Ending.returned (.int .i64 a) = .returned (.int .i64 b) := by rw [h]

def cmp3 (d1 d2 d3 : Bool) : Int := if d1 then 0 else if d2 then -1 else if d3 then 1 else 2

def lessV (xs ys : List Int) (k : Nat) : Bool := (List.range k).any fun i => decide (xs.getD i 0 < ys.getD i 0)

def moreV (xs ys : List Int) (k : Nat) : Bool := (List.range k).any fun i => decide (ys.getD i 0 < xs.getD i 0)

theorem lessV_next (xs ys : List Int) (k : Nat) : lessV xs ys (k + 1) = (lessV xs ys k || decide (xs.getD k 0 < ys.getD k 0)) := by
  unfold lessV
  rw [List.range_succ, List.any_append]
  simp

theorem moreV_next (xs ys : List Int) (k : Nat) : moreV xs ys (k + 1) = (moreV xs ys k || decide (ys.getD k 0 < xs.getD k 0)) := by
  unfold moreV
  rw [List.range_succ, List.any_append]
  simp

def lm (l m : Bool) : Int := if l && m then 2 else if l then -1 else if m then 1 else 0

def cmpV (xs ys : List Int) : Int := if vecB xs && vecB ys then lm (lessV xs ys 4) (moreV xs ys 4) else 3

theorem cmpV_bad {xs ys : List Int} (h : (vecB xs && vecB ys) = false) : cmpV xs ys = 3 := by
  unfold cmpV
  rw [h]
  rfl

theorem cmpV_good {xs ys : List Int} (h : vecB xs = true) (h' : vecB ys = true) : cmpV xs ys = lm (lessV xs ys 4) (moreV xs ys 4) := by
  unfold cmpV
  rw [h, h']
  rfl

theorem cmpV_four (x0 x1 x2 x3 y0 y1 y2 y3 : Int) (h : vecB [x0, x1, x2, x3] = true) (h' : vecB [y0, y1, y2, y3] = true) :
    cmpV [x0, x1, x2, x3] [y0, y1, y2, y3] = cmp3 (decide (x0 = y0 ∧ x1 = y1 ∧ x2 = y2 ∧ x3 = y3)) (decide (max x0 y0 = y0 ∧ max x1 y1 = y1 ∧ max x2 y2 = y2 ∧ max x3 y3 = y3)) (decide (max x0 y0 = x0 ∧ max x1 y1 = x1 ∧ max x2 y2 = x2 ∧ max x3 y3 = x3)) := by
  rw [cmpV_good h h']
  have hl : lessV [x0, x1, x2, x3] [y0, y1, y2, y3] 4 = !decide (max x0 y0 = x0 ∧ max x1 y1 = x1 ∧ max x2 y2 = x2 ∧ max x3 y3 = x3) := by
    simp only [lessV_next, show lessV [x0, x1, x2, x3] [y0, y1, y2, y3] 0 = false from rfl]
    rw [Bool.eq_iff_iff]
    simp
    omega
  have hm : moreV [x0, x1, x2, x3] [y0, y1, y2, y3] 4 = !decide (max x0 y0 = y0 ∧ max x1 y1 = y1 ∧ max x2 y2 = y2 ∧ max x3 y3 = y3) := by
    simp only [moreV_next, show moreV [x0, x1, x2, x3] [y0, y1, y2, y3] 0 = false from rfl]
    rw [Bool.eq_iff_iff]
    simp
    omega
  have he : decide (x0 = y0 ∧ x1 = y1 ∧ x2 = y2 ∧ x3 = y3) = (decide (max x0 y0 = x0 ∧ max x1 y1 = x1 ∧ max x2 y2 = x2 ∧ max x3 y3 = x3) && decide (max x0 y0 = y0 ∧ max x1 y1 = y1 ∧ max x2 y2 = y2 ∧ max x3 y3 = y3)) := by
    rw [Bool.eq_iff_iff]
    simp
    omega
  rw [hl, hm, he]
  generalize decide (max x0 y0 = x0 ∧ max x1 y1 = x1 ∧ max x2 y2 = x2 ∧ max x3 y3 = x3) = d3
  generalize decide (max x0 y0 = y0 ∧ max x1 y1 = y1 ∧ max x2 y2 = y2 ∧ max x3 y3 = y3) = d2
  cases d3 <;> cases d2 <;> rfl

def tickOk (xs : List Int) (si : Int) : Bool := vecB xs && (btw si 0 3 && !(xs.getD si.toNat 0 == 1000000))

def tickV (xs : List Int) (si : Int) : List Int := if tickOk xs si then xs.set si.toNat (xs.getD si.toNat 0 + 1) else []

theorem tickV_bad {xs : List Int} {si : Int} (h : tickOk xs si = false) : tickV xs si = [] := by
  unfold tickV
  rw [h]
  rfl

theorem tickV_good {xs : List Int} {si : Int} (h : tickOk xs si = true) : tickV xs si = xs.set si.toNat (xs.getD si.toNat 0 + 1) := by
  unfold tickV
  rw [h]
  rfl

theorem tickOk_bad {xs : List Int} {si : Int} (h : vecB xs = false) : tickOk xs si = false := by
  unfold tickOk
  rw [h]
  rfl

theorem tickOk_off {xs : List Int} {si : Int} (h : btw si 0 3 = false) : tickOk xs si = false := by
  unfold tickOk
  rw [h]
  simp

theorem tickOk_at {xs : List Int} {si : Int} (h : vecB xs = true) (h' : btw si 0 3 = true) : tickOk xs si = !(xs.getD si.toNat 0 == 1000000) := by
  unfold tickOk
  rw [h, h']
  simp

theorem btw_site {si : Int} (h : btw si 0 3 = true) : si = 0 ∨ si = 1 ∨ si = 2 ∨ si = 3 := by
  unfold btw at h
  simp at h
  omega

set_option maxRecDepth 100000 in
theorem isSite_any (si : Int) (w : World) :
    Calls Try.prog 28 #[.int .i64 si] w fun e w' => e = .returned (.bool (btw si 0 3)) ∧ w' = w := by
  go_enter Try.func28, Try.ntmps28
  go_wp2_with fail
  refine (inRange_any _ _ _ _).mono ?_
  rintro e w1 ⟨rfl, hw⟩
  subst w1
  go_wp2
  go_ret
  exact ⟨rfl, rfl⟩

set_option maxRecDepth 100000 in
theorem specSite_any (si : Int) (w : World) :
    Calls Try.prog 31 #[.int .i64 si] w fun e w' => e = .returned (.bool (btw si 0 3)) ∧ w' = w := by
  go_enter Try.func31, Try.ntmps31
  go_wp2_with fail
  refine (between_any _ _ _ _).mono ?_
  rintro e w1 ⟨rfl, hw⟩
  subst w1
  go_wp2
  go_ret
  exact ⟨rfl, rfl⟩

abbrev postV (f : Int) (a : Option Addr) (n cap : Nat) (y : Int) : Value := .agg #[.int .i64 f, .slice a n cap, .int .i64 y]

/-- What MayCome asks at one place. -/
def mayOne (xs ys : List Int) (q i : Nat) : Bool := if i = q then decide (ys.getD i 0 = xs.getD i 0 + 1) else decide (ys.getD i 0 ≤ xs.getD i 0)

def mayAt (xs ys : List Int) (q k : Nat) : Bool := (List.range k).all (mayOne xs ys q)

theorem mayAt_next (xs ys : List Int) (q k : Nat) : mayAt xs ys q (k + 1) = (mayAt xs ys q k && mayOne xs ys q k) := by
  unfold mayAt
  rw [List.range_succ, List.all_append]
  simp

def mayB (xs ys : List Int) (si : Int) : Bool := vecB xs && (vecB ys && (btw si 0 3 && mayAt xs ys si.toNat 4))

theorem mayB_bad {xs ys : List Int} {si : Int} (h : (vecB xs && vecB ys) = false) : mayB xs ys si = false := by
  unfold mayB
  rw [← Bool.and_assoc, h]
  rfl

theorem mayB_off {xs ys : List Int} {si : Int} (h : btw si 0 3 = false) : mayB xs ys si = false := by
  unfold mayB
  rw [h]
  simp

theorem mayB_at {xs ys : List Int} {si : Int} (h : vecB xs = true) (h' : vecB ys = true) (hs : btw si 0 3 = true) : mayB xs ys si = mayAt xs ys si.toNat 4 := by
  unfold mayB
  rw [h, h', hs]
  simp

theorem lets_may (x0 x1 x2 x3 y0 y1 y2 y3 : Int) (q : Nat) (hq : q < 4) : letsB x0 x1 x2 x3 y0 y1 y2 y3 q = mayAt [x0, x1, x2, x3] [y0, y1, y2, y3] q 4 := by
  simp only [mayAt_next, show mayAt [x0, x1, x2, x3] [y0, y1, y2, y3] q 0 = true from rfl, Bool.true_and]
  unfold letsB mayOne tk1
  rw [Bool.eq_iff_iff]
  match q, hq with
  | 0, _ | 1, _ | 2, _ | 3, _ =>
    simp
    omega

end Go.Proofs.Ytaopkoamjfmhhaa

/- Counters: the program's tallies told, joined, added to and valued. -/
namespace Go.Proofs.Ytaopkoamjfmhhaa
open Go.ChangeShapes Go.WideShapes Go.ChangeAt Go.RowKit Go.Joins
attribute [local go_sem ↓] Go.wp_at_zero Go.wp_at_succ

/-- Two lists of one's own, apart from one another. -/
def OwnC (w : World) (lo hi : Nat) (a b : Option Addr) (us ds : List Int) : Prop :=
  ∃ l1 h1 l2 h2, lo ≤ l1 ∧ h1 ≤ hi ∧ lo ≤ l2 ∧ h2 ≤ hi ∧ (h1 ≤ l2 ∨ h2 ≤ l1) ∧ OwnI w l1 h1 a us ∧ OwnI w l2 h2 b ds

theorem OwnC.below {w w' : World} {lo hi : Nat} {a b : Option Addr} {us ds : List Int} (h : OwnC w lo hi a b us ds) (hb : Below w.heap.size w w') : OwnC w' lo hi a b us ds := by
  obtain ⟨l1, h1, l2, h2, k1, k2, k3, k4, k5, o1, o2⟩ := h
  exact ⟨l1, h1, l2, h2, k1, k2, k3, k4, k5, o1.below hb, o2.below hb⟩

theorem OwnC.wider {w : World} {lo hi lo' hi' : Nat} {a b : Option Addr} {us ds : List Int} (h : OwnC w lo hi a b us ds) (hl : lo' ≤ lo) (hh : hi ≤ hi') : OwnC w lo' hi' a b us ds := by
  obtain ⟨l1, h1, l2, h2, k1, k2, k3, k4, k5, o1, o2⟩ := h
  exact ⟨l1, h1, l2, h2, by omega, by omega, by omega, by omega, k5, o1, o2⟩

theorem OwnC.isC {w : World} {lo hi : Nat} {a b : Option Addr} {us ds : List Int} (h : OwnC w lo hi a b us ds) : IsC w a b us ds := by
  obtain ⟨l1, h1, l2, h2, k1, k2, k3, k4, k5, o1, o2⟩ := h
  exact ⟨o1.isIs, o2.isIs⟩

theorem OwnC.nil {w : World} {lo hi : Nat} {a b : Option Addr} (h : lo ≤ hi) : OwnC w lo hi a b [] [] := ⟨lo, lo, lo, lo, Nat.le_refl _, h, Nat.le_refl _, h, .inl (Nat.le_refl _), .inl rfl, .inl rfl⟩

theorem own_at {w : World} {b : Nat} {x0 x1 x2 x3 : Int} (hlt : b < w.heap.size) (c0 : w.cell? ⟨b, 0, none⟩ = some (.int .i64 x0)) (c1 : w.cell? ⟨b, 1, none⟩ = some (.int .i64 x1)) (c2 : w.cell? ⟨b, 2, none⟩ = some (.int .i64 x2)) (c3 : w.cell? ⟨b, 3, none⟩ = some (.int .i64 x3)) (hf : ∀ o, w.frozen? ⟨b, o, none⟩ = false) : OwnI w b (b + 1) (some ⟨b, 0, none⟩) [x0, x1, x2, x3] := by
  refine .inr ⟨b, rfl, Nat.le_refl _, Nat.lt_succ_self _, hlt, fun i hi => ?_, hf⟩
  match i, hi with
  | 0, _ => exact c0
  | 1, _ => exact c1
  | 2, _ => exact c2
  | 3, _ => exact c3

theorem own_two {w : World} {b c : Nat} {x0 x1 x2 x3 y0 y1 y2 y3 : Int} {lo hi : Nat} (hb : b + 1 ≤ c ∨ c + 1 ≤ b) (h1 : lo ≤ b) (h2 : lo ≤ c) (h3 : b + 1 ≤ hi) (h4 : c + 1 ≤ hi) (o1 : OwnI w b (b + 1) (some ⟨b, 0, none⟩) [x0, x1, x2, x3]) (o2 : OwnI w c (c + 1) (some ⟨c, 0, none⟩) [y0, y1, y2, y3]) : OwnC w lo hi (some ⟨b, 0, none⟩) (some ⟨c, 0, none⟩) [x0, x1, x2, x3] [y0, y1, y2, y3] :=
  ⟨b, b + 1, c, c + 1, h1, h3, h2, h4, hb, o1, o2⟩

set_option maxRecDepth 100000 in
set_option maxHeartbeats 4000000 in
theorem tCounter_any (x0 x1 x2 x3 y0 y1 y2 y3 : Int) (w : World) :
    Calls Try.prog 23 #[taV x0 x1 x2 x3 y0 y1 y2 y3] w fun e w' => ∃ g g', e = .returned (cntV (some ⟨g, 0, none⟩) 4 4 (some ⟨g', 0, none⟩) 4 4) ∧ OwnC w' w.heap.size w'.heap.size (some ⟨g, 0, none⟩) (some ⟨g', 0, none⟩) [x0, x1, x2, x3] [y0, y1, y2, y3] ∧ Below w.heap.size w w' := by
  have hres : Try.f23.results = #[.cell 2 26] := by kernel_rfl
  go_enter Try.func23, Try.ntmps23
  go_wp2_with fail
  go_region_with (first | (go_at_call 37; refine (tkList_any _ _ _ _ _).mono ?_; rintro e w' ⟨rfl, rfl⟩))
  all_goals
    go_wp2
    first
    | (refine bodyPost_ret (v := cntV (some ⟨w.heap.size + 1 + 1, 0, none⟩) 4 4 (some ⟨w.heap.size + 1 + 1 + 1, 0, none⟩) 4 4) ?_ rfl ?_
       · simp only [results, hres]
         go_simp
       · refine ⟨w.heap.size + 1 + 1, w.heap.size + 1 + 1 + 1, rfl, ?_, (((((Below.refl _ _).alloc (Nat.le_refl _) _).alloc (by simp) _).alloc (by simp; omega) _).alloc (by simp; omega) _).drew⟩
         exact own_two (by omega) (by omega) (by omega) (by simp) (by simp) (own_at (by simp <;> omega) (by go_simp) (by go_simp) (by go_simp) (by go_simp) (fun o => by go_simp)) (own_at (by simp <;> omega) (by go_simp) (by go_simp) (by go_simp) (by go_simp) (fun o => by go_simp)))
    | (refine bodyPost_ret (v := cntV (some ⟨w.heap.size + 1 + 1 + 1, 0, none⟩) 4 4 (some ⟨w.heap.size + 1 + 1, 0, none⟩) 4 4) ?_ rfl ?_
       · simp only [results, hres]
         go_simp
       · refine ⟨w.heap.size + 1 + 1 + 1, w.heap.size + 1 + 1, rfl, ?_, (((((Below.refl _ _).alloc (Nat.le_refl _) _).alloc (by simp) _).alloc (by simp; omega) _).alloc (by simp; omega) _).drew⟩
         exact own_two (by omega) (by omega) (by omega) (by simp) (by simp) (own_at (by simp <;> omega) (by go_simp) (by go_simp) (by go_simp) (by go_simp) (fun o => by go_simp)) (own_at (by simp <;> omega) (by go_simp) (by go_simp) (by go_simp) (by go_simp) (fun o => by go_simp)))

theorem cells_of {w w' : World} {b : Nat} {v : Value} {o : Nat} (hb : Below w.heap.size w w') (hlt : b < w.heap.size) (h : w.cell? ⟨b, o, none⟩ = some v) : w'.cell? ⟨b, o, none⟩ = some v := (hb.cell (p := ⟨b, o, none⟩) hlt).trans h

set_option maxRecDepth 100000 in
set_option maxHeartbeats 4000000 in
theorem tJoin_any (x0 x1 x2 x3 x4 x5 x6 x7 z0 z1 z2 z3 z4 z5 z6 z7 : Int) (w : World) :
    Calls Try.prog 22 #[taV x0 x1 x2 x3 x4 x5 x6 x7, taV z0 z1 z2 z3 z4 z5 z6 z7] w fun e w' => e = .returned (taV (max x0 z0) (max x1 z1) (max x2 z2) (max x3 z3) (max x4 z4) (max x5 z5) (max x6 z6) (max x7 z7)) ∧ Below w.heap.size w w' := by
  have hres : Try.f22.results = #[.cell 4 45] := by kernel_rfl
  have HB : Hid (Below w.heap.size w (((w.alloc (.cells #[.int .i64 x0, .int .i64 x1, .int .i64 x2, .int .i64 x3, .int .i64 x4, .int .i64 x5, .int .i64 x6, .int .i64 x7] 45)).alloc (.cells #[.int .i64 z0, .int .i64 z1, .int .i64 z2, .int .i64 z3, .int .i64 z4, .int .i64 z5, .int .i64 z6, .int .i64 z7] 45)).alloc (.cells #[.int .i64 0, .int .i64 0, .int .i64 0, .int .i64 0, .int .i64 0, .int .i64 0, .int .i64 0, .int .i64 0] 45))) := (((Below.refl _ _).alloc (Nat.le_refl _) _).alloc (by simp) _).alloc (by simp; omega) _
  have HC : Hid (∀ w', Below (((w.alloc (.cells #[.int .i64 x0, .int .i64 x1, .int .i64 x2, .int .i64 x3, .int .i64 x4, .int .i64 x5, .int .i64 x6, .int .i64 x7] 45)).alloc (.cells #[.int .i64 z0, .int .i64 z1, .int .i64 z2, .int .i64 z3, .int .i64 z4, .int .i64 z5, .int .i64 z6, .int .i64 z7] 45)).alloc (.cells #[.int .i64 0, .int .i64 0, .int .i64 0, .int .i64 0, .int .i64 0, .int .i64 0, .int .i64 0, .int .i64 0] 45)).heap.size (((w.alloc (.cells #[.int .i64 x0, .int .i64 x1, .int .i64 x2, .int .i64 x3, .int .i64 x4, .int .i64 x5, .int .i64 x6, .int .i64 x7] 45)).alloc (.cells #[.int .i64 z0, .int .i64 z1, .int .i64 z2, .int .i64 z3, .int .i64 z4, .int .i64 z5, .int .i64 z6, .int .i64 z7] 45)).alloc (.cells #[.int .i64 0, .int .i64 0, .int .i64 0, .int .i64 0, .int .i64 0, .int .i64 0, .int .i64 0, .int .i64 0] 45)) w' → w'.cell? ⟨w.heap.size, 0, none⟩ = some (.int .i64 x0) ∧ w'.cell? ⟨w.heap.size, 1, none⟩ = some (.int .i64 x1) ∧ w'.cell? ⟨w.heap.size, 2, none⟩ = some (.int .i64 x2) ∧ w'.cell? ⟨w.heap.size, 3, none⟩ = some (.int .i64 x3) ∧ w'.cell? ⟨w.heap.size, 4, none⟩ = some (.int .i64 x4) ∧ w'.cell? ⟨w.heap.size, 5, none⟩ = some (.int .i64 x5) ∧ w'.cell? ⟨w.heap.size, 6, none⟩ = some (.int .i64 x6) ∧ w'.cell? ⟨w.heap.size, 7, none⟩ = some (.int .i64 x7) ∧ w'.cell? ⟨w.heap.size + 1, 0, none⟩ = some (.int .i64 z0) ∧ w'.cell? ⟨w.heap.size + 1, 1, none⟩ = some (.int .i64 z1) ∧ w'.cell? ⟨w.heap.size + 1, 2, none⟩ = some (.int .i64 z2) ∧ w'.cell? ⟨w.heap.size + 1, 3, none⟩ = some (.int .i64 z3) ∧ w'.cell? ⟨w.heap.size + 1, 4, none⟩ = some (.int .i64 z4) ∧ w'.cell? ⟨w.heap.size + 1, 5, none⟩ = some (.int .i64 z5) ∧ w'.cell? ⟨w.heap.size + 1, 6, none⟩ = some (.int .i64 z6) ∧ w'.cell? ⟨w.heap.size + 1, 7, none⟩ = some (.int .i64 z7)) := fun w' hb => by
    refine ⟨?_, ?_, ?_, ?_, ?_, ?_, ?_, ?_, ?_, ?_, ?_, ?_, ?_, ?_, ?_, ?_⟩
    all_goals exact cells_of hb (by simp <;> omega) (by go_simp)
  have HR : Hid (∀ w', Below (((w.alloc (.cells #[.int .i64 x0, .int .i64 x1, .int .i64 x2, .int .i64 x3, .int .i64 x4, .int .i64 x5, .int .i64 x6, .int .i64 x7] 45)).alloc (.cells #[.int .i64 z0, .int .i64 z1, .int .i64 z2, .int .i64 z3, .int .i64 z4, .int .i64 z5, .int .i64 z6, .int .i64 z7] 45)).alloc (.cells #[.int .i64 0, .int .i64 0, .int .i64 0, .int .i64 0, .int .i64 0, .int .i64 0, .int .i64 0, .int .i64 0] 45)).heap.size (((w.alloc (.cells #[.int .i64 x0, .int .i64 x1, .int .i64 x2, .int .i64 x3, .int .i64 x4, .int .i64 x5, .int .i64 x6, .int .i64 x7] 45)).alloc (.cells #[.int .i64 z0, .int .i64 z1, .int .i64 z2, .int .i64 z3, .int .i64 z4, .int .i64 z5, .int .i64 z6, .int .i64 z7] 45)).alloc (.cells #[.int .i64 0, .int .i64 0, .int .i64 0, .int .i64 0, .int .i64 0, .int .i64 0, .int .i64 0, .int .i64 0] 45)) w' → w'.cell? ⟨w.heap.size + 1 + 1, 0, none⟩ = some (.int .i64 0) ∧ w'.cell? ⟨w.heap.size + 1 + 1, 1, none⟩ = some (.int .i64 0) ∧ w'.cell? ⟨w.heap.size + 1 + 1, 2, none⟩ = some (.int .i64 0) ∧ w'.cell? ⟨w.heap.size + 1 + 1, 3, none⟩ = some (.int .i64 0) ∧ w'.cell? ⟨w.heap.size + 1 + 1, 4, none⟩ = some (.int .i64 0) ∧ w'.cell? ⟨w.heap.size + 1 + 1, 5, none⟩ = some (.int .i64 0) ∧ w'.cell? ⟨w.heap.size + 1 + 1, 6, none⟩ = some (.int .i64 0) ∧ w'.cell? ⟨w.heap.size + 1 + 1, 7, none⟩ = some (.int .i64 0)) := fun w' hb => by
    refine ⟨?_, ?_, ?_, ?_, ?_, ?_, ?_, ?_⟩
    all_goals exact cells_of hb (by simp) (by go_simp)
  have HFZ : Hid (∀ w', Below (((w.alloc (.cells #[.int .i64 x0, .int .i64 x1, .int .i64 x2, .int .i64 x3, .int .i64 x4, .int .i64 x5, .int .i64 x6, .int .i64 x7] 45)).alloc (.cells #[.int .i64 z0, .int .i64 z1, .int .i64 z2, .int .i64 z3, .int .i64 z4, .int .i64 z5, .int .i64 z6, .int .i64 z7] 45)).alloc (.cells #[.int .i64 0, .int .i64 0, .int .i64 0, .int .i64 0, .int .i64 0, .int .i64 0, .int .i64 0, .int .i64 0] 45)).heap.size (((w.alloc (.cells #[.int .i64 x0, .int .i64 x1, .int .i64 x2, .int .i64 x3, .int .i64 x4, .int .i64 x5, .int .i64 x6, .int .i64 x7] 45)).alloc (.cells #[.int .i64 z0, .int .i64 z1, .int .i64 z2, .int .i64 z3, .int .i64 z4, .int .i64 z5, .int .i64 z6, .int .i64 z7] 45)).alloc (.cells #[.int .i64 0, .int .i64 0, .int .i64 0, .int .i64 0, .int .i64 0, .int .i64 0, .int .i64 0, .int .i64 0] 45)) w' → ∀ o, w'.frozen? ⟨w.heap.size + 1 + 1, o, none⟩ = false) := fun w' hb o => (hb.frozen (p := ⟨w.heap.size + 1 + 1, o, none⟩) (by simp)).trans (by go_simp)
  have hz : w.heap.size + 1 + 1 < (((w.alloc (.cells #[.int .i64 x0, .int .i64 x1, .int .i64 x2, .int .i64 x3, .int .i64 x4, .int .i64 x5, .int .i64 x6, .int .i64 x7] 45)).alloc (.cells #[.int .i64 z0, .int .i64 z1, .int .i64 z2, .int .i64 z3, .int .i64 z4, .int .i64 z5, .int .i64 z6, .int .i64 z7] 45)).alloc (.cells #[.int .i64 0, .int .i64 0, .int .i64 0, .int .i64 0, .int .i64 0, .int .i64 0, .int .i64 0, .int .i64 0] 45)).heap.size := by simp
  go_enter Try.func22, Try.ntmps22
  go_wp2_with fail
  generalize (((w.alloc (.cells #[.int .i64 x0, .int .i64 x1, .int .i64 x2, .int .i64 x3, .int .i64 x4, .int .i64 x5, .int .i64 x6, .int .i64 x7] 45)).alloc (.cells #[.int .i64 z0, .int .i64 z1, .int .i64 z2, .int .i64 z3, .int .i64 z4, .int .i64 z5, .int .i64 z6, .int .i64 z7] 45)).alloc (.cells #[.int .i64 0, .int .i64 0, .int .i64 0, .int .i64 0, .int .i64 0, .int .i64 0, .int .i64 0, .int .i64 0] 45)) = W at *
  refine wp_region_slots 11 [[(2, false)], [(5, true)], [(3, false)], [(7, true)], [(6, true), (8, true)], [(2, false)], [(10, true)], [(3, false)], [(12, true)], [(11, true), (13, true)], [(9, true), (14, true)]] (fun w' => Below W.heap.size W w') (fun w w' => Below w.heap.size w w') (by kernel_rfl) (by kernel_rfl) (by rfl) (Below.refl _ _).drew (fun _ _ h hb => below_step h h.size hb) ?_
  iterate 4 (apply slot_eq; · (intro ρ w' ⟨p1, p2, p3⟩ hS hn; obtain ⟨a0, a1, a2, a3, a4, a5, a6, a7, b0, b1, b2, b3, b4, b5, b6, b7⟩ := HC.out w' hS; simp at hn; go_simp; exact ⟨Below.refl _ _, rfl⟩))
  apply slot_eq
  · intro ρ w' ⟨p1, p2, p3⟩ hS hn
    simp at hn
    go_simp
    exact got_call (tkJoin_any _ _ _ _ _ _ _ _ w') fun e w'' ⟨he, hb⟩ => ⟨_, he, hb, rfl⟩
  iterate 4 (apply slot_eq; · (intro ρ w' ⟨p1, p2, p3⟩ hS hn; obtain ⟨a0, a1, a2, a3, a4, a5, a6, a7, b0, b1, b2, b3, b4, b5, b6, b7⟩ := HC.out w' hS; simp at hn; go_simp; exact ⟨Below.refl _ _, rfl⟩))
  apply slot_eq
  · intro ρ w' ⟨p1, p2, p3⟩ hS hn
    simp at hn
    go_simp
    exact got_call (tkJoin_any _ _ _ _ _ _ _ _ w') fun e w'' ⟨he, hb⟩ => ⟨_, he, hb, rfl⟩
  apply slot_eq
  · intro ρ w' ⟨p1, p2, p3⟩ hS hn
    simp at hn
    go_simp
    exact ⟨Below.refl _ _, rfl⟩
  refine slot_end ?_
  rintro vs u hS hF
  simp at hF
  obtain ⟨e10, e9, e8, e7, e6, e5, e4, e3, e2, e1, e0⟩ := hF
  simp only [List.take_succ_cons, List.take_zero, List.drop_succ_cons, List.drop_zero, putAll, e0, e1, e2, e3, e4, e5, e6, e7, e8, e9, e10]
  clear e0 e1 e2 e3 e4 e5 e6 e7 e8 e9 e10
  simp only [Act.put, List.setIfInBounds_toArray, List.set_cons_succ, List.set_cons_zero]
  have HBU := Lib.hid (below_step HB.out HB.out.size hS)
  have hzu : w.heap.size + 1 + 1 < u.heap.size := Nat.lt_of_lt_of_le hz hS.size
  obtain ⟨r0, r1, r2, r3, r4, r5, r6, r7⟩ := HR.out u hS
  have hfz := HFZ.out u hS
  clear hS HC HR HB hz HFZ
  go_wp2
  refine bodyPost_ret (v := taV (max x0 z0) (max x1 z1) (max x2 z2) (max x3 z3) (max x4 z4) (max x5 z5) (max x6 z6) (max x7 z7)) ?_ rfl ?_
  · simp only [results, hres]
    go_simp
  · exact ⟨rfl, low8 HBU.out (b := w.heap.size + 1 + 1) (by omega) (.int .i64 (max x0 z0)) (.int .i64 (max x1 z1)) (.int .i64 (max x2 z2)) (.int .i64 (max x3 z3)) (.int .i64 (max x4 z4)) (.int .i64 (max x5 z5)) (.int .i64 (max x6 z6)) (.int .i64 (max x7 z7))⟩

def sum4 (x0 x1 x2 x3 : Int) : Int := x0 + x1 + x2 + x3

set_option maxRecDepth 100000 in
set_option maxHeartbeats 4000000 in
theorem pSum_any (x0 x1 x2 x3 : Int) (w : World) (h0 : 0 ≤ x0 ∧ x0 ≤ 1000000000) (h1 : 0 ≤ x1 ∧ x1 ≤ 1000000000) (h2 : 0 ≤ x2 ∧ x2 ≤ 1000000000) (h3 : 0 ≤ x3 ∧ x3 ≤ 1000000000) :
    Calls Try.prog 39 #[tkV x0 x1 x2 x3] w fun e w' => e = .returned (.int .i64 (sum4 x0 x1 x2 x3)) ∧ Below w.heap.size w w' := by
  obtain ⟨a0, b0⟩ := h0
  obtain ⟨a1, b1⟩ := h1
  obtain ⟨a2, b2⟩ := h2
  obtain ⟨a3, b3⟩ := h3
  have i0 : ∀ w, (Instr.index 43 (.agg #[.int .i64 x0, .int .i64 x1, .int .i64 x2, .int .i64 x3]) (.int .i64 0)).run Try.prog w = .ok (.int .i64 x0) w := run_tk [_, _, _, _] _ rfl (q := 0) rfl
  have i1 : ∀ w, (Instr.index 43 (.agg #[.int .i64 x0, .int .i64 x1, .int .i64 x2, .int .i64 x3]) (.int .i64 1)).run Try.prog w = .ok (.int .i64 x1) w := run_tk [_, _, _, _] _ rfl (q := 1) rfl
  have i2 : ∀ w, (Instr.index 43 (.agg #[.int .i64 x0, .int .i64 x1, .int .i64 x2, .int .i64 x3]) (.int .i64 2)).run Try.prog w = .ok (.int .i64 x2) w := run_tk [_, _, _, _] _ rfl (q := 2) rfl
  have i3 : ∀ w, (Instr.index 43 (.agg #[.int .i64 x0, .int .i64 x1, .int .i64 x2, .int .i64 x3]) (.int .i64 3)).run Try.prog w = .ok (.int .i64 x3) w := run_tk [_, _, _, _] _ rfl (q := 3) rfl
  go_enter Try.func39, Try.ntmps39
  go_wp2
  refine wp_loop_rounds 5 ?_
  rw [rounds_succ]
  go_wp2
  rw [rounds_succ]
  go_wp2
  rw [rounds_succ]
  go_wp2
  rw [rounds_succ]
  go_wp2
  rw [rounds_succ]
  go_wp2
  go_ret
  exact ⟨rfl, (Below.refl _ _).alloc (Nat.le_refl _) _⟩

end Go.Proofs.Ytaopkoamjfmhhaa
