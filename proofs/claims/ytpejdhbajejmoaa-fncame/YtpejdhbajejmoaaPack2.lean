import Derived.Test.YtpejdhbajejmoaaPack1
import Derived.Laws.Cover3
import Derived.BigQuiet
import Derived.LoopN
import Derived.Lib.MinMax
/- Vectors: which are VecOk; the contracts of VecOk of both sides, of the program's ticksOf, and of the laws' szVec, toVec, eqVec. -/
namespace Go.Proofs.Ytpejdhbajejmoaa
open Go.ChangeShapes Go.WideShapes Go.ChangeAt Go.RowKit Go.Joins
attribute [local go_sem ↓] Go.wp_at_zero Go.wp_at_succ

abbrev vecV (a : Option Addr) (n cap : Nat) : Value := .agg #[.slice a n cap]

abbrev tkV (x0 x1 x2 x3 : Int) : Value := .agg #[.int .i64 x0, .int .i64 x1, .int .i64 x2, .int .i64 x3]

/-- Four numbers, all in 0 .. m. -/
def perB (m : Int) (zs : List Int) : Bool := decide (zs.length = 4) && zs.all fun z => btw z 0 m

def okT (z : Int) : Bool := btw z 0 1000000

def vecB (zs : List Int) : Bool := perB 1000000 zs

theorem okT_iff (z : Int) : okT z = true ↔ 0 ≤ z ∧ z ≤ 1000000 := by
  unfold okT btw
  simp

theorem perB_four {m : Int} {zs : List Int} (h : perB m zs = true) : ∃ x0 x1 x2 x3, zs = [x0, x1, x2, x3] ∧ (0 ≤ x0 ∧ x0 ≤ m) ∧ (0 ≤ x1 ∧ x1 ≤ m) ∧ (0 ≤ x2 ∧ x2 ≤ m) ∧ (0 ≤ x3 ∧ x3 ≤ m) := by
  unfold perB at h
  rw [Bool.and_eq_true, decide_eq_true_iff] at h
  obtain ⟨hl, ha⟩ := h
  match zs, hl, ha with
  | [x0, x1, x2, x3], _, ha =>
    simp only [List.all_cons, List.all_nil, Bool.and_true, Bool.and_eq_true, btw, decide_eq_true_iff] at ha
    exact ⟨x0, x1, x2, x3, rfl, ha⟩

theorem vecB_four {zs : List Int} (h : vecB zs = true) : ∃ x0 x1 x2 x3, zs = [x0, x1, x2, x3] ∧ (0 ≤ x0 ∧ x0 ≤ 1000000) ∧ (0 ≤ x1 ∧ x1 ≤ 1000000) ∧ (0 ≤ x2 ∧ x2 ≤ 1000000) ∧ (0 ≤ x3 ∧ x3 ≤ 1000000) := perB_four h

theorem perB_is (m x0 x1 x2 x3 : Int) : perB m [x0, x1, x2, x3] = true ↔ (0 ≤ x0 ∧ x0 ≤ m) ∧ (0 ≤ x1 ∧ x1 ≤ m) ∧ (0 ≤ x2 ∧ x2 ≤ m) ∧ (0 ≤ x3 ∧ x3 ≤ m) := by
  unfold perB
  simp only [List.length_cons, List.length_nil, List.all_cons, List.all_nil, Bool.and_true, Bool.and_eq_true, btw, decide_eq_true_iff]
  simp

theorem vecB_is (x0 x1 x2 x3 : Int) : vecB [x0, x1, x2, x3] = true ↔ (0 ≤ x0 ∧ x0 ≤ 1000000) ∧ (0 ≤ x1 ∧ x1 ≤ 1000000) ∧ (0 ≤ x2 ∧ x2 ≤ 1000000) ∧ (0 ≤ x3 ∧ x3 ≤ 1000000) := perB_is _ _ _ _ _

theorem perB_len {m : Int} {zs : List Int} (h : zs.length ≠ 4) : perB m zs = false := by
  unfold perB
  rw [decide_eq_false h, Bool.false_and]

theorem vecB_len {zs : List Int} (h : zs.length ≠ 4) : vecB zs = false := perB_len h

theorem perB_bad {m : Int} {zs : List Int} {k : Nat} (hk : k < zs.length) (h : btw (zs.getD k 0) 0 m = false) : perB m zs = false := by
  unfold perB
  have : zs.all (fun z => btw z 0 m) = false := List.all_eq_false.2 ⟨zs.getD k 0, by simp [List.getD, hk], by rw [h]; simp⟩
  rw [this, Bool.and_false]

theorem vecB_bad {zs : List Int} {k : Nat} (hk : k < zs.length) (h : okT (zs.getD k 0) = false) : vecB zs = false := perB_bad hk h

theorem perB_good {m : Int} {zs : List Int} (hl : zs.length = 4) (h : ∀ k, k < 4 → btw (zs.getD k 0) 0 m = true) : perB m zs = true := by
  unfold perB
  rw [decide_eq_true hl, Bool.true_and, List.all_eq_true]
  intro z hz
  obtain ⟨i, hi, rfl⟩ := List.getElem_of_mem hz
  have := h i (by omega)
  simpa [List.getD, hi] using this

theorem vecB_good {zs : List Int} (hl : zs.length = 4) (h : ∀ k, k < 4 → okT (zs.getD k 0) = true) : vecB zs = true := perB_good hl h

theorem perB_next {m : Int} {zs : List Int} {k : Nat} (h : ∀ j, j < k → btw (zs.getD j 0) 0 m = true) (hk : btw (zs.getD k 0) 0 m = true) : ∀ j, j < k + 1 → btw (zs.getD j 0) 0 m = true := fun j hj => by
  by_cases h' : j < k
  · exact h j h'
  · have : j = k := by omega
    rw [this]
    exact hk

theorem okT_next {zs : List Int} {k : Nat} (h : ∀ j, j < k → okT (zs.getD j 0) = true) (hk : okT (zs.getD k 0) = true) : ∀ j, j < k + 1 → okT (zs.getD j 0) = true := perB_next h hk

set_option maxRecDepth 100000 in
theorem inRangeM (m n : Int) (v : Bool) (h : btw n 0 m = v) (w : World) :
    Calls Try.prog 32 #[.int .i64 n, .int .i64 0, .int .i64 m] w fun e w' => e = .returned (.bool v) ∧ w' = w := by
  rw [← h]
  exact inRange_any n 0 m w

set_option maxRecDepth 100000 in
theorem betweenT (n : Int) (v : Bool) (h : okT n = v) (w : World) :
    Calls Try.prog 34 #[.int .i64 n, .int .i64 0, .int .i64 1000000] w fun e w' => e = .returned (.bool v) ∧ w' = w := by
  rw [← h]
  exact between_any n 0 1000000 w

set_option maxRecDepth 100000 in
set_option maxHeartbeats 2000000 in
theorem specVecOk_any (a : Option Addr) (n cap : Nat) (zs : List Int) (w : World) (hl : zs.length = n) (hn : n ≤ maxLen) (hh : IsIs w a zs) :
    Calls Try.prog 29 #[vecV a n cap] w fun e w' => e = .returned (.bool (vecB zs)) ∧ Below w.heap.size w w' := by
  have HH : Hid (IsIs w a zs) := hh
  have HN : Hid (zs.length = n) := hl
  have HB : Hid (Below w.heap.size w (w.alloc (.cells #[.slice a n cap] 28))) := (Below.refl _ _).alloc (Nat.le_refl _) _
  clear hh hl
  by_cases h4 : n = 4
  · subst h4
    go_enter Try.func29, Try.ntmps29
    go_wp2
    go_loopw [3] (fun i wr => ∃ k : Nat, k ≤ 4 ∧ i = .int .i64 k ∧ Hid (∀ j, j < k → okT (zs.getD j 0) = true) ∧ wr = w.alloc (.cells #[.slice a 4 cap] 28)) (fun i _ => 4 - (intOf i).toNat)
    case atStart => exact ⟨0, Nat.zero_le _, rfl, fun j hj => by omega, rfl⟩
    case round =>
      obtain ⟨k, hk, rfl, HG, rfl⟩ := hrel
      by_cases hk' : k < 4
      · have hkz : k < zs.length := by rw [HN.out]; exact hk'
        obtain ⟨b, o, rfl, hz, e0⟩ := HH.out.at (Below.refl _ _) hkz
        have hz : b < w.heap.size := hz
        have i1 : (0 : Int) ≤ (k : Int) := by omega
        have i2 : (k : Int) < 4 := by omega
        clear HH
        cases h1 : okT (zs.getD k 0)
        · have HF : Hid (vecB zs = false) := vecB_bad hkz h1
          generalize zs.getD k 0 = x at *
          go_wp2_with (go_at_call 34; refine (betweenT _ false h1 _).mono ?_; rintro e w' ⟨rfl, rfl⟩)
          go_ret
          exact ⟨ret_bool HF.out.symm, HB.out⟩
        · have HG2 : Hid (∀ j, j < k + 1 → okT (zs.getD j 0) = true) := okT_next HG.out h1
          generalize zs.getD k 0 = x at *
          go_wp2_with (go_at_call 34; refine (betweenT _ true h1 _).mono ?_; rintro e w' ⟨rfl, rfl⟩)
          exact ⟨⟨k + 1, by omega, by go_num, HG2, trivial⟩, by simp [intOf]; omega⟩
      · have hkk : k = 4 := by omega
        subst hkk
        have HF : Hid (vecB zs = true) := vecB_good HN.out HG.out
        go_wp2
        go_ret
        exact ⟨ret_bool HF.out.symm, HB.out⟩
  · have HF : Hid (vecB zs = false) := vecB_len (by rw [HN.out]; exact h4)
    have h4' : ¬ (n : Int) = 4 := by omega
    go_enter Try.func29, Try.ntmps29
    go_wp2
    go_ret
    exact ⟨ret_bool HF.out.symm, HB.out⟩

set_option maxRecDepth 100000 in
set_option maxHeartbeats 2000000 in
theorem perSiteOf_any (m : Int) (a : Option Addr) (n cap : Nat) (zs : List Int) (w : World) (hl : zs.length = n) (hn : n ≤ maxLen) (hh : IsIs w a zs) :
    Calls Try.prog 31 #[.slice a n cap, .int .i64 m] w fun e w' => (∃ x0 x1 x2 x3, e = .returned (.tuple #[tkV x0 x1 x2 x3, .bool (perB m zs)]) ∧ (perB m zs = true → zs = [x0, x1, x2, x3])) ∧ Below w.heap.size w w' := by
  have HH : Hid (IsIs w a zs) := hh
  have HN : Hid (zs.length = n) := hl
  have hres : Try.f31.results = #[.cell 4 44, .tmp 5] := by kernel_rfl
  clear hh hl
  by_cases h4 : n = 4
  · subst h4
    have HB : Hid (Below w.heap.size w (w.alloc (.cells #[.int .i64 0, .int .i64 0, .int .i64 0, .int .i64 0] 44))) := (Below.refl _ _).alloc (Nat.le_refl _) _
    go_enter Try.func31, Try.ntmps31
    go_wp2
    go_loopw [14] (fun i wr => ∃ k : Nat, k ≤ 4 ∧ i = .int .i64 k ∧ Hid (∀ j, j < k → btw (zs.getD j 0) 0 m = true) ∧ wr = w.alloc (.cells #[.int .i64 0, .int .i64 0, .int .i64 0, .int .i64 0] 44)) (fun i _ => 4 - (intOf i).toNat)
    case atStart => exact ⟨0, Nat.zero_le _, rfl, fun j hj => by omega, rfl⟩
    case round =>
      obtain ⟨k, hk, rfl, HG, rfl⟩ := hrel
      by_cases hk' : k < 4
      · have hkz : k < zs.length := by rw [HN.out]; exact hk'
        obtain ⟨b, o, rfl, hz, e0⟩ := HH.out.at (Below.refl _ _) hkz
        have i1 : (0 : Int) ≤ (k : Int) := by omega
        have i2 : (k : Int) < 4 := by omega
        clear HH
        cases h1 : btw (zs.getD k 0) 0 m
        · have HF : Hid (perB m zs = false) := perB_bad hkz h1
          generalize zs.getD k 0 = x at *
          go_wp2_with (go_at_call 32; refine (inRangeM m _ false h1 _).mono ?_; rintro e w' ⟨rfl, rfl⟩)
          refine bodyPost_ret (v := .tuple #[tkV 0 0 0 0, .bool false]) (by simp only [results, hres]; go_simp) rfl ⟨⟨0, 0, 0, 0, by rw [HF.out], fun h => by rw [HF.out] at h; cases h⟩, HB.out⟩
        · have HG2 : Hid (∀ j, j < k + 1 → btw (zs.getD j 0) 0 m = true) := perB_next HG.out h1
          generalize zs.getD k 0 = x at *
          go_wp2_with (go_at_call 32; refine (inRangeM m _ true h1 _).mono ?_; rintro e w' ⟨rfl, rfl⟩)
          exact ⟨⟨k + 1, by omega, by go_num, HG2, trivial⟩, by simp [intOf]; omega⟩
      · have hkk : k = 4 := by omega
        subst hkk
        have hF : perB m zs = true := perB_good HN.out HG.out
        obtain ⟨x0, x1, x2, x3, rfl, -⟩ := perB_four hF
        have HF := Lib.hid hF
        obtain ⟨b, o, rfl, hz, e0⟩ := HH.out.at (Below.refl _ _) (k := 0) (by simp)
        obtain ⟨_, _, he, -, e1⟩ := HH.out.at (Below.refl _ _) (k := 1) (by simp)
        injection he with he
        injection he with he1 he2
        subst he1
        subst he2
        obtain ⟨_, _, he, -, e2⟩ := HH.out.at (Below.refl _ _) (k := 2) (by simp)
        injection he with he
        injection he with he1 he2
        subst he1
        subst he2
        obtain ⟨_, _, he, -, e3⟩ := HH.out.at (Below.refl _ _) (k := 3) (by simp)
        injection he with he
        injection he with he1 he2
        subst he1
        subst he2
        simp only [Nat.add_zero, List.getD_cons_zero, List.getD_cons_succ] at e0 e1 e2 e3
        have hat : ∀ w, (Instr.arrayAt 44 (.slice (some ⟨b, o, none⟩) 4 cap)).run Try.prog w = .ok (.pointer (some ⟨b, o, none⟩)) w := fun w => run_arrayAt w 44 _ 4 _ 4 cap Try.underlying44 (Nat.le_refl _)
        clear hF HH
        go_wp2_with (simp only [hat])
        refine bodyPost_ret (v := .tuple #[tkV x0 x1 x2 x3, .bool true]) (by simp only [results, hres]; go_simp) rfl ⟨⟨x0, x1, x2, x3, by rw [HF.out], fun _ => ⟨rfl, rfl, rfl, rfl⟩⟩, (Below.refl _ _).alloc (Nat.le_refl _) _⟩
  · have HF : Hid (perB m zs = false) := perB_len (by rw [HN.out]; exact h4)
    have h4' : ¬ (n : Int) = 4 := by omega
    go_enter Try.func31, Try.ntmps31
    go_wp2
    refine bodyPost_ret (v := .tuple #[tkV 0 0 0 0, .bool false]) (by simp only [results, hres]; go_simp) rfl ⟨⟨0, 0, 0, 0, by rw [HF.out], fun h => by rw [HF.out] at h; cases h⟩, (Below.refl _ _).alloc (Nat.le_refl _) _⟩

theorem low4 {w w' : World} {B b : Nat} (h : Below B w w') (hb : B ≤ b) (v0 v1 v2 v3 : Value) : Below B w ((((w'.setCell ⟨b, 0, none⟩ v0).setCell ⟨b, 1, none⟩ v1).setCell ⟨b, 2, none⟩ v2).setCell ⟨b, 3, none⟩ v3) :=
  (((h.setCell (p := ⟨b, 0, none⟩) hb _).setCell (p := ⟨b, 1, none⟩) hb _).setCell (p := ⟨b, 2, none⟩) hb _).setCell (p := ⟨b, 3, none⟩) hb _

set_option maxRecDepth 100000 in
theorem ticksOf_any (a : Option Addr) (n cap : Nat) (zs : List Int) (w : World) (hl : zs.length = n) (hn : n ≤ maxLen) (hh : IsIs w a zs) :
    Calls Try.prog 20 #[.slice a n cap] w fun e w' => (∃ x0 x1 x2 x3, e = .returned (.tuple #[tkV x0 x1 x2 x3, .bool (vecB zs)]) ∧ (vecB zs = true → zs = [x0, x1, x2, x3])) ∧ Below w.heap.size w w' := by
  have hres : Try.f20.results = #[.cell 2 44, .tmp 3] := by kernel_rfl
  have HB0 : Hid (Below w.heap.size w (w.alloc (.cells #[.int .i64 0, .int .i64 0, .int .i64 0, .int .i64 0] 44))) := (Below.refl _ _).alloc (Nat.le_refl _) _
  have HH := Lib.hid (hh.below HB0.out)
  clear hh
  go_enter Try.func20, Try.ntmps20
  go_wp2_with fail
  refine (perSiteOf_any 1000000 a n cap zs _ hl hn HH.out).mono ?_
  rintro e w1 ⟨⟨x0, x1, x2, x3, rfl, hx⟩, hb⟩
  have HX := Lib.hid hx
  have HB := Lib.hid (below_step HB0.out HB0.out.size hb)
  obtain ⟨hc, hf⟩ := bcell hb
  have hz : w.heap.size < w1.heap.size := by have := hb.size; simp at this; omega
  clear hx hb
  have HZ : Hid (perB 1000000 zs = vecB zs) := Lib.hid rfl
  rw [HZ.out] at HX
  rw [HZ.out]
  clear HZ
  obtain ⟨v, HV⟩ : ∃ v, Hid (vecB zs = v) := ⟨_, Lib.hid rfl⟩
  rw [HV.out]
  go_wp2
  refine bodyPost_ret (v := .tuple #[tkV x0 x1 x2 x3, .bool v]) (by simp only [results, hres]; go_simp) rfl ⟨⟨x0, x1, x2, x3, by rw [HV.out], HX.out⟩, ?_⟩
  exact low4 HB.out (Nat.le_refl _) _ _ _ _

theorem OwnI.aside {w : World} {lo hi : Nat} {a : Option Addr} {zs : List Int} {p : Addr} (h : OwnI w lo hi a zs) (hp : p.block < lo) (v : Value) : OwnI (w.setCell p v) lo hi a zs := by
  rcases h with h | ⟨b, ha, h1, h2, hlt, hh, hf⟩
  · exact .inl h
  · refine .inr ⟨b, ha, h1, h2, by simpa using hlt, fun i hi => (World.cell?_setCell_other _ _ _ _ (fun e => ?_)).trans (hh i hi), fun o => by rw [World.frozen?_setCell]; exact hf o⟩
    have : p.block = b := by rw [e]
    omega

theorem OwnI.wider {w : World} {lo hi lo' hi' : Nat} {a : Option Addr} {zs : List Int} (h : OwnI w lo hi a zs) (hl : lo' ≤ lo) (hh : hi ≤ hi') : OwnI w lo' hi' a zs := by
  rcases h with h | ⟨b, ha, h1, h2, hlt, hh', hf⟩
  · exact .inl h
  · exact .inr ⟨b, ha, by omega, by omega, hlt, hh', hf⟩

theorem OwnI.isIs {w : World} {lo hi : Nat} {a : Option Addr} {zs : List Int} (h : OwnI w lo hi a zs) : IsIs w a zs := h.isInts.isIs

end Go.Proofs.Ytpejdhbajejmoaa

/- Arrays of four numbers of the program: contracts of join, list, tick, lets; the comparison of two as a whole. -/
namespace Go.Proofs.Ytpejdhbajejmoaa
open Go.ChangeShapes Go.WideShapes Go.ChangeAt Go.RowKit Go.Joins
attribute [local go_sem ↓] Go.wp_at_zero Go.wp_at_succ

theorem run_tk (zs : List Value) (v : Value) (hl : zs.length = 4) {q : Nat} (h : zs[q]? = some v) (w : World) : (Instr.index 44 (.agg zs.toArray) (.int .i64 (q : Int))).run Try.prog w = .ok v w := by
  have hq : q < 4 := by rw [← hl]; exact (List.getElem?_eq_some_iff.1 h).1
  simp [Instr.index, go_sem, Go.part, Try.isAgg3, Try.sizeOf3, hl, hq]
  exact (List.getElem?_eq_some_iff.1 h).2

set_option maxRecDepth 100000 in
set_option maxHeartbeats 4000000 in
theorem tkJoin_any (x0 x1 x2 x3 y0 y1 y2 y3 : Int) (w : World) :
    Calls Try.prog 17 #[tkV x0 x1 x2 x3, tkV y0 y1 y2 y3] w fun e w' => e = .returned (tkV (max x0 y0) (max x1 y1) (max x2 y2) (max x3 y3)) ∧ Below w.heap.size w w' := by
  have hres : Try.f17.results = #[.cell 4 44] := by kernel_rfl
  have i0 : ∀ w, (Instr.index 44 (.agg #[.int .i64 y0, .int .i64 y1, .int .i64 y2, .int .i64 y3]) (.int .i64 0)).run Try.prog w = .ok (.int .i64 y0) w := run_tk [_, _, _, _] _ rfl (q := 0) rfl
  have i1 : ∀ w, (Instr.index 44 (.agg #[.int .i64 y0, .int .i64 y1, .int .i64 y2, .int .i64 y3]) (.int .i64 1)).run Try.prog w = .ok (.int .i64 y1) w := run_tk [_, _, _, _] _ rfl (q := 1) rfl
  have i2 : ∀ w, (Instr.index 44 (.agg #[.int .i64 y0, .int .i64 y1, .int .i64 y2, .int .i64 y3]) (.int .i64 2)).run Try.prog w = .ok (.int .i64 y2) w := run_tk [_, _, _, _] _ rfl (q := 2) rfl
  have i3 : ∀ w, (Instr.index 44 (.agg #[.int .i64 y0, .int .i64 y1, .int .i64 y2, .int .i64 y3]) (.int .i64 3)).run Try.prog w = .ok (.int .i64 y3) w := run_tk [_, _, _, _] _ rfl (q := 3) rfl
  go_enter Try.func17, Try.ntmps17
  go_wp2
  refine wp_loop_rounds 5 ?_
  rw [rounds_succ]
  go_wp2
  rw [rounds_succ]
  go_wp2
  rw [rounds_succ]
  go_wp2
  rw [rounds_succ]
  go_wp2
  rw [rounds_succ]
  go_wp2
  refine bodyPost_ret (v := tkV (max x0 y0) (max x1 y1) (max x2 y2) (max x3 y3)) (by simp only [results, hres]; go_simp) rfl ⟨rfl, ?_⟩
  exact ((((Below.refl _ _).alloc (Nat.le_refl _) _).alloc (by simp) _).alloc (by simp; omega) _)

set_option maxRecDepth 100000 in
theorem tkList_any (x0 x1 x2 x3 : Int) (w : World) :
    Calls Try.prog 16 #[tkV x0 x1 x2 x3] w fun e w' => e = .returned (.slice (some ⟨w.heap.size, 0, none⟩) 4 4) ∧ w' = w.alloc (.cells #[.int .i64 x0, .int .i64 x1, .int .i64 x2, .int .i64 x3] 44) := by
  go_enter Try.func16, Try.ntmps16
  go_wp2
  go_ret
  exact ⟨rfl, rfl⟩

def tkP (x n : Int) (i q : Nat) : Int := if i = q then x + n else x

def tk1 (x : Int) (i q : Nat) : Int := if i = q then x + 1 else x

set_option maxRecDepth 100000 in
set_option maxHeartbeats 4000000 in
theorem tkPlus_any (x0 x1 x2 x3 n : Int) (q : Nat) (hq : q < 4) (h0 : 0 ≤ x0 ∧ x0 ≤ 1000000000) (h1 : 0 ≤ x1 ∧ x1 ≤ 1000000000) (h2 : 0 ≤ x2 ∧ x2 ≤ 1000000000) (h3 : 0 ≤ x3 ∧ x3 ≤ 1000000000) (hn : 0 ≤ n ∧ n ≤ 1000000000) (w : World) :
    Calls Try.prog 33 #[tkV x0 x1 x2 x3, .int .i64 (q : Int), .int .i64 n] w fun e w' => e = .returned (tkV (tkP x0 n 0 q) (tkP x1 n 1 q) (tkP x2 n 2 q) (tkP x3 n 3 q)) ∧ Below w.heap.size w w' := by
  have hres : Try.f33.results = #[.cell 6 44] := by kernel_rfl
  obtain ⟨a0, b0⟩ := h0
  obtain ⟨a1, b1⟩ := h1
  obtain ⟨a2, b2⟩ := h2
  obtain ⟨a3, b3⟩ := h3
  obtain ⟨an, bn⟩ := hn
  match q, hq with
  | 0, _ =>
    show Calls Try.prog 33 #[tkV x0 x1 x2 x3, .int .i64 0, .int .i64 n] w fun e w' => e = .returned (tkV (x0 + n) x1 x2 x3) ∧ Below w.heap.size w w'
    go_enter Try.func33, Try.ntmps33
    go_wp2
    refine bodyPost_ret (v := tkV (x0 + n) x1 x2 x3) (by simp only [results, hres]; go_simp) rfl ⟨rfl, ?_⟩
    exact ((Below.refl _ _).alloc (Nat.le_refl _) _).alloc (by simp) _
  | 1, _ =>
    show Calls Try.prog 33 #[tkV x0 x1 x2 x3, .int .i64 1, .int .i64 n] w fun e w' => e = .returned (tkV x0 (x1 + n) x2 x3) ∧ Below w.heap.size w w'
    go_enter Try.func33, Try.ntmps33
    go_wp2
    refine bodyPost_ret (v := tkV x0 (x1 + n) x2 x3) (by simp only [results, hres]; go_simp) rfl ⟨rfl, ?_⟩
    exact ((Below.refl _ _).alloc (Nat.le_refl _) _).alloc (by simp) _
  | 2, _ =>
    show Calls Try.prog 33 #[tkV x0 x1 x2 x3, .int .i64 2, .int .i64 n] w fun e w' => e = .returned (tkV x0 x1 (x2 + n) x3) ∧ Below w.heap.size w w'
    go_enter Try.func33, Try.ntmps33
    go_wp2
    refine bodyPost_ret (v := tkV x0 x1 (x2 + n) x3) (by simp only [results, hres]; go_simp) rfl ⟨rfl, ?_⟩
    exact ((Below.refl _ _).alloc (Nat.le_refl _) _).alloc (by simp) _
  | 3, _ =>
    show Calls Try.prog 33 #[tkV x0 x1 x2 x3, .int .i64 3, .int .i64 n] w fun e w' => e = .returned (tkV x0 x1 x2 (x3 + n)) ∧ Below w.heap.size w w'
    go_enter Try.func33, Try.ntmps33
    go_wp2
    refine bodyPost_ret (v := tkV x0 x1 x2 (x3 + n)) (by simp only [results, hres]; go_simp) rfl ⟨rfl, ?_⟩
    exact ((Below.refl _ _).alloc (Nat.le_refl _) _).alloc (by simp) _

set_option maxRecDepth 100000 in
theorem tkTick_any (x0 x1 x2 x3 : Int) (q : Nat) (hq : q < 4) (h0 : 0 ≤ x0 ∧ x0 ≤ 1000000) (h1 : 0 ≤ x1 ∧ x1 ≤ 1000000) (h2 : 0 ≤ x2 ∧ x2 ≤ 1000000) (h3 : 0 ≤ x3 ∧ x3 ≤ 1000000) (w : World) :
    Calls Try.prog 33 #[tkV x0 x1 x2 x3, .int .i64 (q : Int), .int .i64 1] w fun e w' => e = .returned (tkV (tk1 x0 0 q) (tk1 x1 1 q) (tk1 x2 2 q) (tk1 x3 3 q)) ∧ Below w.heap.size w w' :=
  tkPlus_any x0 x1 x2 x3 1 q hq (by omega) (by omega) (by omega) (by omega) (by omega) w

set_option maxRecDepth 100000 in
theorem eql_tk (d : Nat) (w : World) (x0 x1 x2 x3 y0 y1 y2 y3 : Int) : (Op.equalIn (d + 2) 44 (tkV x0 x1 x2 x3) (tkV y0 y1 y2 y3)).run Try.prog w = .ok (decide (x0 = y0 ∧ x1 = y1 ∧ x2 = y2 ∧ x3 = y3)) w := by
  have hq : ∀ x y w, (Op.equalIn (d + 1) 3 (.int .i64 x) (.int .i64 y)).run Try.prog w = .ok (x == y) w := fun x y w => run_equalIn_int w d 3 .i64 .i64 x y Try.underlying3
  rw [Op.equalIn]
  simp only [Sem.run_bind, run_underlying Try.underlying44, Result.andThen_ok, Try.sizeOf3]
  rw [Std.Legacy.Range.forIn_eq_forIn_range']
  have hr : List.range' [:4].start [:4].size [:4].step = [0, 1, 2, 3] := rfl
  rw [hr]
  have hp : ∀ (z0 z1 z2 z3 : Int) (i : Nat) (z : Int), ([z0, z1, z2, z3] : List Int)[i]? = some z → ∀ w, (part 3 #[.int .i64 z0, .int .i64 z1, .int .i64 z2, .int .i64 z3] i).run Try.prog w = .ok (.int .i64 z) w := by
    intro z0 z1 z2 z3 i z hz w
    match i, hz with
    | 0, hz | 1, hz | 2, hz | 3, hz =>
      simp at hz
      subst hz
      simp [part, Try.isAgg3, Sem.run_bind]
  have p0 := fun z0 z1 z2 z3 w => hp z0 z1 z2 z3 0 _ rfl w
  have p1 := fun z0 z1 z2 z3 w => hp z0 z1 z2 z3 1 _ rfl w
  have p2 := fun z0 z1 z2 z3 w => hp z0 z1 z2 z3 2 _ rfl w
  have p3 := fun z0 z1 z2 z3 w => hp z0 z1 z2 z3 3 _ rfl w
  clear hp hr
  simp only [List.forIn_cons, List.forIn_nil, Sem.run_bind, Nat.mul_one, p0, hq, Result.andThen_ok]
  by_cases h0 : x0 = y0
  · by_cases h1 : x1 = y1
    · by_cases h2 : x2 = y2
      · by_cases h3 : x3 = y3
        · simp [h0, h1, h2, h3, p1, p2, p3, hq]
        · simp [h0, h1, h2, h3, p1, p2, p3, hq]
      · simp [h0, h1, h2, p1, p2, p3, hq]
    · simp [h0, h1, p1, p2, p3, hq]
  · simp [h0]

def letsB (x0 x1 x2 x3 y0 y1 y2 y3 : Int) (q : Nat) : Bool := decide (max x0 y0 = tk1 x0 0 q ∧ max x1 y1 = tk1 x1 1 q ∧ max x2 y2 = tk1 x2 2 q ∧ max x3 y3 = tk1 x3 3 q)

set_option maxRecDepth 100000 in
set_option maxHeartbeats 4000000 in
theorem tkLets_any (x0 x1 x2 x3 y0 y1 y2 y3 : Int) (q : Nat) (hq : q < 4) (h0 : 0 ≤ x0 ∧ x0 ≤ 1000000) (h1 : 0 ≤ x1 ∧ x1 ≤ 1000000) (h2 : 0 ≤ x2 ∧ x2 ≤ 1000000) (h3 : 0 ≤ x3 ∧ x3 ≤ 1000000) (w : World) :
    Calls Try.prog 22 #[tkV x0 x1 x2 x3, tkV y0 y1 y2 y3, .int .i64 (q : Int)] w fun e w' => e = .returned (.bool (letsB x0 x1 x2 x3 y0 y1 y2 y3 q)) ∧ Below w.heap.size w w' := by
  have HJ : Hid (∀ W, Calls Try.prog 17 #[tkV x0 x1 x2 x3, tkV y0 y1 y2 y3] W fun e w' => e = .returned (tkV (max x0 y0) (max x1 y1) (max x2 y2) (max x3 y3)) ∧ Below W.heap.size W w') := tkJoin_any x0 x1 x2 x3 y0 y1 y2 y3
  have HT : Hid (∀ W, Calls Try.prog 33 #[tkV x0 x1 x2 x3, .int .i64 (q : Int), .int .i64 1] W fun e w' => e = .returned (tkV (tk1 x0 0 q) (tk1 x1 1 q) (tk1 x2 2 q) (tk1 x3 3 q)) ∧ Below W.heap.size W w') := fun W => tkTick_any x0 x1 x2 x3 q hq h0 h1 h2 h3 W
  have HE := Lib.hid (fun d w => eql_tk d w (max x0 y0) (max x1 y1) (max x2 y2) (max x3 y3) (tk1 x0 0 q) (tk1 x1 1 q) (tk1 x2 2 q) (tk1 x3 3 q))
  have HD : Hid (decide (max x0 y0 = tk1 x0 0 q ∧ max x1 y1 = tk1 x1 1 q ∧ max x2 y2 = tk1 x2 2 q ∧ max x3 y3 = tk1 x3 3 q) = letsB x0 x1 x2 x3 y0 y1 y2 y3 q) := Lib.hid rfl
  rw [HD.out] at HE
  clear HD h0 h1 h2 h3
  generalize letsB x0 x1 x2 x3 y0 y1 y2 y3 q = z at *
  generalize (max x0 y0) = m0 at *
  generalize (max x1 y1) = m1 at *
  generalize (max x2 y2) = m2 at *
  generalize (max x3 y3) = m3 at *
  generalize (tk1 x0 0 q) = t0 at *
  generalize (tk1 x1 1 q) = t1 at *
  generalize (tk1 x2 2 q) = t2 at *
  generalize (tk1 x3 3 q) = t3 at *
  go_enter Try.func22, Try.ntmps22
  go_wp2_with fail
  have HB : Hid (Below w.heap.size w ((w.alloc (.cells #[.int .i64 x0, .int .i64 x1, .int .i64 x2, .int .i64 x3] 44)).alloc (.cells #[.int .i64 y0, .int .i64 y1, .int .i64 y2, .int .i64 y3] 44))) := ((Below.refl _ _).alloc (Nat.le_refl _) _).alloc (by simp) _
  have hx : w.heap.size < ((w.alloc (.cells #[.int .i64 x0, .int .i64 x1, .int .i64 x2, .int .i64 x3] 44)).alloc (.cells #[.int .i64 y0, .int .i64 y1, .int .i64 y2, .int .i64 y3] 44)).heap.size := by simp; omega
  have hy : w.heap.size + 1 < ((w.alloc (.cells #[.int .i64 x0, .int .i64 x1, .int .i64 x2, .int .i64 x3] 44)).alloc (.cells #[.int .i64 y0, .int .i64 y1, .int .i64 y2, .int .i64 y3] 44)).heap.size := by simp
  have cx0 : ((w.alloc (.cells #[.int .i64 x0, .int .i64 x1, .int .i64 x2, .int .i64 x3] 44)).alloc (.cells #[.int .i64 y0, .int .i64 y1, .int .i64 y2, .int .i64 y3] 44)).cell? ⟨w.heap.size, 0, none⟩ = some (.int .i64 x0) := by go_simp
  have cx1 : ((w.alloc (.cells #[.int .i64 x0, .int .i64 x1, .int .i64 x2, .int .i64 x3] 44)).alloc (.cells #[.int .i64 y0, .int .i64 y1, .int .i64 y2, .int .i64 y3] 44)).cell? ⟨w.heap.size, 1, none⟩ = some (.int .i64 x1) := by go_simp
  have cx2 : ((w.alloc (.cells #[.int .i64 x0, .int .i64 x1, .int .i64 x2, .int .i64 x3] 44)).alloc (.cells #[.int .i64 y0, .int .i64 y1, .int .i64 y2, .int .i64 y3] 44)).cell? ⟨w.heap.size, 2, none⟩ = some (.int .i64 x2) := by go_simp
  have cx3 : ((w.alloc (.cells #[.int .i64 x0, .int .i64 x1, .int .i64 x2, .int .i64 x3] 44)).alloc (.cells #[.int .i64 y0, .int .i64 y1, .int .i64 y2, .int .i64 y3] 44)).cell? ⟨w.heap.size, 3, none⟩ = some (.int .i64 x3) := by go_simp
  have cy0 : ((w.alloc (.cells #[.int .i64 x0, .int .i64 x1, .int .i64 x2, .int .i64 x3] 44)).alloc (.cells #[.int .i64 y0, .int .i64 y1, .int .i64 y2, .int .i64 y3] 44)).cell? ⟨w.heap.size + 1, 0, none⟩ = some (.int .i64 y0) := by go_simp
  have cy1 : ((w.alloc (.cells #[.int .i64 x0, .int .i64 x1, .int .i64 x2, .int .i64 x3] 44)).alloc (.cells #[.int .i64 y0, .int .i64 y1, .int .i64 y2, .int .i64 y3] 44)).cell? ⟨w.heap.size + 1, 1, none⟩ = some (.int .i64 y1) := by go_simp
  have cy2 : ((w.alloc (.cells #[.int .i64 x0, .int .i64 x1, .int .i64 x2, .int .i64 x3] 44)).alloc (.cells #[.int .i64 y0, .int .i64 y1, .int .i64 y2, .int .i64 y3] 44)).cell? ⟨w.heap.size + 1, 2, none⟩ = some (.int .i64 y2) := by go_simp
  have cy3 : ((w.alloc (.cells #[.int .i64 x0, .int .i64 x1, .int .i64 x2, .int .i64 x3] 44)).alloc (.cells #[.int .i64 y0, .int .i64 y1, .int .i64 y2, .int .i64 y3] 44)).cell? ⟨w.heap.size + 1, 3, none⟩ = some (.int .i64 y3) := by go_simp
  generalize ((w.alloc (.cells #[.int .i64 x0, .int .i64 x1, .int .i64 x2, .int .i64 x3] 44)).alloc (.cells #[.int .i64 y0, .int .i64 y1, .int .i64 y2, .int .i64 y3] 44)) = W at *
  have gx0 := aft_cell hx cx0
  have gx1 := aft_cell hx cx1
  have gx2 := aft_cell hx cx2
  have gx3 := aft_cell hx cx3
  have gy0 := aft_cell hy cy0
  have gy1 := aft_cell hy cy1
  have gy2 := aft_cell hy cy2
  have gy3 := aft_cell hy cy3
  clear hx hy cx0 cx1 cx2 cx3 cy0 cy1 cy2 cy3
  have heq : ∀ w, (Op.equalIn 10000 44 (tkV m0 m1 m2 m3) (tkV t0 t1 t2 t3)).run Try.prog w = .ok z w := fun w => HE.out 9998 w
  have ne := aft_some W
  refine wp_region_aft (by kernel_rfl) (by kernel_rfl) ?_
  repeat (first | go_big_quiet_step (first | (go_at_call 17; exact aft_of (HJ.out _)) | (go_at_call 33; exact aft_of (HT.out _))))
  refine wpQuiet_nil ?_
  intro wq hq
  have HBQ : Hid (Below w.heap.size w wq) := below_step HB.out HB.out.size hq
  clear hq
  go_wp2
  go_ret
  exact ⟨rfl, HBQ.out⟩

end Go.Proofs.Ytpejdhbajejmoaa

/- The program's VecJoin, VecCmp, VecTick, MayCome. -/
namespace Go.Proofs.Ytpejdhbajejmoaa
open Go.ChangeShapes Go.WideShapes Go.ChangeAt Go.RowKit Go.Joins
attribute [local go_sem ↓] Go.wp_at_zero Go.wp_at_succ

def joinV (xs ys : List Int) : List Int := if vecB xs && vecB ys then List.zipWith max xs ys else []

theorem joinV_good {xs ys : List Int} (h : vecB xs = true) (h' : vecB ys = true) : joinV xs ys = List.zipWith max xs ys := by
  unfold joinV
  rw [h, h']
  rfl

theorem joinV_bad {xs ys : List Int} (h : (vecB xs && vecB ys) = false) : joinV xs ys = [] := by
  unfold joinV
  rw [h]
  rfl

/-- Whatever numbers come beside 'false'. -/
theorem ticksOf_bad (a : Option Addr) (n cap : Nat) (zs : List Int) (w : World) (hl : zs.length = n) (hn : n ≤ maxLen) (hh : IsIs w a zs) (hv : vecB zs = false) :
    Calls Try.prog 20 #[.slice a n cap] w fun e w' => (∃ z0 z1 z2 z3, e = .returned (.tuple #[tkV z0 z1 z2 z3, .bool false])) ∧ Below w.heap.size w w' :=
  (ticksOf_any a n cap zs w hl hn hh).mono fun _ _ ⟨⟨z0, z1, z2, z3, he, _⟩, hb⟩ => ⟨⟨z0, z1, z2, z3, by rw [he, hv]⟩, hb⟩

theorem ticksOf_good (a : Option Addr) (cap : Nat) (x0 x1 x2 x3 : Int) (w : World) (hh : IsIs w a [x0, x1, x2, x3]) (hv : vecB [x0, x1, x2, x3] = true) :
    Calls Try.prog 20 #[.slice a 4 cap] w fun e w' => e = .returned (.tuple #[tkV x0 x1 x2 x3, .bool true]) ∧ Below w.heap.size w w' :=
  (ticksOf_any a 4 cap _ w rfl (by unfold maxLen; omega) hh).mono fun _ _ ⟨⟨z0, z1, z2, z3, he, hz⟩, hb⟩ => by
    have h := hz hv
    simp only [List.cons.injEq, and_true] at h
    obtain ⟨rfl, rfl, rfl, rfl⟩ := h
    exact ⟨by rw [he, hv], hb⟩

theorem own4 (w : World) (lo : Nat) (h : lo ≤ w.heap.size) (z0 z1 z2 z3 : Int) (t g : Nat) (hg : g = w.heap.size) : OwnI (w.alloc (.cells #[.int .i64 z0, .int .i64 z1, .int .i64 z2, .int .i64 z3] t)) lo (w.alloc (.cells #[.int .i64 z0, .int .i64 z1, .int .i64 z2, .int .i64 z3] t)).heap.size (some ⟨g, 0, none⟩) [z0, z1, z2, z3] := by
  subst hg
  refine .inr ⟨w.heap.size, rfl, h, by simp, by simp, fun i hi => ?_, fun o => by go_simp⟩
  match i, hi with
  | 0, _ | 1, _ | 2, _ | 3, _ => go_simp

set_option maxRecDepth 100000 in
set_option maxHeartbeats 4000000 in
theorem implVecJoin_any (a a' : Option Addr) (n n' cap cap' : Nat) (xs ys : List Int) (w : World) (hl : xs.length = n) (hn : n ≤ maxLen) (hh : IsIs w a xs) (hl' : ys.length = n') (hn' : n' ≤ maxLen) (hh' : IsIs w a' ys) :
    Calls Try.prog 10 #[vecV a n cap, vecV a' n' cap'] w fun e w' => ∃ g cp, e = .returned (vecV g (joinV xs ys).length cp) ∧ OwnI w' w.heap.size w'.heap.size g (joinV xs ys) ∧ Below w.heap.size w w' := by
  have HH : Hid (IsIs w a xs) := hh
  have HN : Hid (xs.length = n) := hl
  have HH' : Hid (IsIs w a' ys) := hh'
  have HN' : Hid (ys.length = n') := hl'
  have hres : Try.f10.results = #[.cell 4 28] := by kernel_rfl
  have HB0 : Hid (Below w.heap.size w (((w.alloc (.cells #[.slice a n cap] 28)).alloc (.cells #[.slice a' n' cap'] 28)).alloc (.cells #[.slice none 0 0] 28))) := (((Below.refl _ _).alloc (Nat.le_refl _) _).alloc (by simp) _).alloc (by simp; omega) _
  clear hh hl hh' hl'
  cases hv : vecB xs
  · have HV := Lib.hid hv
    have HJ : Hid (joinV xs ys = []) := joinV_bad (by rw [hv]; rfl)
    clear hv
    go_enter Try.func10, Try.ntmps10
    go_wp2_with fail
    refine (ticksOf_bad a n cap xs _ HN.out hn (HH.out.below HB0.out) HV.out).mono ?_
    rintro e w1 ⟨⟨z0, z1, z2, z3, rfl⟩, hb⟩
    have HB1 := Lib.hid (below_step HB0.out HB0.out.size hb)
    obtain ⟨hc, hf⟩ := bcell hb
    have hz : w.heap.size + 1 + 1 < w1.heap.size := by have := hb.size; simp at this; omega
    have hz1 : w.heap.size + 1 < w1.heap.size := by omega
    clear hb
    have hA : Below w1.heap.size w1 (w1.alloc (.cells #[.int .i64 z0, .int .i64 z1, .int .i64 z2, .int .i64 z3] 44)) := (Below.refl _ _).alloc (Nat.le_refl _) _
    have HBA := Lib.hid (below_step HB1.out HB1.out.size hA)
    clear hA
    go_wp2_with fail
    refine (ticksOf_any a' n' cap' ys _ HN'.out hn' (HH'.out.below HBA.out)).mono ?_
    rintro e w2 ⟨⟨y0, y1, y2, y3, rfl, -⟩, hb⟩
    have HB2 := Lib.hid (below_step HBA.out HBA.out.size hb)
    obtain ⟨hc2, hf2⟩ := bcell hb
    have hz2 : w1.heap.size < w2.heap.size := by have := hb.size; simp at this; omega
    have hz3 : w.heap.size + 1 + 1 < w2.heap.size := by omega
    have hz4 : w.heap.size + 1 < w2.heap.size := by omega
    clear hb
    go_wp2
    refine bodyPost_ret (v := vecV none 0 0) (by simp only [results, hres]; go_simp) rfl ⟨none, 0, by rw [HJ.out]; rfl, by rw [HJ.out]; exact .inl rfl, ?_⟩
    exact (HB2.out.setCell (p := ⟨w.heap.size + 1 + 1, 0, none⟩) (Nat.le_add_right _ 2) _).alloc (by have := HB2.out.size; simpa using this) _
  · obtain ⟨x0, x1, x2, x3, rfl, hx0, hx1, hx2, hx3⟩ := vecB_four hv
    have hn4 : n = 4 := HN.out.symm
    subst hn4
    have HV := Lib.hid hv
    cases hv' : vecB ys
    · have HV' := Lib.hid hv'
      have HJ : Hid (joinV [x0, x1, x2, x3] ys = []) := joinV_bad (by rw [hv', Bool.and_false])
      clear hv hv' hx0 hx1 hx2 hx3
      go_enter Try.func10, Try.ntmps10
      go_wp2_with fail
      refine (ticksOf_good a cap x0 x1 x2 x3 _ (HH.out.below HB0.out) HV.out).mono ?_
      rintro e w1 ⟨rfl, hb⟩
      have HB1 := Lib.hid (below_step HB0.out HB0.out.size hb)
      obtain ⟨hc, hf⟩ := bcell hb
      have hz : w.heap.size + 1 + 1 < w1.heap.size := by have := hb.size; simp at this; omega
      have hz1 : w.heap.size + 1 < w1.heap.size := by omega
      clear hb
      have hA : Below w1.heap.size w1 (w1.alloc (.cells #[.int .i64 x0, .int .i64 x1, .int .i64 x2, .int .i64 x3] 44)) := (Below.refl _ _).alloc (Nat.le_refl _) _
      have HBA := Lib.hid (below_step HB1.out HB1.out.size hA)
      clear hA
      go_wp2_with fail
      refine (ticksOf_bad a' n' cap' ys _ HN'.out hn' (HH'.out.below HBA.out) HV'.out).mono ?_
      rintro e w2 ⟨⟨y0, y1, y2, y3, rfl⟩, hb⟩
      have HB2 := Lib.hid (below_step HBA.out HBA.out.size hb)
      obtain ⟨hc2, hf2⟩ := bcell hb
      have hz2 : w1.heap.size < w2.heap.size := by have := hb.size; simp at this; omega
      have hz3 : w.heap.size + 1 + 1 < w2.heap.size := by omega
      have hz4 : w.heap.size + 1 < w2.heap.size := by omega
      clear hb
      go_wp2
      refine bodyPost_ret (v := vecV none 0 0) (by simp only [results, hres]; go_simp) rfl ⟨none, 0, by rw [HJ.out]; rfl, by rw [HJ.out]; exact .inl rfl, ?_⟩
      exact (HB2.out.setCell (p := ⟨w.heap.size + 1 + 1, 0, none⟩) (Nat.le_add_right _ 2) _).alloc (by have := HB2.out.size; simpa using this) _
    · obtain ⟨y0, y1, y2, y3, rfl, hy0, hy1, hy2, hy3⟩ := vecB_four hv'
      have hn4 : n' = 4 := HN'.out.symm
      subst hn4
      have HV' := Lib.hid hv'
      have HJ : Hid (joinV [x0, x1, x2, x3] [y0, y1, y2, y3] = [max x0 y0, max x1 y1, max x2 y2, max x3 y3]) := joinV_good hv hv'
      clear hv hv' hx0 hx1 hx2 hx3 hy0 hy1 hy2 hy3
      go_enter Try.func10, Try.ntmps10
      go_wp2_with fail
      refine (ticksOf_good a cap x0 x1 x2 x3 _ (HH.out.below HB0.out) HV.out).mono ?_
      rintro e w1 ⟨rfl, hb⟩
      have HB1 := Lib.hid (below_step HB0.out HB0.out.size hb)
      obtain ⟨hc, hf⟩ := bcell hb
      have hz : w.heap.size + 1 + 1 < w1.heap.size := by have := hb.size; simp at this; omega
      have hz1 : w.heap.size + 1 < w1.heap.size := by omega
      clear hb
      have hA : Below w1.heap.size w1 (w1.alloc (.cells #[.int .i64 x0, .int .i64 x1, .int .i64 x2, .int .i64 x3] 44)) := (Below.refl _ _).alloc (Nat.le_refl _) _
      have HBA := Lib.hid (below_step HB1.out HB1.out.size hA)
      clear hA
      go_wp2_with fail
      refine (ticksOf_good a' cap' y0 y1 y2 y3 _ (HH'.out.below HBA.out) HV'.out).mono ?_
      rintro e w2 ⟨rfl, hb⟩
      have HB2 := Lib.hid (below_step HBA.out HBA.out.size hb)
      obtain ⟨hc2, hf2⟩ := bcell hb
      have hz2 : w1.heap.size < w2.heap.size := by have := hb.size; simp at this; omega
      have hz3 : w.heap.size + 1 + 1 < w2.heap.size := by omega
      have hz4 : w.heap.size + 1 < w2.heap.size := by omega
      clear hb
      have HBC := Lib.hid (HB2.out.alloc HB2.out.size (.cells #[.int .i64 y0, .int .i64 y1, .int .i64 y2, .int .i64 y3] 44))
      go_wp2_with fail
      refine (tkJoin_any x0 x1 x2 x3 y0 y1 y2 y3 _).mono ?_
      rintro e w3 ⟨rfl, hb⟩
      have HB3 := Lib.hid (below_step HBC.out HBC.out.size hb)
      obtain ⟨hc3, hf3⟩ := bcell hb
      have hz5 : w.heap.size + 1 + 1 < w3.heap.size := by have := hb.size; simp at this; omega
      clear hb
      go_wp2_with fail
      refine (tkList_any _ _ _ _ _).mono ?_
      rintro e w4 ⟨rfl, rfl⟩
      go_wp2
      refine bodyPost_ret (v := vecV (some ⟨w3.heap.size, 0, none⟩) 4 4) (by simp only [results, hres]; go_simp) rfl ⟨some ⟨w3.heap.size, 0, none⟩, 4, by rw [HJ.out]; rfl, ?_, ?_⟩
      · rw [HJ.out]
        exact own4 _ _ (by have := HB3.out.size; simpa using this) _ _ _ _ _ _ (by simp)
      · exact (HB3.out.setCell (p := ⟨w.heap.size + 1 + 1, 0, none⟩) (Nat.le_add_right _ 2) _).alloc (by have := HB3.out.size; simpa using this) _

theorem ret_int {a b : Int} (h : a = b) : Ending.returned (.int .i64 a) = .returned (.int .i64 b) := by rw [h]

def cmp3 (d1 d2 d3 : Bool) : Int := if d1 then 0 else if d2 then -1 else if d3 then 1 else 2

def lessV (xs ys : List Int) (k : Nat) : Bool := (List.range k).any fun i => decide (xs.getD i 0 < ys.getD i 0)

def moreV (xs ys : List Int) (k : Nat) : Bool := (List.range k).any fun i => decide (ys.getD i 0 < xs.getD i 0)

theorem lessV_next (xs ys : List Int) (k : Nat) : lessV xs ys (k + 1) = (lessV xs ys k || decide (xs.getD k 0 < ys.getD k 0)) := by
  unfold lessV
  rw [List.range_succ, List.any_append]
  simp

theorem moreV_next (xs ys : List Int) (k : Nat) : moreV xs ys (k + 1) = (moreV xs ys k || decide (ys.getD k 0 < xs.getD k 0)) := by
  unfold moreV
  rw [List.range_succ, List.any_append]
  simp

def lm (l m : Bool) : Int := if l && m then 2 else if l then -1 else if m then 1 else 0

def cmpV (xs ys : List Int) : Int := if vecB xs && vecB ys then lm (lessV xs ys 4) (moreV xs ys 4) else 3

theorem cmpV_bad {xs ys : List Int} (h : (vecB xs && vecB ys) = false) : cmpV xs ys = 3 := by
  unfold cmpV
  rw [h]
  rfl

theorem cmpV_good {xs ys : List Int} (h : vecB xs = true) (h' : vecB ys = true) : cmpV xs ys = lm (lessV xs ys 4) (moreV xs ys 4) := by
  unfold cmpV
  rw [h, h']
  rfl

theorem cmpV_four (x0 x1 x2 x3 y0 y1 y2 y3 : Int) (h : vecB [x0, x1, x2, x3] = true) (h' : vecB [y0, y1, y2, y3] = true) :
    cmpV [x0, x1, x2, x3] [y0, y1, y2, y3] = cmp3 (decide (x0 = y0 ∧ x1 = y1 ∧ x2 = y2 ∧ x3 = y3)) (decide (max x0 y0 = y0 ∧ max x1 y1 = y1 ∧ max x2 y2 = y2 ∧ max x3 y3 = y3)) (decide (max x0 y0 = x0 ∧ max x1 y1 = x1 ∧ max x2 y2 = x2 ∧ max x3 y3 = x3)) := by
  rw [cmpV_good h h']
  have hl : lessV [x0, x1, x2, x3] [y0, y1, y2, y3] 4 = !decide (max x0 y0 = x0 ∧ max x1 y1 = x1 ∧ max x2 y2 = x2 ∧ max x3 y3 = x3) := by
    simp only [lessV_next, show lessV [x0, x1, x2, x3] [y0, y1, y2, y3] 0 = false from rfl]
    rw [Bool.eq_iff_iff]
    simp
    omega
  have hm : moreV [x0, x1, x2, x3] [y0, y1, y2, y3] 4 = !decide (max x0 y0 = y0 ∧ max x1 y1 = y1 ∧ max x2 y2 = y2 ∧ max x3 y3 = y3) := by
    simp only [moreV_next, show moreV [x0, x1, x2, x3] [y0, y1, y2, y3] 0 = false from rfl]
    rw [Bool.eq_iff_iff]
    simp
    omega
  have he : decide (x0 = y0 ∧ x1 = y1 ∧ x2 = y2 ∧ x3 = y3) = (decide (max x0 y0 = x0 ∧ max x1 y1 = x1 ∧ max x2 y2 = x2 ∧ max x3 y3 = x3) && decide (max x0 y0 = y0 ∧ max x1 y1 = y1 ∧ max x2 y2 = y2 ∧ max x3 y3 = y3)) := by
    rw [Bool.eq_iff_iff]
    simp
    omega
  rw [hl, hm, he]
  generalize decide (max x0 y0 = x0 ∧ max x1 y1 = x1 ∧ max x2 y2 = x2 ∧ max x3 y3 = x3) = d3
  generalize decide (max x0 y0 = y0 ∧ max x1 y1 = y1 ∧ max x2 y2 = y2 ∧ max x3 y3 = y3) = d2
  cases d3 <;> cases d2 <;> rfl

def tickOk (xs : List Int) (si : Int) : Bool := vecB xs && (btw si 0 3 && !(xs.getD si.toNat 0 == 1000000))

def tickV (xs : List Int) (si : Int) : List Int := if tickOk xs si then xs.set si.toNat (xs.getD si.toNat 0 + 1) else []

theorem tickV_bad {xs : List Int} {si : Int} (h : tickOk xs si = false) : tickV xs si = [] := by
  unfold tickV
  rw [h]
  rfl

theorem tickV_good {xs : List Int} {si : Int} (h : tickOk xs si = true) : tickV xs si = xs.set si.toNat (xs.getD si.toNat 0 + 1) := by
  unfold tickV
  rw [h]
  rfl

theorem tickOk_bad {xs : List Int} {si : Int} (h : vecB xs = false) : tickOk xs si = false := by
  unfold tickOk
  rw [h]
  rfl

theorem tickOk_off {xs : List Int} {si : Int} (h : btw si 0 3 = false) : tickOk xs si = false := by
  unfold tickOk
  rw [h]
  simp

theorem tickOk_at {xs : List Int} {si : Int} (h : vecB xs = true) (h' : btw si 0 3 = true) : tickOk xs si = !(xs.getD si.toNat 0 == 1000000) := by
  unfold tickOk
  rw [h, h']
  simp

theorem btw_site {si : Int} (h : btw si 0 3 = true) : si = 0 ∨ si = 1 ∨ si = 2 ∨ si = 3 := by
  unfold btw at h
  simp at h
  omega

set_option maxRecDepth 100000 in
theorem isSite_any (si : Int) (w : World) :
    Calls Try.prog 21 #[.int .i64 si] w fun e w' => e = .returned (.bool (btw si 0 3)) ∧ w' = w := by
  go_enter Try.func21, Try.ntmps21
  go_wp2_with fail
  refine (inRange_any _ _ _ _).mono ?_
  rintro e w1 ⟨rfl, hw⟩
  subst w1
  go_wp2
  go_ret
  exact ⟨rfl, rfl⟩

set_option maxRecDepth 100000 in
theorem specSite_any (si : Int) (w : World) :
    Calls Try.prog 30 #[.int .i64 si] w fun e w' => e = .returned (.bool (btw si 0 3)) ∧ w' = w := by
  go_enter Try.func30, Try.ntmps30
  go_wp2_with fail
  refine (between_any _ _ _ _).mono ?_
  rintro e w1 ⟨rfl, hw⟩
  subst w1
  go_wp2
  go_ret
  exact ⟨rfl, rfl⟩

abbrev postV (f : Int) (a : Option Addr) (n cap : Nat) (y : Int) : Value := .agg #[.int .i64 f, .slice a n cap, .int .i64 y]

/-- What MayCome asks at one place. -/
def mayOne (xs ys : List Int) (q i : Nat) : Bool := if i = q then decide (ys.getD i 0 = xs.getD i 0 + 1) else decide (ys.getD i 0 ≤ xs.getD i 0)

def mayAt (xs ys : List Int) (q k : Nat) : Bool := (List.range k).all (mayOne xs ys q)

theorem mayAt_next (xs ys : List Int) (q k : Nat) : mayAt xs ys q (k + 1) = (mayAt xs ys q k && mayOne xs ys q k) := by
  unfold mayAt
  rw [List.range_succ, List.all_append]
  simp

def mayB (xs ys : List Int) (si : Int) : Bool := vecB xs && (vecB ys && (btw si 0 3 && mayAt xs ys si.toNat 4))

theorem mayB_bad {xs ys : List Int} {si : Int} (h : (vecB xs && vecB ys) = false) : mayB xs ys si = false := by
  unfold mayB
  rw [← Bool.and_assoc, h]
  rfl

theorem mayB_off {xs ys : List Int} {si : Int} (h : btw si 0 3 = false) : mayB xs ys si = false := by
  unfold mayB
  rw [h]
  simp

theorem mayB_at {xs ys : List Int} {si : Int} (h : vecB xs = true) (h' : vecB ys = true) (hs : btw si 0 3 = true) : mayB xs ys si = mayAt xs ys si.toNat 4 := by
  unfold mayB
  rw [h, h', hs]
  simp

theorem lets_may (x0 x1 x2 x3 y0 y1 y2 y3 : Int) (q : Nat) (hq : q < 4) : letsB x0 x1 x2 x3 y0 y1 y2 y3 q = mayAt [x0, x1, x2, x3] [y0, y1, y2, y3] q 4 := by
  simp only [mayAt_next, show mayAt [x0, x1, x2, x3] [y0, y1, y2, y3] q 0 = true from rfl, Bool.true_and]
  unfold letsB mayOne tk1
  rw [Bool.eq_iff_iff]
  match q, hq with
  | 0, _ | 1, _ | 2, _ | 3, _ =>
    simp
    omega

set_option maxRecDepth 100000 in
set_option maxHeartbeats 4000000 in
theorem implMayCome_any (a a' : Option Addr) (n n' cap cap' : Nat) (f y : Int) (xs ys : List Int) (w : World) (hl : xs.length = n) (hn : n ≤ maxLen) (hh : IsIs w a xs) (hl' : ys.length = n') (hn' : n' ≤ maxLen) (hh' : IsIs w a' ys) :
    Calls Try.prog 9 #[vecV a n cap, postV f a' n' cap' y] w fun e w' => e = .returned (.bool (mayB xs ys f)) ∧ Below w.heap.size w w' := by
  have HH : Hid (IsIs w a xs) := hh
  have HN : Hid (xs.length = n) := hl
  have HH' : Hid (IsIs w a' ys) := hh'
  have HN' : Hid (ys.length = n') := hl'
  have HB0 : Hid (Below w.heap.size w ((w.alloc (.cells #[.slice a n cap] 28)).alloc (.cells #[.int .i64 f, .slice a' n' cap', .int .i64 y] 33))) := ((Below.refl _ _).alloc (Nat.le_refl _) _).alloc (by simp) _
  clear hh hl hh' hl'
  cases hv : vecB xs
  · have HV := Lib.hid hv
    have HJ : Hid (mayB xs ys f = false) := mayB_bad (by rw [hv]; rfl)
    clear hv
    go_enter Try.func9, Try.ntmps9
    go_wp2_with fail
    refine (ticksOf_bad a n cap xs _ HN.out hn (HH.out.below HB0.out) HV.out).mono ?_
    rintro e w1 ⟨⟨z0, z1, z2, z3, rfl⟩, hb⟩
    have HB1 := Lib.hid (below_step HB0.out HB0.out.size hb)
    obtain ⟨hc, hf⟩ := bcell hb
    have hz : w.heap.size + 1 < w1.heap.size := by have := hb.size; simp at this; omega
    have hz1 : w.heap.size < w1.heap.size := by omega
    clear hb
    have hA : Below w1.heap.size w1 (w1.alloc (.cells #[.int .i64 z0, .int .i64 z1, .int .i64 z2, .int .i64 z3] 44)) := (Below.refl _ _).alloc (Nat.le_refl _) _
    have HBA := Lib.hid (below_step HB1.out HB1.out.size hA)
    clear hA
    go_wp2_with fail
    refine (ticksOf_any a' n' cap' ys _ HN'.out hn' (HH'.out.below HBA.out)).mono ?_
    rintro e w2 ⟨⟨y0, y1, y2, y3, rfl, -⟩, hb⟩
    have HB2 := Lib.hid (below_step HBA.out HBA.out.size hb)
    obtain ⟨hc2, hf2⟩ := bcell hb
    have hz2 : w1.heap.size < w2.heap.size := by have := hb.size; simp at this; omega
    have hz4 : w.heap.size + 1 < w2.heap.size := by omega
    have hz6 : w.heap.size < w2.heap.size := by omega
    clear hb
    go_wp2
    go_ret
    exact ⟨ret_bool HJ.out.symm, HB2.out.alloc HB2.out.size _⟩
  · obtain ⟨x0, x1, x2, x3, rfl, hx0, hx1, hx2, hx3⟩ := vecB_four hv
    have hn4 : n = 4 := HN.out.symm
    subst hn4
    have HV := Lib.hid hv
    cases hv' : vecB ys
    · have HV' := Lib.hid hv'
      have HJ : Hid (mayB [x0, x1, x2, x3] ys f = false) := mayB_bad (by rw [hv', Bool.and_false])
      clear hv hv' hx0 hx1 hx2 hx3
      go_enter Try.func9, Try.ntmps9
      go_wp2_with fail
      refine (ticksOf_good a cap x0 x1 x2 x3 _ (HH.out.below HB0.out) HV.out).mono ?_
      rintro e w1 ⟨rfl, hb⟩
      have HB1 := Lib.hid (below_step HB0.out HB0.out.size hb)
      obtain ⟨hc, hf⟩ := bcell hb
      have hz : w.heap.size + 1 < w1.heap.size := by have := hb.size; simp at this; omega
      have hz1 : w.heap.size < w1.heap.size := by omega
      clear hb
      have hA : Below w1.heap.size w1 (w1.alloc (.cells #[.int .i64 x0, .int .i64 x1, .int .i64 x2, .int .i64 x3] 44)) := (Below.refl _ _).alloc (Nat.le_refl _) _
      have HBA := Lib.hid (below_step HB1.out HB1.out.size hA)
      clear hA
      go_wp2_with fail
      refine (ticksOf_bad a' n' cap' ys _ HN'.out hn' (HH'.out.below HBA.out) HV'.out).mono ?_
      rintro e w2 ⟨⟨y0, y1, y2, y3, rfl⟩, hb⟩
      have HB2 := Lib.hid (below_step HBA.out HBA.out.size hb)
      obtain ⟨hc2, hf2⟩ := bcell hb
      have hz2 : w1.heap.size < w2.heap.size := by have := hb.size; simp at this; omega
      have hz4 : w.heap.size + 1 < w2.heap.size := by omega
      have hz6 : w.heap.size < w2.heap.size := by omega
      clear hb
      go_wp2
      go_ret
      exact ⟨ret_bool HJ.out.symm, HB2.out.alloc HB2.out.size _⟩
    · obtain ⟨y0, y1, y2, y3, rfl, hy0, hy1, hy2, hy3⟩ := vecB_four hv'
      have hn4 : n' = 4 := HN'.out.symm
      subst hn4
      have HV' := Lib.hid hv'
      cases hs : btw f 0 3
      · have HJ : Hid (mayB [x0, x1, x2, x3] [y0, y1, y2, y3] f = false) := mayB_off hs
        have HS : Hid (∀ W, Calls Try.prog 21 #[.int .i64 f] W fun e w' => e = .returned (.bool false) ∧ w' = W) := fun W => by
          rw [← hs]
          exact isSite_any f W
        clear hv hv' hs hx0 hx1 hx2 hx3 hy0 hy1 hy2 hy3
        go_enter Try.func9, Try.ntmps9
        go_wp2_with fail
        refine (ticksOf_good a cap x0 x1 x2 x3 _ (HH.out.below HB0.out) HV.out).mono ?_
        rintro e w1 ⟨rfl, hb⟩
        have HB1 := Lib.hid (below_step HB0.out HB0.out.size hb)
        obtain ⟨hc, hf⟩ := bcell hb
        have hz : w.heap.size + 1 < w1.heap.size := by have := hb.size; simp at this; omega
        have hz1 : w.heap.size < w1.heap.size := by omega
        clear hb
        have hA : Below w1.heap.size w1 (w1.alloc (.cells #[.int .i64 x0, .int .i64 x1, .int .i64 x2, .int .i64 x3] 44)) := (Below.refl _ _).alloc (Nat.le_refl _) _
        have HBA := Lib.hid (below_step HB1.out HB1.out.size hA)
        clear hA
        go_wp2_with fail
        refine (ticksOf_good a' cap' y0 y1 y2 y3 _ (HH'.out.below HBA.out) HV'.out).mono ?_
        rintro e w2 ⟨rfl, hb⟩
        have HB2 := Lib.hid (below_step HBA.out HBA.out.size hb)
        obtain ⟨hc2, hf2⟩ := bcell hb
        have hz2 : w1.heap.size < w2.heap.size := by have := hb.size; simp at this; omega
        have hz4 : w.heap.size + 1 < w2.heap.size := by omega
        have hz6 : w.heap.size < w2.heap.size := by omega
        clear hb
        go_wp2_with fail
        refine (HS.out _).mono ?_
        rintro e w3 ⟨rfl, hw⟩
        subst w3
        go_wp2
        go_ret
        exact ⟨ret_bool HJ.out.symm, HB2.out.alloc HB2.out.size _⟩
      · obtain ⟨q, hq, rfl⟩ : ∃ q : Nat, q < 4 ∧ f = (q : Int) := ⟨f.toNat, by have := btw_site hs; omega, by have := btw_site hs; omega⟩
        have HJ : Hid (mayB [x0, x1, x2, x3] [y0, y1, y2, y3] (q : Int) = letsB x0 x1 x2 x3 y0 y1 y2 y3 q) := (mayB_at hv hv' hs).trans (lets_may x0 x1 x2 x3 y0 y1 y2 y3 q hq).symm
        have HS : Hid (∀ W, Calls Try.prog 21 #[.int .i64 (q : Int)] W fun e w' => e = .returned (.bool true) ∧ w' = W) := fun W => by
          rw [← hs]
          exact isSite_any (q : Int) W
        have HL : Hid (∀ W, Calls Try.prog 22 #[tkV x0 x1 x2 x3, tkV y0 y1 y2 y3, .int .i64 (q : Int)] W fun e w' => e = .returned (.bool (letsB x0 x1 x2 x3 y0 y1 y2 y3 q)) ∧ Below W.heap.size W w') := tkLets_any x0 x1 x2 x3 y0 y1 y2 y3 q hq hx0 hx1 hx2 hx3
        clear hv hv' hs hx0 hx1 hx2 hx3 hy0 hy1 hy2 hy3
        generalize letsB x0 x1 x2 x3 y0 y1 y2 y3 q = z at *
        go_enter Try.func9, Try.ntmps9
        go_wp2_with fail
        refine (ticksOf_good a cap x0 x1 x2 x3 _ (HH.out.below HB0.out) HV.out).mono ?_
        rintro e w1 ⟨rfl, hb⟩
        have HB1 := Lib.hid (below_step HB0.out HB0.out.size hb)
        obtain ⟨hc, hf⟩ := bcell hb
        have hz : w.heap.size + 1 < w1.heap.size := by have := hb.size; simp at this; omega
        have hz1 : w.heap.size < w1.heap.size := by omega
        clear hb
        have hA : Below w1.heap.size w1 (w1.alloc (.cells #[.int .i64 x0, .int .i64 x1, .int .i64 x2, .int .i64 x3] 44)) := (Below.refl _ _).alloc (Nat.le_refl _) _
        have HBA := Lib.hid (below_step HB1.out HB1.out.size hA)
        clear hA
        go_wp2_with fail
        refine (ticksOf_good a' cap' y0 y1 y2 y3 _ (HH'.out.below HBA.out) HV'.out).mono ?_
        rintro e w2 ⟨rfl, hb⟩
        have HB2 := Lib.hid (below_step HBA.out HBA.out.size hb)
        obtain ⟨hc2, hf2⟩ := bcell hb
        have hz2 : w1.heap.size < w2.heap.size := by have := hb.size; simp at this; omega
        have hz4 : w.heap.size + 1 < w2.heap.size := by omega
        have hz6 : w.heap.size < w2.heap.size := by omega
        clear hb
        go_wp2_with fail
        refine (HS.out _).mono ?_
        rintro e w3 ⟨rfl, hw⟩
        subst w3
        go_wp2_with fail
        refine (HL.out _).mono ?_
        rintro e w3 ⟨rfl, hb⟩
        have HB3 := Lib.hid (below_step (HB2.out.alloc HB2.out.size _) (HB2.out.alloc HB2.out.size _).size hb)
        clear hb
        go_wp2
        go_ret
        exact ⟨ret_bool HJ.out.symm, HB3.out⟩

end Go.Proofs.Ytpejdhbajejmoaa
