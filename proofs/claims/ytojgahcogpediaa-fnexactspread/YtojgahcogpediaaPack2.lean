import Derived.Test.YtojgahcogpediaaPack1
import Derived.Lib.Hide
import Derived.Deep.AppendLies
import Derived.Laws.OwnMore
/- Contracts of spec.WriteOk and impl.WriteOk. -/
namespace Go.Proofs.Ytojgahcogpediaa
open Go.ChangeShapes Go.WideShapes Go.ChangeAt Go.RowKit Go.Joins

def ahead (xs : List Dp) (c s q : Int) (i : Nat) : Bool := decide (tcmp (xs.getD i dz).c (xs.getD i dz).s (xs.getD i dz).q c s q < 0)

def aheadAll (xs : List Dp) (c s q : Int) : Bool := (List.range xs.length).all (ahead xs c s q)

def writeOkB (k c s q v : Int) (de : Bool) (xs : List Dp) : Bool := btw k 0 5 && (tagOkB c s q && (valOkB v de && (depsOkB xs && aheadAll xs c s q)))

theorem ahead_true {xs : List Dp} {c s q : Int} (h : ∀ i, i < xs.length → ahead xs c s q i = true) : aheadAll xs c s q = true := by
  unfold aheadAll
  rw [List.all_eq_true]
  intro i hi
  exact h i (List.mem_range.1 hi)

theorem ahead_false {xs : List Dp} {c s q : Int} {i : Nat} (hi : i < xs.length) (h : ahead xs c s q i = false) : aheadAll xs c s q = false := by
  unfold aheadAll
  rw [List.all_eq_false]
  exact ⟨i, List.mem_range.2 hi, by simp [h]⟩

theorem depsOk_tag {xs : List Dp} (h : depsOkB xs = true) {i : Nat} (hi : i < xs.length) : tagOkB (xs.getD i dz).c (xs.getD i dz).s (xs.getD i dz).q = true := by
  unfold depsOkB at h
  rw [List.all_eq_true] at h
  have h1 := h i (List.mem_range.2 hi)
  unfold depGood at h1
  simp only [Bool.and_eq_true] at h1
  exact h1.2.1

theorem wok_key {k c s q v : Int} {de : Bool} {xs : List Dp} (h : btw k 0 5 = false) : writeOkB k c s q v de xs = false := by
  unfold writeOkB
  rw [h, Bool.false_and]

theorem wok_tag {k c s q v : Int} {de : Bool} {xs : List Dp} (h : tagOkB c s q = false) : writeOkB k c s q v de xs = false := by
  unfold writeOkB
  rw [h, Bool.false_and, Bool.and_false]

theorem wok_val {k c s q v : Int} {de : Bool} {xs : List Dp} (h : valOkB v de = false) : writeOkB k c s q v de xs = false := by
  unfold writeOkB
  rw [h, Bool.false_and, Bool.and_false, Bool.and_false]

theorem wok_deps {k c s q v : Int} {de : Bool} {xs : List Dp} (h : depsOkB xs = false) : writeOkB k c s q v de xs = false := by
  unfold writeOkB
  rw [h, Bool.false_and, Bool.and_false, Bool.and_false, Bool.and_false]

theorem wok_rest {k c s q v : Int} {de : Bool} {xs : List Dp} (h1 : btw k 0 5 = true) (h2 : tagOkB c s q = true) (h3 : valOkB v de = true) (h4 : depsOkB xs = true) : writeOkB k c s q v de xs = aheadAll xs c s q := by
  unfold writeOkB
  rw [h1, h2, h3, h4, Bool.true_and, Bool.true_and, Bool.true_and, Bool.true_and]

theorem val_dead {v : Int} (h : valOkB v true = true) : v = 0 := by
  unfold valOkB at h
  simpa using h

theorem val_btw {v : Int} {de : Bool} (h : valOkB v de = true) : btw v (-1000000) 1000000 = true := by
  cases de
  · exact h
  · rw [val_dead h]
    rfl

theorem valOk_is (v : Int) (de r : Bool) (h : valOkB v de = r) (w : World) :
    Calls Try.prog 79 #[.int .i64 v, .bool de] w fun e w' => e = .returned (.bool r) ∧ w' = w := by
  subst h
  exact valOk_any v de w

theorem between_is (v lo hi : Int) (r : Bool) (h : btw v lo hi = r) (w : World) :
    Calls Try.prog 32 #[.int .i64 v, .int .i64 lo, .int .i64 hi] w fun e w' => e = .returned (.bool r) ∧ w' = w := by
  subst h
  exact between_any v lo hi w

theorem specDepsOk_is (r : Bool) (a : Option Addr) (xs : List Dp) (h : depsOkB xs = r) (cap : Nat) (w : World) (hn : xs.length ≤ 1048576) (hh : IsDeps w a xs) :
    Calls Try.prog 74 #[.slice a xs.length cap] w fun e w' => e = .returned (.bool r) ∧ Below w.heap.size w w' := by
  subst h
  exact specDepsOk_gen a xs cap w hn hh

theorem implDepsOk_is (r : Bool) (a : Option Addr) (xs : List Dp) (h : depsOkB xs = r) (cap : Nat) (w : World) (hn : xs.length ≤ 1048576) (hh : IsDeps w a xs) :
    Calls Try.prog 80 #[.slice a xs.length cap] w fun e w' => e = .returned (.bool r) ∧ Below w.heap.size w w' := by
  subst h
  exact implDepsOk_gen a xs cap w hn hh

/-- What the box of a write holds, in every later world. -/
theorem box_cells {w w1 : World} {vs : Array Value} {t : Nat} (hb : Below (w.alloc (.cells vs t)).heap.size (w.alloc (.cells vs t)) w1) (i : Nat) (hi : i < vs.size) : w1.cell? ⟨w.heap.size, i, none⟩ = some vs[i] := by
  rw [hb.cell (p := ⟨w.heap.size, i, none⟩) (by simp)]
  simp [go_sem, hi]

/-- A world that holds what was there, and the box of a write behind it. -/
structure BoxIn (w0 w : World) (k c s q v : Int) (de : Bool) (a : Option Addr) (len cap : Nat) : Prop where
  lt : w0.heap.size < w.heap.size
  below : Below w0.heap.size w0 w
  c0 : w.cell? ⟨w0.heap.size, 0, none⟩ = some (.int .i64 k)
  c1 : w.cell? ⟨w0.heap.size, 1, none⟩ = some (.int .i64 c)
  c2 : w.cell? ⟨w0.heap.size, 2, none⟩ = some (.int .i64 s)
  c3 : w.cell? ⟨w0.heap.size, 3, none⟩ = some (.int .i64 q)
  c4 : w.cell? ⟨w0.heap.size, 4, none⟩ = some (.int .i64 v)
  c5 : w.cell? ⟨w0.heap.size, 5, none⟩ = some (.bool de)
  c6 : w.cell? ⟨w0.heap.size, 6, none⟩ = some (.slice a len cap)

theorem BoxIn.start {w w1 : World} {k c s q v : Int} {de : Bool} {a : Option Addr} {len cap t : Nat} (hb : Below (w.alloc (.cells #[.int .i64 k, .int .i64 c, .int .i64 s, .int .i64 q, .int .i64 v, .bool de, .slice a len cap] t)).heap.size (w.alloc (.cells #[.int .i64 k, .int .i64 c, .int .i64 s, .int .i64 q, .int .i64 v, .bool de, .slice a len cap] t)) w1) : BoxIn w w1 k c s q v de a len cap where
  lt := by have := hb.size; simp at this; omega
  below := below_step ((Below.refl _ _).alloc (Nat.le_refl _) _) (by simp) hb
  c0 := box_cells hb 0 (by simp)
  c1 := box_cells hb 1 (by simp)
  c2 := box_cells hb 2 (by simp)
  c3 := box_cells hb 3 (by simp)
  c4 := box_cells hb 4 (by simp)
  c5 := box_cells hb 5 (by simp)
  c6 := box_cells hb 6 (by simp)

theorem BoxIn.step {w0 w w1 : World} {k c s q v : Int} {de : Bool} {a : Option Addr} {len cap : Nat} (h : BoxIn w0 w k c s q v de a len cap) (hb : Below w.heap.size w w1) : BoxIn w0 w1 k c s q v de a len cap where
  lt := Nat.lt_of_lt_of_le h.lt hb.size
  below := below_step h.below h.below.size hb
  c0 := held_cell hb h.c0 h.lt
  c1 := held_cell hb h.c1 h.lt
  c2 := held_cell hb h.c2 h.lt
  c3 := held_cell hb h.c3 h.lt
  c4 := held_cell hb h.c4 h.lt
  c5 := held_cell hb h.c5 h.lt
  c6 := held_cell hb h.c6 h.lt

theorem BoxIn.other {w0 w w1 : World} {k c s q v : Int} {de : Bool} {a : Option Addr} {len cap : Nat} (h : BoxIn w0 w k c s q v de a len cap) (hs : w.heap.size ≤ w1.heap.size) (hB : Below w0.heap.size w0 w1) (hc : w1.heap[w0.heap.size]? = w.heap[w0.heap.size]?) : BoxIn w0 w1 k c s q v de a len cap where
  lt := Nat.lt_of_lt_of_le h.lt hs
  below := hB
  c0 := (World.cell?_of_block (w := w) (a := ⟨w0.heap.size, 0, none⟩) hc).trans h.c0
  c1 := (World.cell?_of_block (w := w) (a := ⟨w0.heap.size, 1, none⟩) hc).trans h.c1
  c2 := (World.cell?_of_block (w := w) (a := ⟨w0.heap.size, 2, none⟩) hc).trans h.c2
  c3 := (World.cell?_of_block (w := w) (a := ⟨w0.heap.size, 3, none⟩) hc).trans h.c3
  c4 := (World.cell?_of_block (w := w) (a := ⟨w0.heap.size, 4, none⟩) hc).trans h.c4
  c5 := (World.cell?_of_block (w := w) (a := ⟨w0.heap.size, 5, none⟩) hc).trans h.c5
  c6 := (World.cell?_of_block (w := w) (a := ⟨w0.heap.size, 6, none⟩) hc).trans h.c6

set_option maxHeartbeats 1000000 in
theorem specWriteOk_ends (k c s q v : Int) (de : Bool) (a : Option Addr) (xs : List Dp) (cap : Nat) (w : World)
    (hbad : btw k 0 5 = false ∨ tagOkB c s q = false ∨ valOkB v de = false) :
    Calls Try.prog 34 #[wrV k c s q v de a xs.length cap] w fun e w' => e = .returned (.bool (writeOkB k c s q v de xs)) ∧ Below w.heap.size w w' := by
  cases h1 : btw k 0 5
  · rw [wok_key h1]
    clear hbad
    go_enter Try.func34, Try.ntmps34
    go_wp2_with (go_at_call 72; refine (key_is _ false h1 _).mono ?_; rintro e w' ⟨rfl, rfl⟩)
    go_ret
    exact ⟨rfl, (Below.refl _ _).alloc (Nat.le_refl _) _⟩
  cases h2 : tagOkB c s q
  · rw [wok_tag h2]
    clear hbad
    go_enter Try.func34, Try.ntmps34
    go_wp2_with (first | (go_at_call 72; refine (key_is _ true h1 _).mono ?_; rintro e w' ⟨rfl, rfl⟩) | (go_at_call 73; refine (specTagOk_is _ _ _ false h2 _).mono ?_; rintro e w' ⟨rfl, hb⟩))
    go_ret
    exact ⟨rfl, below_step ((Below.refl _ _).alloc (Nat.le_refl _) _) (by simp) hb⟩
  have h3 : valOkB v de = false := by
    rcases hbad with h | h | h
    · rw [h1] at h; cases h
    · rw [h2] at h; cases h
    · exact h
  rw [wok_val h3]
  clear hbad
  cases h4 : btw v (-1000000) 1000000
  · go_enter Try.func34, Try.ntmps34
    go_wp2_with fail
    refine (key_is _ true h1 _).mono ?_
    rintro e w1 ⟨rfl, rfl⟩
    go_wp2_with fail
    refine (specTagOk_is _ _ _ true h2 _).mono ?_
    rintro e w2 ⟨rfl, hb⟩
    have HB : Hid (Below w.heap.size w w2) := below_step ((Below.refl _ _).alloc (Nat.le_refl _) _) (by simp) hb
    have b4 : w2.cell? ⟨w.heap.size, 4, none⟩ = some (.int .i64 v) := box_cells hb 4 (by simp)
    clear hb
    go_wp2_with (go_at_call 32; refine (between_is _ _ _ false h4 _).mono ?_; rintro e w' ⟨rfl, rfl⟩)
    go_ret
    exact ⟨rfl, HB.out⟩
  · have hde : de = true := by
      cases de
      · have e : valOkB v false = btw v (-1000000) 1000000 := rfl
        rw [e, h4] at h3
        cases h3
      · rfl
    subst hde
    have hv : (v != 0) = true := by
      rw [bne_iff_ne]
      intro e
      rw [e] at h3
      cases h3
    clear h3
    go_enter Try.func34, Try.ntmps34
    go_wp2_with fail
    refine (key_is _ true h1 _).mono ?_
    rintro e w1 ⟨rfl, rfl⟩
    go_wp2_with fail
    refine (specTagOk_is _ _ _ true h2 _).mono ?_
    rintro e w2 ⟨rfl, hb⟩
    have HB : Hid (Below w.heap.size w w2) := below_step ((Below.refl _ _).alloc (Nat.le_refl _) _) (by simp) hb
    have b4 : w2.cell? ⟨w.heap.size, 4, none⟩ = some (.int .i64 v) := box_cells hb 4 (by simp)
    have b5 : w2.cell? ⟨w.heap.size, 5, none⟩ = some (.bool true) := box_cells hb 5 (by simp)
    clear hb
    go_wp2_with (go_at_call 32; refine (between_is _ _ _ true h4 _).mono ?_; rintro e w' ⟨rfl, rfl⟩)
    go_ret
    exact ⟨rfl, HB.out⟩

set_option maxHeartbeats 1000000 in
theorem specWriteOk_deps_false (k c s q v : Int) (a : Option Addr) (xs : List Dp) (cap : Nat) (w : World) (hn : xs.length ≤ 1048576) (hh : IsDeps w a xs)
    (h1 : btw k 0 5 = true) (h2 : tagOkB c s q = true) (h3 : valOkB v false = true) (h4 : depsOkB xs = false) :
    Calls Try.prog 34 #[wrV k c s q v false a xs.length cap] w fun e w' => e = .returned (.bool (writeOkB k c s q v false xs)) ∧ Below w.heap.size w w' := by
  rw [wok_deps h4]
  have h5 := val_btw h3
  have HH : Hid (IsDeps w a xs) := hh
  clear hh h3
  go_enter Try.func34, Try.ntmps34
  go_wp2_with fail
  refine (key_is _ true h1 _).mono ?_
  rintro e w1 ⟨rfl, rfl⟩
  go_wp2_with fail
  refine (specTagOk_is _ _ _ true h2 _).mono ?_
  rintro e w2 ⟨rfl, hb⟩
  have HX := BoxIn.start hb
  have b4 := HX.c4
  have b5 := HX.c5
  have b6 := HX.c6
  clear hb
  go_wp2_with fail
  refine (between_is _ _ _ true h5 _).mono ?_
  rintro e w3 ⟨rfl, rfl⟩
  go_wp2_with fail
  refine (specDepsOk_is false _ xs h4 _ _ hn (HH.out.below HX.below)).mono ?_
  rintro e w4 ⟨rfl, hb4⟩
  have HB : Hid (Below w.heap.size w w4) := below_step HX.below HX.below.size hb4
  clear hb4
  go_wp2
  go_ret
  exact ⟨rfl, HB.out⟩

set_option maxHeartbeats 1000000 in
theorem specWriteOk_deps_true (k c s q v : Int) (a : Option Addr) (xs : List Dp) (cap : Nat) (w : World) (hn : xs.length ≤ 1048576) (hh : IsDeps w a xs)
    (h1 : btw k 0 5 = true) (h2 : tagOkB c s q = true) (h3 : valOkB v true = true) (h4 : depsOkB xs = false) :
    Calls Try.prog 34 #[wrV k c s q v true a xs.length cap] w fun e w' => e = .returned (.bool (writeOkB k c s q v true xs)) ∧ Below w.heap.size w w' := by
  rw [wok_deps h4]
  have h5 := val_btw h3
  have hv : (v != 0) = false := by
    rw [val_dead h3]
    rfl
  have HH : Hid (IsDeps w a xs) := hh
  clear hh h3
  go_enter Try.func34, Try.ntmps34
  go_wp2_with fail
  refine (key_is _ true h1 _).mono ?_
  rintro e w1 ⟨rfl, rfl⟩
  go_wp2_with fail
  refine (specTagOk_is _ _ _ true h2 _).mono ?_
  rintro e w2 ⟨rfl, hb⟩
  have HX := BoxIn.start hb
  have b4 := HX.c4
  have b5 := HX.c5
  have b6 := HX.c6
  clear hb
  go_wp2_with fail
  refine (between_is _ _ _ true h5 _).mono ?_
  rintro e w3 ⟨rfl, rfl⟩
  go_wp2_with fail
  refine (specDepsOk_is false _ xs h4 _ _ hn (HH.out.below HX.below)).mono ?_
  rintro e w4 ⟨rfl, hb4⟩
  have HB : Hid (Below w.heap.size w w4) := below_step HX.below HX.below.size hb4
  clear hb4
  go_wp2
  go_ret
  exact ⟨rfl, HB.out⟩

set_option maxHeartbeats 2000000 in
theorem specWriteOk_rest_false (k c s q v : Int) (a : Option Addr) (xs : List Dp) (cap : Nat) (w : World) (hn : xs.length ≤ 1048576) (hh : IsDeps w a xs)
    (h1 : btw k 0 5 = true) (h2 : tagOkB c s q = true) (h3 : valOkB v false = true) (h4 : depsOkB xs = true) :
    Calls Try.prog 34 #[wrV k c s q v false a xs.length cap] w fun e w' => e = .returned (.bool (writeOkB k c s q v false xs)) ∧ Below w.heap.size w w' := by
  rw [wok_rest h1 h2 h3 h4]
  have h5 := val_btw h3
  have HH : Hid (IsDeps w a xs) := hh
  clear hh h3
  go_enter Try.func34, Try.ntmps34
  go_wp2_with fail
  refine (key_is _ true h1 _).mono ?_
  rintro e w1 ⟨rfl, rfl⟩
  go_wp2_with fail
  refine (specTagOk_is _ _ _ true h2 _).mono ?_
  rintro e w2 ⟨rfl, hb⟩
  have HX := BoxIn.start hb
  have b4 := HX.c4
  have b5 := HX.c5
  have b6 := HX.c6
  clear hb
  go_wp2_with fail
  refine (between_is _ _ _ true h5 _).mono ?_
  rintro e w3 ⟨rfl, rfl⟩
  go_wp2_with fail
  refine (specDepsOk_is true _ xs h4 _ _ hn (HH.out.below HX.below)).mono ?_
  rintro e w4 ⟨rfl, hb4⟩
  have HX4 : Hid (BoxIn w w4 k c s q v false a xs.length cap) := HX.step hb4
  clear hb4 HX b4 b5 b6 h4
  go_wp2
  go_loopw [3] (fun i wr => ∃ j : Nat, j ≤ xs.length ∧ i = .int .i64 j ∧ Hid (∀ l, l < j → ahead xs c s q l = true) ∧ Hid (BoxIn w wr k c s q v false a xs.length cap)) (fun i _ => xs.length - (intOf i).toNat)
  case atStart => exact ⟨0, Nat.zero_le _, rfl, fun l hl => by omega, HX4⟩
  case round =>
    clear HX4
    obtain ⟨j, hj, rfl, HG, HX⟩ := hrel
    have b1 := HX.out.c1
    have b2 := HX.out.c2
    have b3 := HX.out.c3
    have b6 := HX.out.c6
    have hzb := HX.out.lt
    by_cases hj' : j < xs.length
    · obtain ⟨g, o, rfl, hz, e0, e1, e2, e3⟩ := HH.out.at HX.out.below hj'
      have HA : Hid (ahead xs c s q j = decide (tcmp (xs.getD j dz).c (xs.getD j dz).s (xs.getD j dz).q c s q < 0)) := rfl
      have i1 : (0 : Int) ≤ (j : Int) := by omega
      have i2 : (j : Int) < (xs.length : Int) := by omega
      generalize (xs.getD j dz).k = x0 at *
      generalize (xs.getD j dz).c = x1 at *
      generalize (xs.getD j dz).s = x2 at *
      generalize (xs.getD j dz).q = x3 at *
      by_cases hs : tcmp x1 x2 x3 c s q < 0
      · have HG' : Hid (∀ l, l < j + 1 → ahead xs c s q l = true) := fun l hl => by
          by_cases h : l < j
          · exact HG.out l h
          · have : l = j := by omega
            rw [this, HA.out]
            exact decide_eq_true hs
        clear HA
        go_wp2_with fail
        have ge1 := aft_cell hz e1
        have ge2 := aft_cell hz e2
        have ge3 := aft_cell hz e3
        have gb1 := aft_cell hzb b1
        have gb2 := aft_cell hzb b2
        have gb3 := aft_cell hzb b3
        have gb6 := aft_cell hzb b6
        have ne := aft_some wr
        refine wp_region_aft (by kernel_rfl) (by kernel_rfl) ?_
        repeat (first | go_big_quiet_step (first | (go_at_call 61; exact aft_of (specTagCmp_any _ _ _ _ _ _ _))))
        refine wpQuiet_nil ?_
        intro wq hq
        go_wp2
        exact ⟨⟨j + 1, by omega, by go_num, HG', HX.out.step hq⟩, by simp [intOf]; omega⟩
      · have HF : Hid (aheadAll xs c s q = false) := ahead_false hj' (by rw [HA.out]; exact decide_eq_false hs)
        clear HA
        go_wp2_with fail
        have ge1 := aft_cell hz e1
        have ge2 := aft_cell hz e2
        have ge3 := aft_cell hz e3
        have gb1 := aft_cell hzb b1
        have gb2 := aft_cell hzb b2
        have gb3 := aft_cell hzb b3
        have gb6 := aft_cell hzb b6
        have ne := aft_some wr
        refine wp_region_aft (by kernel_rfl) (by kernel_rfl) ?_
        repeat (first | go_big_quiet_step (first | (go_at_call 61; exact aft_of (specTagCmp_any _ _ _ _ _ _ _))))
        refine wpQuiet_nil ?_
        intro wq hq
        go_wp2
        go_ret
        exact ⟨ret_bool HF.out.symm, (HX.out.step hq).below⟩
    · go_wp2
      go_ret
      exact ⟨ret_bool (ahead_true fun i hi => HG.out i (by omega)).symm, HX.out.below⟩

set_option maxHeartbeats 2000000 in
theorem specWriteOk_rest_true (k c s q v : Int) (a : Option Addr) (xs : List Dp) (cap : Nat) (w : World) (hn : xs.length ≤ 1048576) (hh : IsDeps w a xs)
    (h1 : btw k 0 5 = true) (h2 : tagOkB c s q = true) (h3 : valOkB v true = true) (h4 : depsOkB xs = true) :
    Calls Try.prog 34 #[wrV k c s q v true a xs.length cap] w fun e w' => e = .returned (.bool (writeOkB k c s q v true xs)) ∧ Below w.heap.size w w' := by
  rw [wok_rest h1 h2 h3 h4]
  have h5 := val_btw h3
  have hv : (v != 0) = false := by
    rw [val_dead h3]
    rfl
  have HH : Hid (IsDeps w a xs) := hh
  clear hh h3
  go_enter Try.func34, Try.ntmps34
  go_wp2_with fail
  refine (key_is _ true h1 _).mono ?_
  rintro e w1 ⟨rfl, rfl⟩
  go_wp2_with fail
  refine (specTagOk_is _ _ _ true h2 _).mono ?_
  rintro e w2 ⟨rfl, hb⟩
  have HX := BoxIn.start hb
  have b4 := HX.c4
  have b5 := HX.c5
  have b6 := HX.c6
  clear hb
  go_wp2_with fail
  refine (between_is _ _ _ true h5 _).mono ?_
  rintro e w3 ⟨rfl, rfl⟩
  go_wp2_with fail
  refine (specDepsOk_is true _ xs h4 _ _ hn (HH.out.below HX.below)).mono ?_
  rintro e w4 ⟨rfl, hb4⟩
  have HX4 : Hid (BoxIn w w4 k c s q v true a xs.length cap) := HX.step hb4
  clear hb4 HX b4 b5 b6 h4
  go_wp2
  go_loopw [3] (fun i wr => ∃ j : Nat, j ≤ xs.length ∧ i = .int .i64 j ∧ Hid (∀ l, l < j → ahead xs c s q l = true) ∧ Hid (BoxIn w wr k c s q v true a xs.length cap)) (fun i _ => xs.length - (intOf i).toNat)
  case atStart => exact ⟨0, Nat.zero_le _, rfl, fun l hl => by omega, HX4⟩
  case round =>
    clear HX4
    obtain ⟨j, hj, rfl, HG, HX⟩ := hrel
    have b1 := HX.out.c1
    have b2 := HX.out.c2
    have b3 := HX.out.c3
    have b6 := HX.out.c6
    have hzb := HX.out.lt
    by_cases hj' : j < xs.length
    · obtain ⟨g, o, rfl, hz, e0, e1, e2, e3⟩ := HH.out.at HX.out.below hj'
      have HA : Hid (ahead xs c s q j = decide (tcmp (xs.getD j dz).c (xs.getD j dz).s (xs.getD j dz).q c s q < 0)) := rfl
      have i1 : (0 : Int) ≤ (j : Int) := by omega
      have i2 : (j : Int) < (xs.length : Int) := by omega
      generalize (xs.getD j dz).k = x0 at *
      generalize (xs.getD j dz).c = x1 at *
      generalize (xs.getD j dz).s = x2 at *
      generalize (xs.getD j dz).q = x3 at *
      by_cases hs : tcmp x1 x2 x3 c s q < 0
      · have HG' : Hid (∀ l, l < j + 1 → ahead xs c s q l = true) := fun l hl => by
          by_cases h : l < j
          · exact HG.out l h
          · have : l = j := by omega
            rw [this, HA.out]
            exact decide_eq_true hs
        clear HA
        go_wp2_with fail
        have ge1 := aft_cell hz e1
        have ge2 := aft_cell hz e2
        have ge3 := aft_cell hz e3
        have gb1 := aft_cell hzb b1
        have gb2 := aft_cell hzb b2
        have gb3 := aft_cell hzb b3
        have gb6 := aft_cell hzb b6
        have ne := aft_some wr
        refine wp_region_aft (by kernel_rfl) (by kernel_rfl) ?_
        repeat (first | go_big_quiet_step (first | (go_at_call 61; exact aft_of (specTagCmp_any _ _ _ _ _ _ _))))
        refine wpQuiet_nil ?_
        intro wq hq
        go_wp2
        exact ⟨⟨j + 1, by omega, by go_num, HG', HX.out.step hq⟩, by simp [intOf]; omega⟩
      · have HF : Hid (aheadAll xs c s q = false) := ahead_false hj' (by rw [HA.out]; exact decide_eq_false hs)
        clear HA
        go_wp2_with fail
        have ge1 := aft_cell hz e1
        have ge2 := aft_cell hz e2
        have ge3 := aft_cell hz e3
        have gb1 := aft_cell hzb b1
        have gb2 := aft_cell hzb b2
        have gb3 := aft_cell hzb b3
        have gb6 := aft_cell hzb b6
        have ne := aft_some wr
        refine wp_region_aft (by kernel_rfl) (by kernel_rfl) ?_
        repeat (first | go_big_quiet_step (first | (go_at_call 61; exact aft_of (specTagCmp_any _ _ _ _ _ _ _))))
        refine wpQuiet_nil ?_
        intro wq hq
        go_wp2
        go_ret
        exact ⟨ret_bool HF.out.symm, (HX.out.step hq).below⟩
    · go_wp2
      go_ret
      exact ⟨ret_bool (ahead_true fun i hi => HG.out i (by omega)).symm, HX.out.below⟩

theorem specWriteOk_gen (k c s q v : Int) (de : Bool) (a : Option Addr) (xs : List Dp) (len cap : Nat) (w : World) (hl : xs.length = len) (hn : len ≤ 1048576) (hh : IsDeps w a xs) :
    Calls Try.prog 34 #[wrV k c s q v de a len cap] w fun e w' => e = .returned (.bool (writeOkB k c s q v de xs)) ∧ Below w.heap.size w w' := by
  subst hl
  by_cases h : btw k 0 5 = false ∨ tagOkB c s q = false ∨ valOkB v de = false
  · exact specWriteOk_ends k c s q v de a xs cap w h
  · simp only [not_or, Bool.not_eq_false] at h
    obtain ⟨h1, h2, h3⟩ := h
    cases h4 : depsOkB xs
    · cases de
      · exact specWriteOk_deps_false k c s q v a xs cap w hn hh h1 h2 h3 h4
      · exact specWriteOk_deps_true k c s q v a xs cap w hn hh h1 h2 h3 h4
    · cases de
      · exact specWriteOk_rest_false k c s q v a xs cap w hn hh h1 h2 h3 h4
      · exact specWriteOk_rest_true k c s q v a xs cap w hn hh h1 h2 h3 h4

theorem specWriteOk_any (k c s q v : Int) (de : Bool) (g : Nat) (xs : List Dp) (len cap : Nat) (w : World) (hl : xs.length = len) (hn : len ≤ 1048576) (hlt : g < w.heap.size) (hh : HoldsDeps w g 0 xs) :
    Calls Try.prog 34 #[wrV k c s q v de (some ⟨g, 0, none⟩) len cap] w fun e w' => e = .returned (.bool (writeOkB k c s q v de xs)) ∧ Below w.heap.size w w' :=
  specWriteOk_gen k c s q v de _ xs len cap w hl hn (.inr ⟨g, 0, rfl, hlt, hh⟩)

end Go.Proofs.Ytojgahcogpediaa

/- Lists of writes in memory; the contracts of szWriteS, toWriteS, eqWriteS. -/
namespace Go.Proofs.Ytojgahcogpediaa
open Go.ChangeShapes Go.WideShapes Go.ChangeAt Go.RowKit Go.Joins
attribute [local go_sem ↓] Go.wp_at_zero Go.wp_at_succ

structure Wr where
  k : Int
  c : Int
  s : Int
  q : Int
  v : Int
  de : Bool
  xs : List Dp

def wz : Wr := ⟨0, 0, 0, 0, 0, false, []⟩

/-- A write's cells from place o of block b on, its dependencies at a. -/
def WrAt (w : World) (b o : Nat) (x : Wr) (a : Option Addr) (cap : Nat) : Prop :=
  w.cell? ⟨b, o, none⟩ = some (.int .i64 x.k) ∧ w.cell? ⟨b, o + 1, none⟩ = some (.int .i64 x.c) ∧ w.cell? ⟨b, o + 2, none⟩ = some (.int .i64 x.s) ∧ w.cell? ⟨b, o + 3, none⟩ = some (.int .i64 x.q) ∧
  w.cell? ⟨b, o + 4, none⟩ = some (.int .i64 x.v) ∧ w.cell? ⟨b, o + 5, none⟩ = some (.bool x.de) ∧ w.cell? ⟨b, o + 6, none⟩ = some (.slice a x.xs.length cap)

theorem WrAt.of_block {w w' : World} {b o : Nat} {x : Wr} {a : Option Addr} {cap : Nat} (h : WrAt w b o x a cap) (hb : w'.heap[b]? = w.heap[b]?) : WrAt w' b o x a cap := by
  obtain ⟨h0, h1, h2, h3, h4, h5, h6⟩ := h
  have e : ∀ i, w'.cell? ⟨b, i, none⟩ = w.cell? ⟨b, i, none⟩ := fun i => World.cell?_of_block (a := ⟨b, i, none⟩) hb
  exact ⟨(e _).trans h0, (e _).trans h1, (e _).trans h2, (e _).trans h3, (e _).trans h4, (e _).trans h5, (e _).trans h6⟩

/-- What a slice of writes leads to, wherever its writes' dependencies lie. -/
def IsWs (w : World) (a : Option Addr) (ws : List Wr) : Prop :=
  ws = [] ∨ ∃ b o, a = some ⟨b, o, none⟩ ∧ b < w.heap.size ∧ ∀ i, i < ws.length → ∃ a' cap, WrAt w b (o + i * 7) (ws.getD i wz) a' cap ∧ (ws.getD i wz).xs.length ≤ maxLen ∧ IsDeps w a' (ws.getD i wz).xs

theorem IsWs.below {w w' : World} {a : Option Addr} {ws : List Wr} (h : IsWs w a ws) (hb : Below w.heap.size w w') : IsWs w' a ws := by
  rcases h with h | ⟨b, o, ha, hlt, hh⟩
  · exact .inl h
  · refine .inr ⟨b, o, ha, Nat.lt_of_lt_of_le hlt hb.size, fun i hi => ?_⟩
    obtain ⟨a', cap, h1, h2, h3⟩ := hh i hi
    exact ⟨a', cap, h1.of_block (hb.block _ hlt), h2, h3.below hb⟩

/-- A row of writes from block b's begin on, write number i's dependencies from block γ i's begin on. -/
def HoldsWs (w : World) (b : Nat) (ws : List Wr) (γ : Nat → Nat) : Prop :=
  b < w.heap.size ∧ ∀ i, i < ws.length → (∃ cap, WrAt w b (i * 7) (ws.getD i wz) (some ⟨γ i, 0, none⟩) cap) ∧ γ i < w.heap.size ∧ HoldsDeps w (γ i) 0 (ws.getD i wz).xs

theorem HoldsWs.below {w w' : World} {b : Nat} {ws : List Wr} {γ : Nat → Nat} (h : HoldsWs w b ws γ) (hb : Below w.heap.size w w') : HoldsWs w' b ws γ := by
  refine ⟨Nat.lt_of_lt_of_le h.1 hb.size, fun i hi => ?_⟩
  obtain ⟨⟨cap, h1⟩, h2, h3⟩ := h.2 i hi
  exact ⟨⟨cap, h1.of_block (hb.block _ h.1)⟩, Nat.lt_of_lt_of_le h2 hb.size, h3.below hb h2⟩

/-- How much a list of writes is: its length, and those of its writes' dependencies. -/
def bulk : List Wr → Nat
  | [] => 0
  | x :: r => x.xs.length + bulk r

theorem bulk_take (ws : List Wr) (k : Nat) (h : k < ws.length) : bulk (ws.take (k + 1)) = bulk (ws.take k) + (ws.getD k wz).xs.length := by
  induction ws generalizing k with
  | nil => simp at h
  | cons x r ih =>
    cases k with
    | zero => simp [bulk]
    | succ k =>
      have := ih k (by simpa using h)
      simp only [List.take_succ_cons, bulk, List.getD_cons_succ] at this ⊢
      omega

theorem bulk_one (ws : List Wr) (k : Nat) (h : k < ws.length) : (ws.getD k wz).xs.length ≤ bulk ws := by
  induction ws generalizing k with
  | nil => simp at h
  | cons x r ih =>
    cases k with
    | zero => simp [bulk]
    | succ k =>
      have := ih k (by simpa using h)
      simp only [bulk, List.getD_cons_succ]
      omega

theorem ws_at {w w' : World} {a : Option Addr} {ws : List Wr} {n : Nat} (h : IsWs w a ws) (hb : Below w.heap.size w w') (hn : ws.length = n) {k : Nat} (hk : k < n) :
    ∃ b o a' cap, a = some ⟨b, o, none⟩ ∧ WrAt w' b (o + k * 7) (ws.getD k wz) a' cap ∧ (ws.getD k wz).xs.length ≤ maxLen ∧ IsDeps w' a' (ws.getD k wz).xs := by
  rcases h.below hb with h | ⟨b, o, ha, _, hh⟩
  · subst h
    simp at hn
    omega
  · obtain ⟨a', cap, h1, h2, h3⟩ := hh k (by omega)
    exact ⟨b, o, a', cap, ha, h1, h2, h3⟩

set_option maxHeartbeats 1000000 in
theorem szWriteS_any (a : Option Addr) (len cap : Nat) (left : Int) (ws : List Wr) (w : World) (h0 : 0 ≤ left) (h1 : left ≤ 1048576) (hm : len ≤ maxLen) (hl : ws.length = len) (hi : IsWs w a ws) :
    Calls Try.prog 12 #[.slice a len cap, .int .i64 left] w fun e w' => ∃ r : Int, e = .returned (.int .i64 r) ∧ (r = -1 ∨ (0 ≤ r ∧ r = left - len - bulk ws)) ∧ Below w.heap.size w w' := by
  have HI : Hid (IsWs w a ws) := hi
  have HL : Hid (ws.length = len) := hl
  clear hi hl
  unfold maxLen at hm
  go_enter Try.func12, Try.ntmps12
  by_cases hbig : left < (len : Int)
  · go_wp2
    go_ret
    exact ⟨_, rfl, .inl rfl, Below.refl _ _⟩
  go_wp2
  go_loopw [1, 5] (fun l i wr => ∃ (k : Nat) (r : Int), k ≤ len ∧ i = .int .i64 k ∧ l = .int .i64 r ∧ 0 ≤ r ∧ r ≤ 1048576 ∧ Hid (r = left - len - bulk (ws.take k)) ∧ Hid (Below w.heap.size w wr)) (fun _ i _ => len - (intOf i).toNat)
  case atStart => exact ⟨0, left - len, by omega, rfl, rfl, by omega, by omega, by simp [Hid, bulk], Below.refl _ _⟩
  case round =>
    obtain ⟨k, r, hk, rfl, rfl, r0, r1, HR, HB⟩ := hrel
    by_cases hk' : k < len
    · obtain ⟨b, o, a', cp, rfl, hw, hmx, hd⟩ := ws_at HI.out HB.out HL.out hk'
      obtain ⟨e0, e1, e2, e3, e4, e5, e6⟩ := hw
      have HT := Lib.hid (bulk_take ws k (by rw [HL.out]; exact hk'))
      have i1 : (0 : Int) ≤ (k : Int) := by omega
      have i2 : (k : Int) < (len : Int) := by omega
      clear hd
      generalize ws.getD k wz = x at *
      by_cases hx : (x.xs.length : Int) ≤ r
      · go_wp2_with fail
        refine (szWrite_small _ _ _ _ _ _ _ _ _ _ _ r0 r1 hx).mono ?_
        rintro e w2 ⟨rfl, hb⟩
        have HB2 : Hid (Below w.heap.size w w2) := below_step HB.out HB.out.size hb
        clear hb
        go_wp2
        exact ⟨⟨k + 1, _, by omega, by go_num, rfl, by omega, by omega, by have := HT.out; have := HR.out; exact Lib.hid (by omega), HB2⟩, by simp [intOf]; omega⟩
      · go_wp2_with fail
        refine (szWrite_big _ _ _ _ _ _ _ _ _ _ _ r0 r1 (by omega) hmx).mono ?_
        rintro e w2 ⟨rfl, hb⟩
        have HB2 : Hid (Below w.heap.size w w2) := below_step HB.out HB.out.size hb
        clear hb
        go_wp2
        go_ret
        exact ⟨_, rfl, .inl rfl, HB2.out⟩
    · have hkk : k = len := by omega
      subst hkk
      go_wp2
      go_ret
      refine ⟨_, rfl, .inr ⟨r0, ?_⟩, HB.out⟩
      have := HR.out
      rw [show ws.take k = ws from List.take_of_length_le (by rw [HL.out]; exact Nat.le_refl _)] at this
      exact this

/-- Cell j of a row of writes. -/
def wrCell (ws : List Wr) (γ : Nat → Nat) (j : Nat) : Value :=
  if j % 7 = 0 then .int .i64 (ws.getD (j / 7) wz).k else if j % 7 = 1 then .int .i64 (ws.getD (j / 7) wz).c else if j % 7 = 2 then .int .i64 (ws.getD (j / 7) wz).s else if j % 7 = 3 then .int .i64 (ws.getD (j / 7) wz).q
  else if j % 7 = 4 then .int .i64 (ws.getD (j / 7) wz).v else if j % 7 = 5 then .bool (ws.getD (j / 7) wz).de else .slice (some ⟨γ (j / 7), 0, none⟩) (ws.getD (j / 7) wz).xs.length (ws.getD (j / 7) wz).xs.length

/-- Cell j of a row of zero writes. -/
def zeroCell (j : Nat) : Value := if j % 7 = 5 then .bool false else if j % 7 = 6 then .slice none 0 0 else .int .i64 0

def wrFill (ws : List Wr) (γ : Nat → Nat) (k j : Nat) : Value := if j < k * 7 then wrCell ws γ j else zeroCell j

def upd (γ : Nat → Nat) (k g : Nat) : Nat → Nat := fun i => if i = k then g else γ i

theorem upd_at (γ : Nat → Nat) (k g : Nat) : upd γ k g k = g := by simp [upd]

theorem upd_off (γ : Nat → Nat) {k i : Nat} (g : Nat) (h : i ≠ k) : upd γ k g i = γ i := by simp [upd, h]

theorem wrCell0 (ws : List Wr) (γ : Nat → Nat) (k : Nat) : wrCell ws γ (k * 7) = .int .i64 (ws.getD k wz).k := by
  unfold wrCell
  rw [if_pos (by omega), show k * 7 / 7 = k by omega]

theorem wrCell1 (ws : List Wr) (γ : Nat → Nat) (k : Nat) : wrCell ws γ (k * 7 + 1) = .int .i64 (ws.getD k wz).c := by
  unfold wrCell
  rw [if_neg (by omega), if_pos (by omega), show (k * 7 + 1) / 7 = k by omega]

theorem wrCell2 (ws : List Wr) (γ : Nat → Nat) (k : Nat) : wrCell ws γ (k * 7 + 2) = .int .i64 (ws.getD k wz).s := by
  unfold wrCell
  rw [if_neg (by omega), if_neg (by omega), if_pos (by omega), show (k * 7 + 2) / 7 = k by omega]

theorem wrCell3 (ws : List Wr) (γ : Nat → Nat) (k : Nat) : wrCell ws γ (k * 7 + 3) = .int .i64 (ws.getD k wz).q := by
  unfold wrCell
  rw [if_neg (by omega), if_neg (by omega), if_neg (by omega), if_pos (by omega), show (k * 7 + 3) / 7 = k by omega]

theorem wrCell4 (ws : List Wr) (γ : Nat → Nat) (k : Nat) : wrCell ws γ (k * 7 + 4) = .int .i64 (ws.getD k wz).v := by
  unfold wrCell
  rw [if_neg (by omega), if_neg (by omega), if_neg (by omega), if_neg (by omega), if_pos (by omega), show (k * 7 + 4) / 7 = k by omega]

theorem wrCell5 (ws : List Wr) (γ : Nat → Nat) (k : Nat) : wrCell ws γ (k * 7 + 5) = .bool (ws.getD k wz).de := by
  unfold wrCell
  rw [if_neg (by omega), if_neg (by omega), if_neg (by omega), if_neg (by omega), if_neg (by omega), if_pos (by omega), show (k * 7 + 5) / 7 = k by omega]

theorem wrCell6 (ws : List Wr) (γ : Nat → Nat) (k : Nat) : wrCell ws γ (k * 7 + 6) = .slice (some ⟨γ k, 0, none⟩) (ws.getD k wz).xs.length (ws.getD k wz).xs.length := by
  unfold wrCell
  rw [if_neg (by omega), if_neg (by omega), if_neg (by omega), if_neg (by omega), if_neg (by omega), if_neg (by omega), show (k * 7 + 6) / 7 = k by omega]

theorem wrCell_off (ws : List Wr) (γ : Nat → Nat) (k g j : Nat) (h : j < k * 7) : wrCell ws (upd γ k g) j = wrCell ws γ j := by
  unfold wrCell
  rw [upd_off γ g (show j / 7 ≠ k by omega)]

theorem wrFill_step (ws : List Wr) (γ : Nat → Nat) (k g j : Nat) :
    (if j = k * 7 + 6 then Value.slice (some ⟨g, 0, none⟩) (ws.getD k wz).xs.length (ws.getD k wz).xs.length else if j = k * 7 + 5 then Value.bool (ws.getD k wz).de else if j = k * 7 + 4 then Value.int .i64 (ws.getD k wz).v else if j = k * 7 + 3 then Value.int .i64 (ws.getD k wz).q else if j = k * 7 + 2 then Value.int .i64 (ws.getD k wz).s else if j = k * 7 + 1 then Value.int .i64 (ws.getD k wz).c else if j = k * 7 then Value.int .i64 (ws.getD k wz).k else wrFill ws γ k j) = wrFill ws (upd γ k g) (k + 1) j := by
  unfold wrFill
  by_cases h6 : j = k * 7 + 6
  · rw [if_pos h6, if_pos (by omega), h6, wrCell6, upd_at]
  rw [if_neg h6]
  by_cases h5 : j = k * 7 + 5
  · rw [if_pos h5, if_pos (by omega), h5, wrCell5]
  rw [if_neg h5]
  by_cases h4 : j = k * 7 + 4
  · rw [if_pos h4, if_pos (by omega), h4, wrCell4]
  rw [if_neg h4]
  by_cases h3 : j = k * 7 + 3
  · rw [if_pos h3, if_pos (by omega), h3, wrCell3]
  rw [if_neg h3]
  by_cases h2 : j = k * 7 + 2
  · rw [if_pos h2, if_pos (by omega), h2, wrCell2]
  rw [if_neg h2]
  by_cases h1 : j = k * 7 + 1
  · rw [if_pos h1, if_pos (by omega), h1, wrCell1]
  rw [if_neg h1]
  by_cases h0 : j = k * 7
  · rw [if_pos h0, if_pos (by omega), h0, wrCell0]
  rw [if_neg h0]
  by_cases hl : j < k * 7
  · rw [if_pos hl, if_pos (by omega), wrCell_off _ _ _ _ _ hl]
  · rw [if_neg hl, if_neg (by omega)]

theorem wrAt_of_row {w : World} {b t : Nat} {ws : List Wr} {γ : Nat → Nat} (h : w.rowIs b t (ws.length * 7) (wrFill ws γ ws.length)) {i : Nat} (hi : i < ws.length) : WrAt w b (i * 7) (ws.getD i wz) (some ⟨γ i, 0, none⟩) (ws.getD i wz).xs.length := by
  refine ⟨?_, ?_, ?_, ?_, ?_, ?_, ?_⟩
  · rw [h.cell (by omega), wrFill, if_pos (by omega), wrCell0]
  · rw [h.cell (by omega), wrFill, if_pos (by omega), wrCell1]
  · rw [h.cell (by omega), wrFill, if_pos (by omega), wrCell2]
  · rw [h.cell (by omega), wrFill, if_pos (by omega), wrCell3]
  · rw [h.cell (by omega), wrFill, if_pos (by omega), wrCell4]
  · rw [h.cell (by omega), wrFill, if_pos (by omega), wrCell5]
  · rw [h.cell (by omega), wrFill, if_pos (by omega), wrCell6]

theorem wrow_start (w : World) (t n : Nat) (ws : List Wr) (γ : Nat → Nat) : (w.alloc (.cells (madeCells #[.int .i64 0, .int .i64 0, .int .i64 0, .int .i64 0, .int .i64 0, .bool false, .slice none 0 0] (n * 7)) t)).rowIs w.heap.size t (n * 7) (wrFill ws γ 0) := by
  refine ⟨_, Go.Deep.blk_alloc_new _ _, size_madeCells _ _, fun i hi => ?_⟩
  have e : wrFill ws γ 0 i = zeroCell i := by unfold wrFill; rw [if_neg (by omega)]
  rw [e]
  have h7 : i % 7 = 0 ∨ i % 7 = 1 ∨ i % 7 = 2 ∨ i % 7 = 3 ∨ i % 7 = 4 ∨ i % 7 = 5 ∨ i % 7 = 6 := by omega
  rcases h7 with h | h | h | h | h | h | h <;> simp [madeCells, zeroCell, hi, h]

abbrev set7 (w : World) (g o : Nat) (x : Wr) (a : Option Addr) (len cap : Nat) : World :=
  ((((((w.setCell ⟨g, o, none⟩ (.int .i64 x.k)).setCell ⟨g, o + 1, none⟩ (.int .i64 x.c)).setCell ⟨g, o + 2, none⟩ (.int .i64 x.s)).setCell ⟨g, o + 3, none⟩ (.int .i64 x.q)).setCell ⟨g, o + 4, none⟩ (.int .i64 x.v)).setCell ⟨g, o + 5, none⟩ (.bool x.de)).setCell ⟨g, o + 6, none⟩ (.slice a len cap)

theorem wrow_step {w : World} {b t n : Nat} {ws : List Wr} {γ : Nat → Nat} {k : Nat} (g : Nat) (h : w.rowIs b t n (wrFill ws γ k)) :
    (set7 w b (k * 7) (ws.getD k wz) (some ⟨g, 0, none⟩) (ws.getD k wz).xs.length (ws.getD k wz).xs.length).rowIs b t n (wrFill ws (upd γ k g) (k + 1)) :=
  (((((((h.set _ _).set _ _).set _ _).set _ _).set _ _).set _ _).set _ _).congr (fun j _ => wrFill_step ws γ k g j)

theorem below_set7 {B : Nat} {a w : World} {g : Nat} (h : Below B a w) (hg : B ≤ g) (o : Nat) (x : Wr) (ad : Option Addr) (len cap : Nat) : Below B a (set7 w g o x ad len cap) :=
  ((((((h.setCell (p := ⟨g, o, none⟩) hg _).setCell (p := ⟨g, o + 1, none⟩) hg _).setCell (p := ⟨g, o + 2, none⟩) hg _).setCell (p := ⟨g, o + 3, none⟩) hg _).setCell (p := ⟨g, o + 4, none⟩) hg _).setCell (p := ⟨g, o + 5, none⟩) hg _).setCell (p := ⟨g, o + 6, none⟩) hg _

theorem HoldsDeps.set7 {w : World} {b o : Nat} {xs : List Dp} (h : HoldsDeps w b o xs) {g : Nat} (hne : g ≠ b) (o' : Nat) (x : Wr) (a : Option Addr) (len cap : Nat) : HoldsDeps (set7 w g o' x a len cap) b o xs :=
  ((((((h.set hne _).set hne _).set hne _).set hne _).set hne _).set hne _).set hne _

theorem infoWr : (Try.prog.info? 41).map (fun i => (i.zero, i.size, i.bytes)) = some (some (wrV 0 0 0 0 0 false none 0 0), 7, 72) := by kernel_rfl

theorem run_make_ws (n : Nat) (hn : n ≤ 1048576) (w : World) :
    (Instr.makeSlice 44 (.int .i64 (n : Int)) (.int .i64 (n : Int))).run Try.prog w = .ok (.slice (some ⟨w.heap.size, 0, none⟩) n n) (w.alloc (.cells (madeCells #[.int .i64 0, .int .i64 0, .int .i64 0, .int .i64 0, .int .i64 0, .bool false, .slice none 0 0] (n * 7)) 41)) := by
  obtain ⟨i, hi, hzz⟩ := Option.map_eq_some_iff.1 infoWr
  simp only [Prod.mk.injEq] at hzz
  obtain ⟨hz, hs, hb⟩ := hzz
  have hr := run_make (P := Try.prog) w 44 41 i _ Try.underlying44 hi hz .i64 .i64 n n (by omega) (Int.le_refl _) (by rw [hb]; omega) (by omega)
  simp only [Int.toNat_natCast, hs] at hr
  exact hr

/-- The blocks of the dependencies of the first k writes: each of its own, behind block B, holding what is asked. -/
def Rows7 (w : World) (B : Nat) (ws : List Wr) (γ : Nat → Nat) (k : Nat) : Prop :=
  (∀ i, i < k → B < γ i ∧ γ i < w.heap.size ∧ HoldsDeps w (γ i) 0 (ws.getD i wz).xs ∧ ∀ o, w.frozen? ⟨γ i, o, none⟩ = false) ∧ ∀ i j, i < k → j < k → γ i = γ j → i = j

theorem Rows7.below {w w' : World} {B : Nat} {ws : List Wr} {γ : Nat → Nat} {k : Nat} (h : Rows7 w B ws γ k) (hb : Below w.heap.size w w') : Rows7 w' B ws γ k :=
  ⟨fun i hi => ⟨(h.1 i hi).1, Nat.lt_of_lt_of_le (h.1 i hi).2.1 hb.size, (h.1 i hi).2.2.1.below hb (h.1 i hi).2.1, fun o => (hb.frozen (p := ⟨γ i, o, none⟩) (h.1 i hi).2.1).trans ((h.1 i hi).2.2.2 o)⟩, h.2⟩

theorem Rows7.step {w w' : World} {B : Nat} {ws : List Wr} {γ : Nat → Nat} {k g : Nat} (h : Rows7 w B ws γ k) (hb : Below w.heap.size w w') (hB : B < w.heap.size) (hg : w.heap.size ≤ g) (hg' : g < w'.heap.size) (hh : HoldsDeps w' g 0 (ws.getD k wz).xs) (hz : ∀ o, w'.frozen? ⟨g, o, none⟩ = false) (o : Nat) (x : Wr) (a : Option Addr) (len cap : Nat) :
    Rows7 (set7 w' B o x a len cap) B ws (upd γ k g) (k + 1) := by
  have h' := h.below hb
  refine ⟨fun i hi => ?_, fun i j hi hj he => ?_⟩
  · by_cases hik : i = k
    · subst hik
      rw [upd_at]
      exact ⟨by omega, by simpa using hg', hh.set7 (by omega) _ _ _ _ _, fun o' => by simpa using hz o'⟩
    · rw [upd_off γ g hik]
      obtain ⟨h1, h2, h3, h4⟩ := h'.1 i (by omega)
      exact ⟨h1, by simpa using h2, h3.set7 (by omega) _ _ _ _ _, fun o' => by simpa using h4 o'⟩
  · by_cases hik : i = k
    · by_cases hjk : j = k
      · omega
      · rw [hik, upd_at, upd_off γ g hjk] at he
        have := (h.1 j (by omega)).2.1
        omega
    · by_cases hjk : j = k
      · rw [hjk, upd_at, upd_off γ g hik] at he
        have := (h.1 i (by omega)).2.1
        omega
      · rw [upd_off γ g hik, upd_off γ g hjk] at he
        exact h.2 i j (by omega) (by omega) he

/-- Writes of one's own, from block number base on: each row in a block of its own, none of them shut. -/
structure OwnWs (w : World) (base b : Nat) (ws : List Wr) (γ : Nat → Nat) : Prop where
  holds : HoldsWs w b ws γ
  le : base ≤ b
  open_ : ∀ o, w.frozen? ⟨b, o, none⟩ = false
  deps : ∀ i, i < ws.length → base ≤ γ i ∧ γ i ≠ b ∧ ∀ o, w.frozen? ⟨γ i, o, none⟩ = false
  inj : ∀ i j, i < ws.length → j < ws.length → γ i = γ j → i = j

theorem OwnWs.below {w w' : World} {base b : Nat} {ws : List Wr} {γ : Nat → Nat} (h : OwnWs w base b ws γ) (hb : Below w.heap.size w w') : OwnWs w' base b ws γ where
  holds := h.holds.below hb
  le := h.le
  open_ := fun o => (hb.frozen (p := ⟨b, o, none⟩) h.holds.1).trans (h.open_ o)
  deps := fun i hi => ⟨(h.deps i hi).1, (h.deps i hi).2.1, fun o => (hb.frozen (p := ⟨γ i, o, none⟩) (h.holds.2 i hi).2.1).trans ((h.deps i hi).2.2 o)⟩
  inj := h.inj

set_option maxHeartbeats 2000000 in
theorem toWriteS_any (a : Option Addr) (len cap : Nat) (ws : List Wr) (w : World) (hn : len ≤ 1048576) (hl : ws.length = len) (hx : ∀ i, i < len → (ws.getD i wz).xs.length ≤ 1048576) (hi : IsWs w a ws) :
    Calls Try.prog 14 #[.slice a len cap] w fun e w' => ∃ γ, e = .returned (.slice (some ⟨w.heap.size, 0, none⟩) len len) ∧ OwnWs w' w.heap.size w.heap.size ws γ ∧ Below w.heap.size w w' := by
  have HI : Hid (IsWs w a ws) := hi
  have HL : Hid (ws.length = len) := hl
  have HX : Hid (∀ i, i < len → (ws.getD i wz).xs.length ≤ 1048576) := hx
  clear hi hl hx
  have hmk := run_make_ws len hn
  go_enter Try.func14, Try.ntmps14
  go_wp2
  clear hmk
  go_loopw [4] (fun i wr => ∃ (k : Nat) (γ : Nat → Nat), k ≤ len ∧ i = .int .i64 k ∧ Hid (wr.rowIs w.heap.size 41 (len * 7) (wrFill ws γ k)) ∧ Hid (Rows7 wr w.heap.size ws γ k) ∧ Hid (Below w.heap.size w wr)) (fun i _ => len - (intOf i).toNat)
  case atStart => exact ⟨0, fun _ => 0, Nat.zero_le _, rfl, wrow_start _ _ _ _ _, ⟨fun i hi => absurd hi (Nat.not_lt_zero i), fun i j hi => absurd hi (Nat.not_lt_zero i)⟩, (Below.refl _ _).alloc (Nat.le_refl _) _⟩
  case round =>
    obtain ⟨k, γ, hk, rfl, HR, HG, HB⟩ := hrel
    by_cases hk' : k < len
    · obtain ⟨b, o, a', cp, rfl, hw, hmx, hd⟩ := ws_at HI.out HB.out HL.out hk'
      obtain ⟨e0, e1, e2, e3, e4, e5, e6⟩ := hw
      have HD : Hid (IsDeps wr a' (ws.getD k wz).xs) := hd
      have hxl := HX.out k hk'
      have i1 : (0 : Int) ≤ (k : Int) := by omega
      have i2 : (k : Int) < (len : Int) := by omega
      clear hd hmx
      have HS : Hid (∀ (w2 : World) (g : Nat), w2.rowIs w.heap.size 41 (len * 7) (wrFill ws γ k) → (set7 w2 w.heap.size (k * 7) (ws.getD k wz) (some ⟨g, 0, none⟩) (ws.getD k wz).xs.length (ws.getD k wz).xs.length).rowIs w.heap.size 41 (len * 7) (wrFill ws (upd γ k g) (k + 1))) := fun w2 g h2 => wrow_step g h2
      have HG2 : Hid (∀ (w2 : World) (g : Nat), Below wr.heap.size wr w2 → wr.heap.size ≤ g → g < w2.heap.size → HoldsDeps w2 g 0 (ws.getD k wz).xs → (∀ o, w2.frozen? ⟨g, o, none⟩ = false) → Rows7 (set7 w2 w.heap.size (k * 7) (ws.getD k wz) (some ⟨g, 0, none⟩) (ws.getD k wz).xs.length (ws.getD k wz).xs.length) w.heap.size ws (upd γ k g) (k + 1)) := fun w2 g h2 h3 h4 h5 h6 => HG.out.step h2 HR.out.lt h3 h4 h5 h6 _ _ _ _ _
      generalize ws.getD k wz = x at *
      obtain ⟨xk, xc, xs', xq, xv, xd, xx⟩ := x
      simp only at e0 e1 e2 e3 e4 e5 e6 hxl HS HG2 HD
      go_wp2_with fail
      refine (toWrite_own _ _ _ _ _ _ _ _ _ xx _ hxl rfl HD.out).mono ?_
      rintro e w2 ⟨g, rfl, hg1, hg2, hg3, hg4, hb⟩
      have HR2 : Hid (w2.rowIs w.heap.size 41 (len * 7) (wrFill ws γ k)) := HR.out.of_block (hb.block _ HR.out.lt)
      have HB2 : Hid (Below w.heap.size w w2) := below_step HB.out HB.out.size hb
      have HG3 := Lib.hid (HG2.out w2 g hb hg1 hg2 hg3 hg4)
      have c0 := HR2.out.cell (i := k * 7) (by omega)
      have c1 := HR2.out.cell (i := k * 7 + 1) (by omega)
      have c2 := HR2.out.cell (i := k * 7 + 2) (by omega)
      have c3 := HR2.out.cell (i := k * 7 + 3) (by omega)
      have c4 := HR2.out.cell (i := k * 7 + 4) (by omega)
      have c5 := HR2.out.cell (i := k * 7 + 5) (by omega)
      have c6 := HR2.out.cell (i := k * 7 + 6) (by omega)
      have fz := HR2.out.frozen
      clear hb hg1 hg2 hg3 hg4 HG2
      go_wp2
      exact ⟨⟨k + 1, upd γ k g, by omega, by go_num, HS.out _ g HR2.out, HG3.out, below_set7 HB2.out (Nat.le_refl _) (k * 7) ⟨xk, xc, xs', xq, xv, xd, xx⟩ (some ⟨g, 0, none⟩) xx.length xx.length⟩, by simp [intOf]; omega⟩
    · have hkk : k = len := by omega
      subst hkk
      go_wp2
      go_ret
      have hr := HR.out
      have hz := hr.lt
      rw [← HL.out] at hr
      have HL' := HL.out
      refine ⟨γ, rfl, ⟨⟨hz, fun i hi => ⟨⟨_, wrAt_of_row (by rw [HL'] at hr ⊢; exact hr) hi⟩, (HG.out.1 i (by omega)).2.1, (HG.out.1 i (by omega)).2.2.1⟩⟩, Nat.le_refl _, hr.frozen, fun i hi => ⟨?_, ?_, (HG.out.1 i (by omega)).2.2.2⟩, fun i j hi hj => HG.out.2 i j (by omega) (by omega)⟩, HB.out⟩
      · have := (HG.out.1 i (by omega)).1
        omega
      · have := (HG.out.1 i (by omega)).1
        omega

end Go.Proofs.Ytojgahcogpediaa

/- Contracts of eqWriteS and of the specification's MapOk. -/
namespace Go.Proofs.Ytojgahcogpediaa
open Go.ChangeShapes Go.WideShapes Go.ChangeAt Go.RowKit Go.Joins
attribute [local go_sem ↓] Go.wp_at_zero Go.wp_at_succ

abbrev wrOf (x : Wr) (a : Option Addr) (cap : Nat) : Value := wrV x.k x.c x.s x.q x.v x.de a x.xs.length cap

abbrev okW (x : Wr) : Bool := writeOkB x.k x.c x.s x.q x.v x.de x.xs

/-- Each write's dependencies are not too many. -/
def Few (ws : List Wr) : Prop := ∀ i, i < ws.length → (ws.getD i wz).xs.length ≤ 1048576

theorem few_of_bulk {ws : List Wr} (h : bulk ws ≤ 1048576) : Few ws := fun i hi => Nat.le_trans (bulk_one ws i hi) h

/-- One write of a row, in this world and in each later one. -/
theorem HoldsWs.get {w w' : World} {b : Nat} {ws : List Wr} {γ : Nat → Nat} (h : HoldsWs w b ws γ) (hb : Below w.heap.size w w') {i n : Nat} (hn : ws.length = n) (hi : i < n) :
    ∃ cap, b < w'.heap.size ∧ WrAt w' b (i * 7) (ws.getD i wz) (some ⟨γ i, 0, none⟩) cap ∧ γ i < w'.heap.size ∧ HoldsDeps w' (γ i) 0 (ws.getD i wz).xs := by
  obtain ⟨⟨cap, h1⟩, h2, h3⟩ := (h.below hb).2 i (by omega)
  exact ⟨cap, (h.below hb).1, h1, h2, h3⟩

/-- One write of a slice that is not empty, in this world and in each later one. -/
theorem IsWs.at {w w' : World} {a : Option Addr} {ws : List Wr} (h : IsWs w a ws) (hb : Below w.heap.size w w') {k n : Nat} (hn : ws.length = n) (hk : k < n) :
    ∃ b o a' cap, a = some ⟨b, o, none⟩ ∧ b < w'.heap.size ∧ WrAt w' b (o + k * 7) (ws.getD k wz) a' cap ∧ IsDeps w' a' (ws.getD k wz).xs := by
  rcases h.below hb with h | ⟨b, o, ha, hlt, hh⟩
  · subst h
    simp at hn
    omega
  · obtain ⟨a', cap, h1, _, h3⟩ := hh k (by omega)
    exact ⟨b, o, a', cap, ha, hlt, h1, h3⟩

/-- One write of a slice, in every later world. -/
theorem IsWs.later {w : World} {a : Option Addr} {ws : List Wr} (h : IsWs w a ws) {k n : Nat} (hn : ws.length = n) (hk : k < n) :
    ∃ b o a' cap, a = some ⟨b, o, none⟩ ∧ ∀ w', Below w.heap.size w w' → b < w'.heap.size ∧ WrAt w' b (o + k * 7) (ws.getD k wz) a' cap ∧ IsDeps w' a' (ws.getD k wz).xs := by
  rcases h with h | ⟨b, o, ha, hlt, hh⟩
  · subst h
    simp at hn
    omega
  · obtain ⟨a', cap, h1, _, h3⟩ := hh k (by omega)
    exact ⟨b, o, a', cap, ha, fun w' hb => ⟨Nat.lt_of_lt_of_le hlt hb.size, h1.of_block (hb.block _ hlt), h3.below hb⟩⟩

theorem IsWs.keyAt {w w' : World} {b o : Nat} {ws : List Wr} (h : IsWs w (some ⟨b, o, none⟩) ws) (hb : Below w.heap.size w w') {k n : Nat} (hn : ws.length = n) (hk : k < n) : w'.cell? ⟨b, o + k * 7, none⟩ = some (.int .i64 (ws.getD k wz).k) := by
  obtain ⟨b', o', _, _, he, _, ⟨h0, _⟩, _⟩ := h.at hb hn hk
  injection he with he
  injection he with e1 e2
  subst e1 e2
  exact h0

theorem HoldsWs.isWs {w : World} {b : Nat} {ws : List Wr} {γ : Nat → Nat} (h : HoldsWs w b ws γ) (hx : Few ws) : IsWs w (some ⟨b, 0, none⟩) ws := by
  refine .inr ⟨b, 0, rfl, h.1, fun i hi => ?_⟩
  obtain ⟨⟨cap, h1⟩, h2, h3⟩ := h.2 i hi
  exact ⟨_, cap, by rw [Nat.zero_add]; exact h1, by have := hx i hi; unfold maxLen; omega, .inr ⟨_, _, rfl, h2, h3⟩⟩

set_option maxHeartbeats 2000000 in
theorem eqWriteS_gen (a a' : Option Addr) (n cap cap' : Nat) (ws : List Wr) (w : World) (hn : ws.length = n) (hm : n ≤ 1048576) (hx : Few ws) (hh : IsWs w a ws) (hh' : IsWs w a' ws) :
    Calls Try.prog 17 #[.slice a n cap, .slice a' n cap'] w fun e w' => e = .returned (.bool true) ∧ Below w.heap.size w w' := by
  have HH : Hid (IsWs w a ws) := hh
  have HH' : Hid (IsWs w a' ws) := hh'
  have HN : Hid (ws.length = n) := hn
  have HX : Hid (Few ws) := hx
  clear hh hh' hn hx
  go_enter Try.func17, Try.ntmps17
  go_wp2
  go_loopw [5] (fun i wr => ∃ k : Nat, k ≤ n ∧ i = .int .i64 k ∧ Hid (Below w.heap.size w wr)) (fun i _ => n - (intOf i).toNat)
  case atStart => exact ⟨0, Nat.zero_le _, rfl, Below.refl _ _⟩
  case round =>
    obtain ⟨k, hk, rfl, HB⟩ := hrel
    by_cases hk' : k < n
    · obtain ⟨b, o, ad, cp, rfl, hz, ⟨e0, e1, e2, e3, e4, e5, e6⟩, hd⟩ := HH.out.at HB.out HN.out hk'
      obtain ⟨b', o', ad', cp', rfl, hz', ⟨f0, f1, f2, f3, f4, f5, f6⟩, hd'⟩ := HH'.out.at HB.out HN.out hk'
      have i1 : (0 : Int) ≤ (k : Int) := by omega
      have i2 : (k : Int) < (n : Int) := by omega
      have HC : Hid (∀ p : Aft wr.heap.size wr, Calls Try.prog 16 #[wrOf (ws.getD k wz) ad cp, wrOf (ws.getD k wz) ad' cp'] p.now fun e w' => e = .returned (.bool true) ∧ Below p.now.heap.size p.now w') := fun p =>
        eqWrite_gen _ _ _ _ _ _ _ _ _ _ _ (ws.getD k wz).xs _ (HX.out k (by rw [HN.out]; exact hk')) rfl (hd.below p.below) (hd'.below p.below)
      clear hd hd' HH HH'
      generalize ws.getD k wz = x at *
      obtain ⟨xk, xc, xs', xq, xv, xd, xx⟩ := x
      simp only at e0 e1 e2 e3 e4 e5 e6 f0 f1 f2 f3 f4 f5 f6 HC
      go_wp2_with fail
      have ge0 := aft_cell hz e0
      have ge1 := aft_cell hz e1
      have ge2 := aft_cell hz e2
      have ge3 := aft_cell hz e3
      have ge4 := aft_cell hz e4
      have ge5 := aft_cell hz e5
      have ge6 := aft_cell hz e6
      have gf0 := aft_cell hz' f0
      have gf1 := aft_cell hz' f1
      have gf2 := aft_cell hz' f2
      have gf3 := aft_cell hz' f3
      have gf4 := aft_cell hz' f4
      have gf5 := aft_cell hz' f5
      have gf6 := aft_cell hz' f6
      have ne := aft_some wr
      refine wp_region_aft (by kernel_rfl) (by kernel_rfl) ?_
      repeat (first | go_big_quiet_step (first | (go_at_call 16; exact aft_of (HC.out _))))
      refine wpQuiet_nil ?_
      intro wq hq
      go_wp2
      exact ⟨⟨k + 1, by omega, by go_num, below_step HB.out HB.out.size hq⟩, by simp [intOf]; omega⟩
    · go_wp2
      go_ret
      exact ⟨rfl, HB.out⟩

theorem eqWriteS_same (b b' n cap cap' : Nat) (ws : List Wr) (γ γ' : Nat → Nat) (w : World) (hn : ws.length = n) (hm : n ≤ 1048576) (hx : Few ws) (hh : HoldsWs w b ws γ) (hh' : HoldsWs w b' ws γ') :
    Calls Try.prog 17 #[.slice (some ⟨b, 0, none⟩) n cap, .slice (some ⟨b', 0, none⟩) n cap'] w fun e w' => e = .returned (.bool true) ∧ Below w.heap.size w w' :=
  eqWriteS_gen _ _ n cap cap' ws w hn hm hx (hh.isWs hx) (hh'.isWs hx)

def wrGood (ws : List Wr) (i : Nat) : Bool := okW (ws.getD i wz) && decide (i = 0 ∨ (ws.getD (i - 1) wz).k < (ws.getD i wz).k)

def mapOkB (ws : List Wr) : Bool := (List.range ws.length).all (wrGood ws)

theorem mapOk_true {ws : List Wr} (h : ∀ i, i < ws.length → wrGood ws i = true) : mapOkB ws = true := by
  unfold mapOkB
  rw [List.all_eq_true]
  intro i hi
  exact h i (List.mem_range.1 hi)

theorem mapOk_false {ws : List Wr} {i : Nat} (hi : i < ws.length) (h : wrGood ws i = false) : mapOkB ws = false := by
  unfold mapOkB
  rw [List.all_eq_false]
  exact ⟨i, List.mem_range.2 hi, by simp [h]⟩

theorem good_next {ws : List Wr} {k : Nat} (h : ∀ j, j < k → wrGood ws j = true) (hk : wrGood ws k = true) : ∀ j, j < k + 1 → wrGood ws j = true := fun j hj => by
  by_cases h' : j < k
  · exact h j h'
  · have : j = k := by omega
    rw [this]
    exact hk

set_option maxHeartbeats 4000000 in
theorem specMapOk_gen (a : Option Addr) (n cap : Nat) (ws : List Wr) (w : World) (hn : ws.length = n) (hm : n ≤ 1048576) (hx : Few ws) (hh : IsWs w a ws) :
    Calls Try.prog 33 #[.slice a n cap] w fun e w' => e = .returned (.bool (mapOkB ws)) ∧ Below w.heap.size w w' := by
  have HH : Hid (IsWs w a ws) := hh
  have HN : Hid (ws.length = n) := hn
  have HX : Hid (Few ws) := hx
  clear hh hn hx
  go_enter Try.func33, Try.ntmps33
  go_wp2
  go_loopw [3] (fun i wr => ∃ k : Nat, k ≤ n ∧ i = .int .i64 k ∧ Hid (∀ j, j < k → wrGood ws j = true) ∧ Hid (Below w.heap.size w wr)) (fun i _ => n - (intOf i).toNat)
  case atStart => exact ⟨0, Nat.zero_le _, rfl, fun j hj => by omega, Below.refl _ _⟩
  case round =>
    obtain ⟨k, hk, rfl, HG, HB⟩ := hrel
    by_cases hk' : k < n
    · obtain ⟨b, o, ad, cp, rfl, hz, ⟨e0, e1, e2, e3, e4, e5, e6⟩, hd⟩ := HH.out.at HB.out HN.out hk'
      have i1 : (0 : Int) ≤ (k : Int) := by omega
      have i2 : (k : Int) < (n : Int) := by omega
      have HD : Hid (wrGood ws k = (okW (ws.getD k wz) && decide (k = 0 ∨ (ws.getD (k - 1) wz).k < (ws.getD k wz).k))) := rfl
      have HC : Hid (∀ p : Aft wr.heap.size wr, Calls Try.prog 34 #[wrOf (ws.getD k wz) ad cp] p.now fun e w' => e = .returned (.bool (okW (ws.getD k wz))) ∧ Below p.now.heap.size p.now w') := fun p =>
        specWriteOk_gen _ _ _ _ _ _ _ (ws.getD k wz).xs _ _ _ rfl (HX.out k (by rw [HN.out]; exact hk')) (hd.below p.below)
      clear hd
      cases h1 : okW (ws.getD k wz)
      · have HF : Hid (mapOkB ws = false) := mapOk_false (by rw [HN.out]; exact hk') (by rw [HD.out, h1]; rfl)
        clear HD
        rw [h1] at HC
        clear h1
        generalize ws.getD k wz = x at *
        obtain ⟨xk, xc, xs', xq, xv, xd, xx⟩ := x
        simp only at e0 e1 e2 e3 e4 e5 e6 HC
        go_wp2_with fail
        have ge0 := aft_cell hz e0
        have ge1 := aft_cell hz e1
        have ge2 := aft_cell hz e2
        have ge3 := aft_cell hz e3
        have ge4 := aft_cell hz e4
        have ge5 := aft_cell hz e5
        have ge6 := aft_cell hz e6
        have ne := aft_some wr
        refine wp_region_aft (by kernel_rfl) (by kernel_rfl) ?_
        repeat (first | go_big_quiet_step (first | (go_at_call 34; exact aft_of (HC.out _))))
        refine wpQuiet_nil ?_
        intro wq hq
        go_wp2
        go_ret
        exact ⟨ret_bool HF.out.symm, below_step HB.out HB.out.size hq⟩
      · rw [h1] at HC
        by_cases h0 : k = 0
        · have HG' : Hid (∀ j, j < k + 1 → wrGood ws j = true) := good_next HG.out (by rw [HD.out, h1, Bool.true_and]; exact decide_eq_true (Or.inl h0))
          have hd : decide (0 < k) = false := by simp [h0]
          clear HD h0 h1
          generalize ws.getD k wz = x at *
          obtain ⟨xk, xc, xs', xq, xv, xd, xx⟩ := x
          simp only at e0 e1 e2 e3 e4 e5 e6 HC
          go_wp2_with fail
          have ge0 := aft_cell hz e0
          have ge1 := aft_cell hz e1
          have ge2 := aft_cell hz e2
          have ge3 := aft_cell hz e3
          have ge4 := aft_cell hz e4
          have ge5 := aft_cell hz e5
          have ge6 := aft_cell hz e6
          have ne := aft_some wr
          refine wp_region_aft (by kernel_rfl) (by kernel_rfl) ?_
          repeat (first | go_big_quiet_step (first | (go_at_call 34; exact aft_of (HC.out _))))
          refine wpQuiet_nil ?_
          intro wq hq
          go_wp2
          exact ⟨⟨k + 1, by omega, by go_num, HG', below_step HB.out HB.out.size hq⟩, by simp [intOf]; omega⟩
        · obtain ⟨j, rfl⟩ : ∃ j, k = j + 1 := ⟨k - 1, by omega⟩
          have f0 := HH.out.keyAt HB.out HN.out (show j < n by omega)
          rw [show j + 1 - 1 = j from rfl] at HD
          have i3 : (j : Int) + 1 < (n : Int) := by omega
          by_cases hy : (ws.getD j wz).k < (ws.getD (j + 1) wz).k
          · have HG' : Hid (∀ i, i < j + 1 + 1 → wrGood ws i = true) := good_next HG.out (by rw [HD.out, h1, Bool.true_and]; exact decide_eq_true (Or.inr hy))
            clear HD h1
            generalize (ws.getD j wz).k = y at *
            generalize ws.getD (j + 1) wz = x at *
            obtain ⟨xk, xc, xs', xq, xv, xd, xx⟩ := x
            simp only at e0 e1 e2 e3 e4 e5 e6 HC hy
            go_wp2_with fail
            have ge0 := aft_cell hz e0
            have ge1 := aft_cell hz e1
            have ge2 := aft_cell hz e2
            have ge3 := aft_cell hz e3
            have ge4 := aft_cell hz e4
            have ge5 := aft_cell hz e5
            have ge6 := aft_cell hz e6
            have gf0 := aft_cell hz f0
            have ne := aft_some wr
            refine wp_region_aft (by kernel_rfl) (by kernel_rfl) ?_
            repeat (first | go_big_quiet_step (first | (go_at_call 34; exact aft_of (HC.out _))))
            refine wpQuiet_nil ?_
            intro wq hq
            go_wp2
            exact ⟨⟨j + 1 + 1, by omega, by go_num, HG', below_step HB.out HB.out.size hq⟩, by simp [intOf]; omega⟩
          · have HF : Hid (mapOkB ws = false) := mapOk_false (by rw [HN.out]; exact hk') (by rw [HD.out, h1, Bool.true_and]; exact decide_eq_false (by omega))
            clear HD h1
            generalize (ws.getD j wz).k = y at *
            generalize ws.getD (j + 1) wz = x at *
            obtain ⟨xk, xc, xs', xq, xv, xd, xx⟩ := x
            simp only at e0 e1 e2 e3 e4 e5 e6 HC hy
            go_wp2_with fail
            have ge0 := aft_cell hz e0
            have ge1 := aft_cell hz e1
            have ge2 := aft_cell hz e2
            have ge3 := aft_cell hz e3
            have ge4 := aft_cell hz e4
            have ge5 := aft_cell hz e5
            have ge6 := aft_cell hz e6
            have gf0 := aft_cell hz f0
            have ne := aft_some wr
            refine wp_region_aft (by kernel_rfl) (by kernel_rfl) ?_
            repeat (first | go_big_quiet_step (first | (go_at_call 34; exact aft_of (HC.out _))))
            refine wpQuiet_nil ?_
            intro wq hq
            go_wp2
            go_ret
            exact ⟨ret_bool HF.out.symm, below_step HB.out HB.out.size hq⟩
    · have hkk : k = n := by omega
      subst hkk
      have HF : Hid (mapOkB ws = true) := mapOk_true (fun i hi => HG.out i (by rw [← HN.out]; exact hi))
      go_wp2
      go_ret
      exact ⟨ret_bool HF.out.symm, HB.out⟩

theorem specMapOk_any (b n cap : Nat) (ws : List Wr) (γ : Nat → Nat) (w : World) (hn : ws.length = n) (hm : n ≤ 1048576) (hx : Few ws) (hh : HoldsWs w b ws γ) :
    Calls Try.prog 33 #[.slice (some ⟨b, 0, none⟩) n cap] w fun e w' => e = .returned (.bool (mapOkB ws)) ∧ Below w.heap.size w w' :=
  specMapOk_gen _ n cap ws w hn hm hx (hh.isWs hx)

end Go.Proofs.Ytojgahcogpediaa

/- The contract of the specification's l02Copy. -/
namespace Go.Proofs.Ytojgahcogpediaa
open Go.ChangeShapes Go.WideShapes Go.ChangeAt Go.RowKit Go.Joins
attribute [local go_sem ↓] Go.wp_at_zero Go.wp_at_succ

def depVals (xs : List Dp) : List Value := (List.range (xs.length * 4)).map fun j => .int .i64 (depCell xs j)

theorem depVals_len (xs : List Dp) : (depVals xs).length = xs.length * 4 := by simp [depVals]

theorem holds_cells {w : World} {b o : Nat} {xs : List Dp} (h : HoldsDeps w b o xs) {j : Nat} (hj : j < xs.length * 4) : w.cell? ⟨b, o + j, none⟩ = some (.int .i64 (depCell xs j)) := by
  obtain ⟨h0, h1, h2, h3⟩ := h (j / 4) (by omega)
  have h4 : j % 4 = 0 ∨ j % 4 = 1 ∨ j % 4 = 2 ∨ j % 4 = 3 := by omega
  rcases h4 with e | e | e | e
  · rw [show j = j / 4 * 4 by omega, depCell0]
    exact h0
  · rw [show j = j / 4 * 4 + 1 by omega, depCell1, ← Nat.add_assoc]
    exact h1
  · rw [show j = j / 4 * 4 + 2 by omega, depCell2, ← Nat.add_assoc]
    exact h2
  · rw [show j = j / 4 * 4 + 3 by omega, depCell3, ← Nat.add_assoc]
    exact h3

theorem holds_of_cells {w : World} {b : Nat} {xs : List Dp} (h : ∀ j, j < xs.length * 4 → w.cell? ⟨b, j, none⟩ = some (.int .i64 (depCell xs j))) : HoldsDeps w b 0 xs := by
  intro i hi
  rw [Nat.zero_add]
  refine ⟨?_, ?_, ?_, ?_⟩
  · rw [h _ (by omega), depCell0]
  · rw [h _ (by omega), depCell1]
  · rw [h _ (by omega), depCell2]
  · rw [h _ (by omega), depCell3]

theorem depVals_cells {w : World} {b o : Nat} {xs : List Dp} (h : HoldsDeps w b o xs) : ∀ j u, (depVals xs)[j]? = some u → w.cell? ((⟨b, o, none⟩ : Addr).add j) = some u := by
  intro j u hu
  have hj : j < xs.length * 4 := by
    have := (List.getElem?_eq_some_iff.1 hu).1
    rwa [depVals_len] at this
  have e : (⟨b, o, none⟩ : Addr).add j = ⟨b, o + j, none⟩ := by
    unfold Addr.add
    split
    · rename_i h
      rw [h]
      rfl
    · rfl
  rw [e, holds_cells h hj, ← hu]
  simp [depVals, hj]

theorem depVals_one (xs : List Dp) : ∀ u ∈ depVals xs, u.oneCell' = true := by
  intro u hu
  simp only [depVals, List.mem_map] at hu
  obtain ⟨j, _, rfl⟩ := hu
  rfl

theorem depVals_holds {w : World} {base g n cap : Nat} {xs : List Dp} {t : Nat} (hl : xs.length = n) (h : w.ownsRow base t 4 (.slice (some ⟨g, 0, none⟩) n cap) n (depVals xs)) : HoldsDeps w g 0 xs := by
  subst hl
  refine holds_of_cells fun j hj => ?_
  rw [h.cellAt j hj]
  simp [depVals, hj]

theorem run_append_zero {P : Program} (w : World) (t ty e : TypeId) (i : TypeInfo) (ht : P.underlying t = some (.slice e)) (hi : P.info? e = some i) (b : Option Addr) (n c : Nat) (hle : n ≤ c) (a : Option Addr) (cap : Nat) :
    (Builtin.append_ #[t, t] ty #[.slice b n c, .slice a 0 cap]).run P w = .ok (.slice b n c) w := by
  cases a <;> cases b <;> simp [Builtin.append_, run_underlying ht, sizeOf, typeInfo, hi, Builtin.lenOf, Builtin.firstCells, hle, storeCells, loadCells, loadCellsFrom]

/-- Nothing is appended. -/
theorem wpList_append_zero {P : Program} {w : World} {ops : Array Oper} {rest : List Oper} {o : Oper} {a : Act} {Q : Exit → Act → World → Prop} (hgd : o.guard = none) (s x : Operand) (t : TypeId)
    (ho : o.op = .call { callee := .builtin .append, args := #[s, x], argTypes := #[t, t] }) (e : TypeId) (i : TypeInfo) (ht : P.underlying t = some (.slice e)) (hi : P.info? e = some i)
    (b : Option Addr) (n c : Nat) (hle : n ≤ c) (hs : a.eval s = .slice b n c) (ad : Option Addr) (cap : Nat) (hx : a.eval x = .slice ad 0 cap)
    (h : wpList P ops Q rest (a.put o.dst (.slice b n c)) w) : wpList P ops Q (o :: rest) a w := by
  refine wpList_plain hgd fun K hK => ?_
  have hrun := run_append_zero (P := P) w t o.type e i ht hi b n c hle ad cap
  unfold Oper.wp
  simp [execOp, ho, resolve, invoke, builtin, hs, hx, hrun, Result.andThen]
  exact hK _ _ h

/-- What a block holds that is not the one that was written. -/
theorem kept_block {W w1 : World} {b r t : Nat} {vs : Array Value} (hg : W.grownBy w1 (some r)) (hr : b ≠ r) (h : W.heap[b]? = some (.cells vs t (0, 0))) : (∀ j v, vs[j]? = some v → w1.cell? ⟨b, j, none⟩ = some v) ∧ ∀ j, w1.frozen? ⟨b, j, none⟩ = false := by
  have hb : b < W.heap.size := (Array.getElem?_eq_some_iff.1 h).1
  have e := hg.block b hb (by simpa using hr)
  rw [h] at e
  exact ⟨fun j v hv => by rw [cell_of_row w1 b j vs t (0, 0) e]; exact hv, fun j => frozen_of_row w1 b j vs t e⟩

theorem heap_two (w : World) (o1 o2 o3 : Obj) : (((w.alloc o1).alloc o2).alloc o3).heap[w.heap.size]? = some o1 ∧ (((w.alloc o1).alloc o2).alloc o3).heap[w.heap.size + 1]? = some o2 := by
  constructor
  · rw [Below.heap_alloc _ _ _ (by simp; omega), Below.heap_alloc _ _ _ (by simp)]
    exact heap_alloc_new w o1
  · rw [Below.heap_alloc _ _ _ (by simp)]
    have := heap_alloc_new (w.alloc o1) o2
    simpa using this

set_option maxHeartbeats 2000000 in
theorem copy_some (x : Wr) (b o cap : Nat) (w : World) (hn : x.xs.length ≤ 1048576) (hp : 0 < x.xs.length) (hlt : b < w.heap.size) (hh : HoldsDeps w b o x.xs) :
    Calls Try.prog 43 #[wrOf x (some ⟨b, o, none⟩) cap] w fun e w' => ∃ g cp, e = .returned (wrOf x (some ⟨g, 0, none⟩) cp) ∧ w.heap.size ≤ g ∧ g < w'.heap.size ∧ HoldsDeps w' g 0 x.xs ∧ Below w.heap.size w w' := by
  obtain ⟨xk, xc, xs', xq, xv, xd, xx⟩ := x
  simp only at hn hp hh ⊢
  have HH : Hid (HoldsDeps w b o xx) := hh
  clear hh
  obtain ⟨i0, hi0, hx0⟩ := Option.map_eq_some_iff.1 infoDep
  simp only [Prod.mk.injEq] at hx0
  have HI0 := Lib.hid hi0
  have HX0 := Lib.hid hx0
  clear hi0 hx0
  go_enter Try.func43, Try.ntmps43
  have HB0 : Hid (Below w.heap.size w (((w.alloc (.cells #[.int .i64 xk, .int .i64 xc, .int .i64 xs', .int .i64 xq, .int .i64 xv, .bool xd, .slice (some ⟨b, o, none⟩) xx.length cap] 41)).alloc (.cells #[.int .i64 0, .int .i64 0, .int .i64 0, .int .i64 0, .int .i64 0, .bool false, .slice none 0 0] 41)).alloc (.cells #[] 98))) :=
    (((Below.refl _ _).alloc (Nat.le_refl _) _).alloc (by simp) _).alloc (by simp; omega) _
  have HO0 : Hid ((((w.alloc (.cells #[.int .i64 xk, .int .i64 xc, .int .i64 xs', .int .i64 xq, .int .i64 xv, .bool xd, .slice (some ⟨b, o, none⟩) xx.length cap] 41)).alloc (.cells #[.int .i64 0, .int .i64 0, .int .i64 0, .int .i64 0, .int .i64 0, .bool false, .slice none 0 0] 41)).alloc (.cells #[] 98)).ownsRow (w.heap.size + 1 + 1) 98 4 (.slice (some ⟨w.heap.size + 1 + 1, 0, none⟩) 0 0) 0 []) := by
    have := World.ownsRow_made (base := w.heap.size + 1 + 1) (e := 98) (size := 4) ((w.alloc (.cells #[.int .i64 xk, .int .i64 xc, .int .i64 xs', .int .i64 xq, .int .i64 xv, .bool xd, .slice (some ⟨b, o, none⟩) xx.length cap] 41)).alloc (.cells #[.int .i64 0, .int .i64 0, .int .i64 0, .int .i64 0, .int .i64 0, .bool false, .slice none 0 0] 41)) #[] 0 (by simp) (by simp [maxLen]) (by simp)
    exact Lib.hid (by simpa using this)
  go_wp2_with (at_builtin; refine wpList_append_lies _ (by rfl) _ _ _ (by rfl) (w.heap.size + 1 + 1) 98 i0 (depV 0 0 0 0) 4 32 Try.underlying39 HI0.out HX0.out.1 HX0.out.2.1 HX0.out.2.2 (by rfl) (by omega) (.slice (some ⟨w.heap.size + 1 + 1, 0, none⟩) 0 0) 0 [] (by rfl) HO0.out ⟨b, o, none⟩ xx.length cap (depVals xx) (by rfl) (depVals_len xx) (depVals_cells (HH.out.below HB0.out hlt)) (depVals_one xx) hp (by unfold maxLen; omega) (by omega) (by simp) _ rfl ?_; intro g cp w5 hown hgrow _ hg5; refine Hid.out ?_)
  refine Lib.hid ?_
  rw [Nat.zero_add] at hown
  obtain ⟨hg4, -⟩ := (fun h => (hown.lt g h) : _ → _ ∧ _) rfl
  have HD5 : Hid (HoldsDeps w5 g 0 xx) := depVals_holds rfl hown
  have HB5 : Hid (Below w.heap.size w w5) := HB0.out.grown hgrow HB0.out.size fun k hk => by simp only [Value.ownBlock, Option.some.injEq] at hk; omega
  obtain ⟨hb0, hf0⟩ := kept_block (r := w.heap.size + 1 + 1) hgrow (by omega) (heap_two w _ _ _).1
  obtain ⟨hb1, hf1⟩ := kept_block (r := w.heap.size + 1 + 1) hgrow (by omega) (heap_two w _ _ _).2
  have b0 := hb0 0 _ rfl
  have b1 := hb0 1 _ rfl
  have b2 := hb0 2 _ rfl
  have b3 := hb0 3 _ rfl
  have b4 := hb0 4 _ rfl
  have b5 := hb0 5 _ rfl
  have b6 := hb0 6 _ rfl
  have z0 := hb1 0 _ rfl
  have z1 := hb1 1 _ rfl
  have z2 := hb1 2 _ rfl
  have z3 := hb1 3 _ rfl
  have z4 := hb1 4 _ rfl
  have z5 := hb1 5 _ rfl
  have z6 := hb1 6 _ rfl
  clear hb0 hb1
  have hz5 : w.heap.size + 1 + 1 < w5.heap.size := by have := hgrow.size; simp at this; omega
  clear hown hgrow HB0 HO0
  go_wp2
  refine bodyPost_ret (v := wrV xk xc xs' xq xv xd (some ⟨g, 0, none⟩) xx.length cp) (by simp [results, Try.results43, go_sem, z0, z1, z2, z3, z4, z5, z6]) rfl ⟨g, cp, rfl, by omega, by simpa using hg5, ?_, ?_⟩
  · exact (((((((HD5.out.set (by simp; omega) _).set (by simp; omega) _).set (by simp; omega) _).set (by simp; omega) _).set (by simp; omega) _).set (by simp; omega) _).set (by simp; omega) _).set (by simp; omega) _
  · exact (((((((HB5.out.setCell (by simp) _).setCell (by simp) _).setCell (by simp) _).setCell (by simp) _).setCell (by simp) _).setCell (by simp) _).setCell (by simp) _).setCell (by simp) _

set_option maxHeartbeats 2000000 in
theorem copy_none (x : Wr) (a : Option Addr) (cap : Nat) (w : World) (hx : x.xs = []) :
    Calls Try.prog 43 #[wrOf x a cap] w fun e w' => ∃ g cp, e = .returned (wrOf x (some ⟨g, 0, none⟩) cp) ∧ w.heap.size ≤ g ∧ g < w'.heap.size ∧ HoldsDeps w' g 0 x.xs ∧ Below w.heap.size w w' := by
  obtain ⟨xk, xc, xs', xq, xv, xd, xx⟩ := x
  simp only at hx
  subst hx
  obtain ⟨i0, hi0, -⟩ := Option.map_eq_some_iff.1 infoDep
  have HI0 := Lib.hid hi0
  clear hi0
  go_enter Try.func43, Try.ntmps43
  go_wp2_with (at_builtin; refine wpList_append_zero (by rfl) _ _ _ (by rfl) 98 i0 Try.underlying39 HI0.out (some ⟨w.heap.size + 1 + 1, 0, none⟩) 0 0 (by omega) (by rfl) a cap (by rfl) ?_)
  exact bodyPost_ret (v := wrV xk xc xs' xq xv xd (some ⟨w.heap.size + 1 + 1, 0, none⟩) 0 0) (by simp [results, Try.results43, go_sem]) rfl ⟨w.heap.size + 1 + 1, 0, rfl, by omega, by simp, fun i hi => absurd hi (Nat.not_lt_zero i), (((Below.refl _ _).alloc (Nat.le_refl _) _).alloc (by simp) _).alloc (by simp; omega) _⟩

theorem copy_any (x : Wr) (a : Option Addr) (cap : Nat) (w : World) (hn : x.xs.length ≤ 1048576) (h : IsDeps w a x.xs) :
    Calls Try.prog 43 #[wrOf x a cap] w fun e w' => ∃ g cp, e = .returned (wrOf x (some ⟨g, 0, none⟩) cp) ∧ w.heap.size ≤ g ∧ g < w'.heap.size ∧ HoldsDeps w' g 0 x.xs ∧ Below w.heap.size w w' := by
  rcases h with h | ⟨b, o, rfl, hlt, hh⟩
  · exact copy_none x a cap w h
  · by_cases hp : 0 < x.xs.length
    · exact copy_some x b o cap w hn hp hlt hh
    · exact copy_none x _ cap w (List.length_eq_zero_iff.1 (by omega))

end Go.Proofs.Ytojgahcogpediaa
