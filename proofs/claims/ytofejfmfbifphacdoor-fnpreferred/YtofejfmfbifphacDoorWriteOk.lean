/- Contracts of spec.WriteOk and impl.WriteOk. -/
import Derived.Test.YtofejfmfbifphacDoorWrites
namespace Go.Proofs.YtofejfmfbifphacDoor
open Go.ChangeShapes Go.WideShapes Go.ChangeAt Go.RowKit Go.Joins

def ahead (xs : List Dp) (c s q : Int) (i : Nat) : Bool := decide (tcmp (xs.getD i dz).c (xs.getD i dz).s (xs.getD i dz).q c s q < 0)

def aheadAll (xs : List Dp) (c s q : Int) : Bool := (List.range xs.length).all (ahead xs c s q)

def writeOkB (k c s q v : Int) (de : Bool) (xs : List Dp) : Bool := btw k 0 5 && (tagOkB c s q && (valOkB v de && (depsOkB xs && aheadAll xs c s q)))

theorem ahead_true {xs : List Dp} {c s q : Int} (h : ∀ i, i < xs.length → ahead xs c s q i = true) : aheadAll xs c s q = true := by
  unfold aheadAll
  rw [List.all_eq_true]
  intro i hi
  exact h i (List.mem_range.1 hi)

theorem ahead_false {xs : List Dp} {c s q : Int} {i : Nat} (hi : i < xs.length) (h : ahead xs c s q i = false) : aheadAll xs c s q = false := by
  unfold aheadAll
  rw [List.all_eq_false]
  exact ⟨i, List.mem_range.2 hi, by simp [h]⟩

theorem depsOk_tag {xs : List Dp} (h : depsOkB xs = true) {i : Nat} (hi : i < xs.length) : tagOkB (xs.getD i dz).c (xs.getD i dz).s (xs.getD i dz).q = true := by
  unfold depsOkB at h
  rw [List.all_eq_true] at h
  have h1 := h i (List.mem_range.2 hi)
  unfold depGood at h1
  simp only [Bool.and_eq_true] at h1
  exact h1.2.1

theorem wok_key {k c s q v : Int} {de : Bool} {xs : List Dp} (h : btw k 0 5 = false) : writeOkB k c s q v de xs = false := by
  unfold writeOkB
  rw [h, Bool.false_and]

theorem wok_tag {k c s q v : Int} {de : Bool} {xs : List Dp} (h : tagOkB c s q = false) : writeOkB k c s q v de xs = false := by
  unfold writeOkB
  rw [h, Bool.false_and, Bool.and_false]

theorem wok_val {k c s q v : Int} {de : Bool} {xs : List Dp} (h : valOkB v de = false) : writeOkB k c s q v de xs = false := by
  unfold writeOkB
  rw [h, Bool.false_and, Bool.and_false, Bool.and_false]

theorem wok_deps {k c s q v : Int} {de : Bool} {xs : List Dp} (h : depsOkB xs = false) : writeOkB k c s q v de xs = false := by
  unfold writeOkB
  rw [h, Bool.false_and, Bool.and_false, Bool.and_false, Bool.and_false]

theorem wok_rest {k c s q v : Int} {de : Bool} {xs : List Dp} (h1 : btw k 0 5 = true) (h2 : tagOkB c s q = true) (h3 : valOkB v de = true) (h4 : depsOkB xs = true) : writeOkB k c s q v de xs = aheadAll xs c s q := by
  unfold writeOkB
  rw [h1, h2, h3, h4, Bool.true_and, Bool.true_and, Bool.true_and, Bool.true_and]

theorem val_dead {v : Int} (h : valOkB v true = true) : v = 0 := by
  unfold valOkB at h
  simpa using h

theorem val_btw {v : Int} {de : Bool} (h : valOkB v de = true) : btw v (-1000000) 1000000 = true := by
  cases de
  · exact h
  · rw [val_dead h]
    rfl

theorem between_is (v lo hi : Int) (r : Bool) (h : btw v lo hi = r) (w : World) :
    Calls Tryd.prog 24 #[.int .i64 v, .int .i64 lo, .int .i64 hi] w fun e w' => e = .returned (.bool r) ∧ w' = w := by
  subst h
  exact between_any v lo hi w

/-- What the box of a write holds, in every later world. -/
theorem box_cells {w w1 : World} {vs : Array Value} {t : Nat} (hb : Below (w.alloc (.cells vs t)).heap.size (w.alloc (.cells vs t)) w1) (i : Nat) (hi : i < vs.size) : w1.cell? ⟨w.heap.size, i, none⟩ = some vs[i] := by
  rw [hb.cell (p := ⟨w.heap.size, i, none⟩) (by simp)]
  simp [go_sem, hi]

/-- A world that holds what was there, and the box of a write behind it. -/
structure BoxIn (w0 w : World) (k c s q v : Int) (de : Bool) (a : Option Addr) (len cap : Nat) : Prop where
  lt : w0.heap.size < w.heap.size
  below : Below w0.heap.size w0 w
  c0 : w.cell? ⟨w0.heap.size, 0, none⟩ = some (.int .i64 k)
  c1 : w.cell? ⟨w0.heap.size, 1, none⟩ = some (.int .i64 c)
  c2 : w.cell? ⟨w0.heap.size, 2, none⟩ = some (.int .i64 s)
  c3 : w.cell? ⟨w0.heap.size, 3, none⟩ = some (.int .i64 q)
  c4 : w.cell? ⟨w0.heap.size, 4, none⟩ = some (.int .i64 v)
  c5 : w.cell? ⟨w0.heap.size, 5, none⟩ = some (.bool de)
  c6 : w.cell? ⟨w0.heap.size, 6, none⟩ = some (.slice a len cap)

theorem BoxIn.start {w w1 : World} {k c s q v : Int} {de : Bool} {a : Option Addr} {len cap t : Nat} (hb : Below (w.alloc (.cells #[.int .i64 k, .int .i64 c, .int .i64 s, .int .i64 q, .int .i64 v, .bool de, .slice a len cap] t)).heap.size (w.alloc (.cells #[.int .i64 k, .int .i64 c, .int .i64 s, .int .i64 q, .int .i64 v, .bool de, .slice a len cap] t)) w1) : BoxIn w w1 k c s q v de a len cap where
  lt := by have := hb.size; simp at this; omega
  below := below_step ((Below.refl _ _).alloc (Nat.le_refl _) _) (by simp) hb
  c0 := box_cells hb 0 (by simp)
  c1 := box_cells hb 1 (by simp)
  c2 := box_cells hb 2 (by simp)
  c3 := box_cells hb 3 (by simp)
  c4 := box_cells hb 4 (by simp)
  c5 := box_cells hb 5 (by simp)
  c6 := box_cells hb 6 (by simp)

theorem BoxIn.step {w0 w w1 : World} {k c s q v : Int} {de : Bool} {a : Option Addr} {len cap : Nat} (h : BoxIn w0 w k c s q v de a len cap) (hb : Below w.heap.size w w1) : BoxIn w0 w1 k c s q v de a len cap where
  lt := Nat.lt_of_lt_of_le h.lt hb.size
  below := below_step h.below h.below.size hb
  c0 := held_cell hb h.c0 h.lt
  c1 := held_cell hb h.c1 h.lt
  c2 := held_cell hb h.c2 h.lt
  c3 := held_cell hb h.c3 h.lt
  c4 := held_cell hb h.c4 h.lt
  c5 := held_cell hb h.c5 h.lt
  c6 := held_cell hb h.c6 h.lt

theorem BoxIn.other {w0 w w1 : World} {k c s q v : Int} {de : Bool} {a : Option Addr} {len cap : Nat} (h : BoxIn w0 w k c s q v de a len cap) (hs : w.heap.size ≤ w1.heap.size) (hB : Below w0.heap.size w0 w1) (hc : w1.heap[w0.heap.size]? = w.heap[w0.heap.size]?) : BoxIn w0 w1 k c s q v de a len cap where
  lt := Nat.lt_of_lt_of_le h.lt hs
  below := hB
  c0 := (World.cell?_of_block (w := w) (a := ⟨w0.heap.size, 0, none⟩) hc).trans h.c0
  c1 := (World.cell?_of_block (w := w) (a := ⟨w0.heap.size, 1, none⟩) hc).trans h.c1
  c2 := (World.cell?_of_block (w := w) (a := ⟨w0.heap.size, 2, none⟩) hc).trans h.c2
  c3 := (World.cell?_of_block (w := w) (a := ⟨w0.heap.size, 3, none⟩) hc).trans h.c3
  c4 := (World.cell?_of_block (w := w) (a := ⟨w0.heap.size, 4, none⟩) hc).trans h.c4
  c5 := (World.cell?_of_block (w := w) (a := ⟨w0.heap.size, 5, none⟩) hc).trans h.c5
  c6 := (World.cell?_of_block (w := w) (a := ⟨w0.heap.size, 6, none⟩) hc).trans h.c6

end Go.Proofs.YtofejfmfbifphacDoor
