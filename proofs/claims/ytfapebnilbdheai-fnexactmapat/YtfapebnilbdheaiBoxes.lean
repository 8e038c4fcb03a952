/- Boxes of writes: one, and two of them, in every later world. -/
import Derived.Test.YtfapebnilbdheaiWriteOk
namespace Go.Proofs.Ytfapebnilbdheai
open Go.ChangeShapes Go.WideShapes Go.ChangeAt Go.RowKit Go.Joins

structure BoxAt (b : Nat) (w : World) (k c s q v : Int) (de : Bool) (a : Option Addr) (len cap : Nat) : Prop where
  lt : b < w.heap.size
  c0 : w.cell? ⟨b, 0, none⟩ = some (.int .i64 k)
  c1 : w.cell? ⟨b, 1, none⟩ = some (.int .i64 c)
  c2 : w.cell? ⟨b, 2, none⟩ = some (.int .i64 s)
  c3 : w.cell? ⟨b, 3, none⟩ = some (.int .i64 q)
  c4 : w.cell? ⟨b, 4, none⟩ = some (.int .i64 v)
  c5 : w.cell? ⟨b, 5, none⟩ = some (.bool de)
  c6 : w.cell? ⟨b, 6, none⟩ = some (.slice a len cap)

theorem BoxAt.step {b : Nat} {w w1 : World} {k c s q v : Int} {de : Bool} {a : Option Addr} {len cap : Nat} (h : BoxAt b w k c s q v de a len cap) (hb : Below w.heap.size w w1) : BoxAt b w1 k c s q v de a len cap where
  lt := Nat.lt_of_lt_of_le h.lt hb.size
  c0 := held_cell hb h.c0 h.lt
  c1 := held_cell hb h.c1 h.lt
  c2 := held_cell hb h.c2 h.lt
  c3 := held_cell hb h.c3 h.lt
  c4 := held_cell hb h.c4 h.lt
  c5 := held_cell hb h.c5 h.lt
  c6 := held_cell hb h.c6 h.lt

theorem BoxAt.start {w w1 : World} {k c s q v : Int} {de : Bool} {a : Option Addr} {len cap t : Nat} (hb : Below (w.alloc (.cells #[.int .i64 k, .int .i64 c, .int .i64 s, .int .i64 q, .int .i64 v, .bool de, .slice a len cap] t)).heap.size (w.alloc (.cells #[.int .i64 k, .int .i64 c, .int .i64 s, .int .i64 q, .int .i64 v, .bool de, .slice a len cap] t)) w1) : BoxAt w.heap.size w1 k c s q v de a len cap where
  lt := by have := hb.size; simp at this; omega
  c0 := box_cells hb 0 (by simp)
  c1 := box_cells hb 1 (by simp)
  c2 := box_cells hb 2 (by simp)
  c3 := box_cells hb 3 (by simp)
  c4 := box_cells hb 4 (by simp)
  c5 := box_cells hb 5 (by simp)
  c6 := box_cells hb 6 (by simp)

abbrev PairIn (W0 : World) (b b2 : Nat) (k c s q v : Int) (de : Bool) (a : Option Addr) (len cap : Nat) (k' c' s' q' v' : Int) (de' : Bool) (a' : Option Addr) (len' cap' : Nat) (W : World) : Prop :=
  W.cell? ⟨b, 0, none⟩ = some (.int .i64 k) ∧ W.cell? ⟨b, 1, none⟩ = some (.int .i64 c) ∧ W.cell? ⟨b, 2, none⟩ = some (.int .i64 s) ∧ W.cell? ⟨b, 3, none⟩ = some (.int .i64 q) ∧ W.cell? ⟨b, 4, none⟩ = some (.int .i64 v) ∧ W.cell? ⟨b, 5, none⟩ = some (.bool de) ∧ W.cell? ⟨b, 6, none⟩ = some (.slice a len cap) ∧ W.cell? ⟨b2, 0, none⟩ = some (.int .i64 k') ∧ W.cell? ⟨b2, 1, none⟩ = some (.int .i64 c') ∧ W.cell? ⟨b2, 2, none⟩ = some (.int .i64 s') ∧ W.cell? ⟨b2, 3, none⟩ = some (.int .i64 q') ∧ W.cell? ⟨b2, 4, none⟩ = some (.int .i64 v') ∧ W.cell? ⟨b2, 5, none⟩ = some (.bool de') ∧ W.cell? ⟨b2, 6, none⟩ = some (.slice a' len' cap') ∧ b < W.heap.size ∧ b2 < W.heap.size ∧ Below W0.heap.size W0 W

theorem pair_start {W : World} {b b2 : Nat} {k c s q v : Int} {de : Bool} {a : Option Addr} {len cap : Nat} {k' c' s' q' v' : Int} {de' : Bool} {a' : Option Addr} {len' cap' : Nat} (h : BoxAt b W k c s q v de a len cap) (h2 : BoxAt b2 W k' c' s' q' v' de' a' len' cap') : PairIn W b b2 k c s q v de a len cap k' c' s' q' v' de' a' len' cap' W.drew :=
  ⟨h.c0, h.c1, h.c2, h.c3, h.c4, h.c5, h.c6, h2.c0, h2.c1, h2.c2, h2.c3, h2.c4, h2.c5, h2.c6, h.lt, h2.lt, (Below.refl _ _).drew⟩

theorem pair_step {W0 W w1 : World} {b b2 : Nat} {k c s q v : Int} {de : Bool} {a : Option Addr} {len cap : Nat} {k' c' s' q' v' : Int} {de' : Bool} {a' : Option Addr} {len' cap' : Nat} (h : PairIn W0 b b2 k c s q v de a len cap k' c' s' q' v' de' a' len' cap' W) (hb : Below W.heap.size W w1) : PairIn W0 b b2 k c s q v de a len cap k' c' s' q' v' de' a' len' cap' w1 := by
  obtain ⟨e0, e1, e2, e3, e4, e5, e6, f0, f1, f2, f3, f4, f5, f6, hz, hz2, hB⟩ := h
  exact ⟨held_cell hb e0 hz, held_cell hb e1 hz, held_cell hb e2 hz, held_cell hb e3 hz, held_cell hb e4 hz, held_cell hb e5 hz, held_cell hb e6 hz, held_cell hb f0 hz2, held_cell hb f1 hz2, held_cell hb f2 hz2, held_cell hb f3 hz2, held_cell hb f4 hz2, held_cell hb f5 hz2, held_cell hb f6 hz2, Nat.lt_of_lt_of_le hz hb.size, Nat.lt_of_lt_of_le hz2 hb.size, below_step hB hB.size hb⟩

end Go.Proofs.Ytfapebnilbdheai
