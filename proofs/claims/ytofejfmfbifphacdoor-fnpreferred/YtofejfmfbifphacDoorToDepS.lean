/- The contracts of toDepS and eqDepS. -/
import Derived.Test.YtofejfmfbifphacDoorDepsOk
import Derived.Deep.OwnRows
namespace Go.Proofs.YtofejfmfbifphacDoor
open Go.ChangeShapes Go.WideShapes Go.ChangeAt Go.RowKit Go.Joins
attribute [local go_sem ↓] Go.wp_at_zero Go.wp_at_succ

def depCell (xs : List Dp) (j : Nat) : Int :=
  if j % 4 = 0 then (xs.getD (j / 4) dz).k else if j % 4 = 1 then (xs.getD (j / 4) dz).c else if j % 4 = 2 then (xs.getD (j / 4) dz).s else (xs.getD (j / 4) dz).q

def depFill (xs : List Dp) (k j : Nat) : Value := .int .i64 (if j < k * 4 then depCell xs j else 0)

theorem depCell0 (xs : List Dp) (k : Nat) : depCell xs (k * 4) = (xs.getD k dz).k := by
  unfold depCell
  rw [if_pos (by omega), show k * 4 / 4 = k by omega]

theorem depCell1 (xs : List Dp) (k : Nat) : depCell xs (k * 4 + 1) = (xs.getD k dz).c := by
  unfold depCell
  rw [if_neg (by omega), if_pos (by omega), show (k * 4 + 1) / 4 = k by omega]

theorem depCell2 (xs : List Dp) (k : Nat) : depCell xs (k * 4 + 2) = (xs.getD k dz).s := by
  unfold depCell
  rw [if_neg (by omega), if_neg (by omega), if_pos (by omega), show (k * 4 + 2) / 4 = k by omega]

theorem depCell3 (xs : List Dp) (k : Nat) : depCell xs (k * 4 + 3) = (xs.getD k dz).q := by
  unfold depCell
  rw [if_neg (by omega), if_neg (by omega), if_neg (by omega), show (k * 4 + 3) / 4 = k by omega]

theorem fill_step (xs : List Dp) (k j : Nat) :
    (if j = k * 4 + 3 then Value.int .i64 (xs.getD k dz).q else if j = k * 4 + 2 then Value.int .i64 (xs.getD k dz).s else if j = k * 4 + 1 then Value.int .i64 (xs.getD k dz).c else if j = k * 4 then Value.int .i64 (xs.getD k dz).k else depFill xs k j) = depFill xs (k + 1) j := by
  unfold depFill
  by_cases h3 : j = k * 4 + 3
  · rw [if_pos h3, if_pos (by omega), h3, depCell3]
  rw [if_neg h3]
  by_cases h2 : j = k * 4 + 2
  · rw [if_pos h2, if_pos (by omega), h2, depCell2]
  rw [if_neg h2]
  by_cases h1 : j = k * 4 + 1
  · rw [if_pos h1, if_pos (by omega), h1, depCell1]
  rw [if_neg h1]
  by_cases h0 : j = k * 4
  · rw [if_pos h0, if_pos (by omega), h0, depCell0]
  rw [if_neg h0]
  by_cases hl : j < k * 4
  · rw [if_pos hl, if_pos (by omega)]
  · rw [if_neg hl, if_neg (by omega)]

theorem holds_of_row {w : World} {g t : Nat} {xs : List Dp} (h : w.rowIs g t (xs.length * 4) (depFill xs xs.length)) : HoldsDeps w g 0 xs := by
  intro i hi
  rw [Nat.zero_add]
  refine ⟨?_, ?_, ?_, ?_⟩
  · rw [h.cell (by omega), depFill, if_pos (by omega), depCell0]
  · rw [h.cell (by omega), depFill, if_pos (by omega), depCell1]
  · rw [h.cell (by omega), depFill, if_pos (by omega), depCell2]
  · rw [h.cell (by omega), depFill, if_pos (by omega), depCell3]

theorem row_start (w : World) (t n : Nat) (xs : List Dp) : (w.alloc (.cells (madeCells #[.int .i64 0, .int .i64 0, .int .i64 0, .int .i64 0] (n * 4)) t)).rowIs w.heap.size t (n * 4) (depFill xs 0) := by
  refine ⟨_, Go.Deep.blk_alloc_new _ _, size_madeCells _ _, fun i hi => ?_⟩
  have e : depFill xs 0 i = .int .i64 0 := by unfold depFill; rw [if_neg (by omega)]
  rw [e]
  have h4 : i % 4 = 0 ∨ i % 4 = 1 ∨ i % 4 = 2 ∨ i % 4 = 3 := by omega
  rcases h4 with h | h | h | h <;> simp [madeCells, hi, h]

theorem row_step {w : World} {g t n : Nat} {xs : List Dp} {k : Nat} (h : w.rowIs g t n (depFill xs k)) :
    ((((w.setCell ⟨g, k * 4, none⟩ (.int .i64 (xs.getD k dz).k)).setCell ⟨g, k * 4 + 1, none⟩ (.int .i64 (xs.getD k dz).c)).setCell ⟨g, k * 4 + 2, none⟩ (.int .i64 (xs.getD k dz).s)).setCell ⟨g, k * 4 + 3, none⟩ (.int .i64 (xs.getD k dz).q)).rowIs g t n (depFill xs (k + 1)) :=
  ((((h.set _ _).set _ _).set _ _).set _ _).congr (fun j _ => fill_step xs k j)

/-- Below a block that is being written. -/
theorem below_set4 {B : Nat} {a w : World} {g : Nat} (h : Below B a w) (hg : B ≤ g) (o0 o1 o2 o3 : Nat) (v0 v1 v2 v3 : Value) : Below B a ((((w.setCell ⟨g, o0, none⟩ v0).setCell ⟨g, o1, none⟩ v1).setCell ⟨g, o2, none⟩ v2).setCell ⟨g, o3, none⟩ v3) :=
  (((h.setCell (p := ⟨g, o0, none⟩) hg v0).setCell (p := ⟨g, o1, none⟩) hg v1).setCell (p := ⟨g, o2, none⟩) hg v2).setCell (p := ⟨g, o3, none⟩) hg v3

end Go.Proofs.YtofejfmfbifphacDoor
