/- The contract of impl.TagCmp. -/
import Derived.Test.YtlbcpppmpbbkdakDoorTagCmp
import Derived.Deep.DrawnRows
namespace Go.Proofs.YtlbcpppmpbbkdakDoor
open Go.ChangeShapes Go.WideShapes Go.ChangeAt Go.RowKit
attribute [local go_sem ↓] Go.wp_at_zero Go.wp_at_succ

theorem three_cells (W : World) (x y z : Int) (t b : Nat) (hb : W.heap.size = b) : ∀ i, i < [x, y, z].length → (W.alloc (Obj.cells #[.int .i64 x, .int .i64 y, .int .i64 z] t)).drew.cell? ⟨b, i, none⟩ = some (.int .i64 ([x, y, z].getD i 0)) := by
  subst hb
  intro i hi
  match i, hi with
  | 0, _ => simp [go_sem]
  | 1, _ => simp [go_sem]
  | 2, _ => simp [go_sem]

end Go.Proofs.YtlbcpppmpbbkdakDoor
