/- Contracts of spec.DepsOk and impl.DepsOk. -/
import Derived.Test.YtjonmjgegkdceabDeps
import Derived.Deep.DrawnRows
import Derived.Deep.RegionHeld3
import Derived.Test.YtjonmjgegkdceabAft
import Derived.WalkSmall
namespace Go.Proofs.Ytjonmjgegkdceab
open Go.ChangeShapes Go.WideShapes Go.ChangeAt Go.RowKit Go.Joins
attribute [local go_sem ↓] Go.wp_at_zero Go.wp_at_succ

theorem ret_bool {a b : Bool} (h : a = b) : Ending.returned (.bool a) = .returned (.bool b) := by rw [h]

end Go.Proofs.Ytjonmjgegkdceab
