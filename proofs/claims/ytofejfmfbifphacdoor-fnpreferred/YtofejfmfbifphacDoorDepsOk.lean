/- Contracts of spec.DepsOk and impl.DepsOk. -/
import Derived.Test.YtofejfmfbifphacDoorDeps
import Derived.Deep.DrawnRows
import Derived.Deep.RegionHeld3
import Derived.Test.YtofejfmfbifphacDoorAft
import Derived.WalkSmall
namespace Go.Proofs.YtofejfmfbifphacDoor
open Go.ChangeShapes Go.WideShapes Go.ChangeAt Go.RowKit Go.Joins
attribute [local go_sem ↓] Go.wp_at_zero Go.wp_at_succ

theorem ret_bool {a b : Bool} (h : a = b) : Ending.returned (.bool a) = .returned (.bool b) := by rw [h]

end Go.Proofs.YtofejfmfbifphacDoor
