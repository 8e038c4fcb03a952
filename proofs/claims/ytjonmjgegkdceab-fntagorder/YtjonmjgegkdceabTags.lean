/- Contracts of the functions on tags: spec and impl. -/
import Derived.Test.YtjonmjgegkdceabRows
import Derived.WalkKit
import Derived.ProofKit
import Derived.OpenShut
import Derived.BigQuiet
import Derived.Deep.QuietTactic
namespace Go.Proofs.Ytjonmjgegkdceab
open Go.ChangeShapes Go.WideShapes Go.ChangeAt Go.RowKit

def btw (n lo hi : Int) : Bool := decide (lo ≤ n ∧ n ≤ hi)

end Go.Proofs.Ytjonmjgegkdceab
