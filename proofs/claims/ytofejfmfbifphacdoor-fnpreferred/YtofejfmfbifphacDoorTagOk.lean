/- Contracts of TagOk (spec and impl) and of toTag. -/
import Derived.Test.YtofejfmfbifphacDoorTags
import Derived.Outline
import Derived.Laws.ResultCell
namespace Go.Proofs.YtofejfmfbifphacDoor
open Go.ChangeShapes Go.WideShapes Go.ChangeAt Go.RowKit

abbrev tagV (c s q : Int) : Value := .agg #[.int .i64 c, .int .i64 s, .int .i64 q]

def tagOkB (c s q : Int) : Bool := btw c 1 100000 && (btw s 0 3 && btw q 1 1000)

end Go.Proofs.YtofejfmfbifphacDoor
