/-
  DERIVED. GIVEN WITH THE SEED: THE CARDS: each row of YtlbcpppmpbbkdalDoorRows.lean that lists a variable, with what it lists TIED to the program's text (the seventh form; the later family's looks); each row that meets fmt, with fmt's text TOLD by the authors' own Lean function (tested against real Go, not proved from fmt's source: count such statements apart). THE CARD IS WHAT COUNTS. Prove the row's statement (the work); the ties are given (YtlbcpppmpbbkdalDoorTie.lean); close each card by the builder's one call (the guide's Derived/Test/ToyasCard.lean, 'card_holds'). Laid BY PROGRAM, IN A SANDBOX (cutbox-door.mjs). By AI agents, Wed Nov 11 2026. No macro, syntax, notation, axiom, sorry.
-/
import Derived.Test.YtlbcpppmpbbkdalDoorRows
import GoSem.ClaimSeven
namespace Go.Proofs.YtlbcpppmpbbkdalDoor
namespace Rows

/-- THE TIED CARD OF 'laws.FnExactTreeOf'. -/
def fnExactTreeOfCard : Claim7 := { stood := { row := fnExactTreeOfRow, standIns := [], harness := (true, "67384e4e34e3ef84ff0b854ee251b3568f1e210fa267a9a2a4fc53d37d820fb4"), looks := false }, kinds := [], alts := [], laidByText := true, laidKinds := [.data, .data, .data], laidTests := true, laidLooks := .later }
def FnExactTreeOfCardSaid : Prop := Claim7.holds Tryd.pinned (.plain (OpenSpec.ofChange fnExactTreeOfSpec)) fnExactTreeOfCard

/-- THE TIED CARD OF 'laws.FnExactRepair'. -/
def fnExactRepairCard : Claim7 := { stood := { row := fnExactRepairRow, standIns := [], harness := (true, "67384e4e34e3ef84ff0b854ee251b3568f1e210fa267a9a2a4fc53d37d820fb4"), looks := false }, kinds := [], alts := [], laidByText := true, laidKinds := [.data, .data, .data], laidTests := true, laidLooks := .later }
def FnExactRepairCardSaid : Prop := Claim7.holds Tryd.pinned (.plain (OpenSpec.ofChange fnExactRepairSpec)) fnExactRepairCard

/-- THE SECOND FORM's CARD OF 'laws.FnExactTreeOf'. -/
def fnExactTreeOfUptoCard : Claim7 := { stood := { row := fnExactTreeOfUptoRow, standIns := [], harness := (true, "67384e4e34e3ef84ff0b854ee251b3568f1e210fa267a9a2a4fc53d37d820fb4"), looks := false }, kinds := [], alts := [], laidByText := true, laidKinds := [.data, .data, .data], laidTests := true, laidLooks := .later }
def FnExactTreeOfUptoCardSaid : Prop := Claim7.holds Tryd.pinned (.plain (OpenSpec.upto fnExactTreeOfSpec)) fnExactTreeOfUptoCard

/-- THE SECOND FORM's CARD OF 'laws.FnExactRepair'. -/
def fnExactRepairUptoCard : Claim7 := { stood := { row := fnExactRepairUptoRow, standIns := [], harness := (true, "67384e4e34e3ef84ff0b854ee251b3568f1e210fa267a9a2a4fc53d37d820fb4"), looks := false }, kinds := [], alts := [], laidByText := true, laidKinds := [.data, .data, .data], laidTests := true, laidLooks := .later }
def FnExactRepairUptoCardSaid : Prop := Claim7.holds Tryd.pinned (.plain (OpenSpec.upto fnExactRepairSpec)) fnExactRepairUptoCard
end Rows
end Go.Proofs.YtlbcpppmpbbkdalDoor
