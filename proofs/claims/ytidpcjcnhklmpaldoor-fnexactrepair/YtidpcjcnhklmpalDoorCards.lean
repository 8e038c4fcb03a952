/-
  DERIVED. GIVEN WITH THE SEED: THE CARDS: each row of YtidpcjcnhklmpalDoorRows.lean that lists a variable, with what it lists TIED to the program's text (the seventh form; the later family's looks); each row that meets fmt, with fmt's text TOLD by the authors' own Lean function (tested against real Go, not proved from fmt's source: count such statements apart). THE CARD IS WHAT COUNTS. Prove the row's statement (the work); the ties are given (YtidpcjcnhklmpalDoorTie.lean); close each card by the builder's one call (the guide's Derived/Test/ToyasCard.lean, 'card_holds'). Laid BY PROGRAM, IN A SANDBOX (cutbox-door.mjs). By AI agents, Wed Nov 11 2026. No macro, syntax, notation, axiom, sorry.
-/
import Derived.Test.YtidpcjcnhklmpalDoorRows
import GoSem.ClaimSeven
namespace Go.Proofs.YtidpcjcnhklmpalDoor
namespace Rows

/-- THE TIED CARD OF 'laws.FnExactTreeOf'. -/
def fnExactTreeOfCard : Claim7 := { stood := { row := fnExactTreeOfRow, standIns := [], harness := (true, "29c66f02afa0bcc048e05b77cc00027935d5a17fce12ce35cd9bd23c48c09e77"), looks := false }, kinds := [], alts := [], laidByText := true, laidKinds := [.data, .data, .data], laidTests := true, laidLooks := .later }
def FnExactTreeOfCardSaid : Prop := Claim7.holds Tryd.pinned (.plain (OpenSpec.ofChange fnExactTreeOfSpec)) fnExactTreeOfCard

/-- THE TIED CARD OF 'laws.FnExactRepair'. -/
def fnExactRepairCard : Claim7 := { stood := { row := fnExactRepairRow, standIns := [], harness := (true, "29c66f02afa0bcc048e05b77cc00027935d5a17fce12ce35cd9bd23c48c09e77"), looks := false }, kinds := [], alts := [], laidByText := true, laidKinds := [.data, .data, .data], laidTests := true, laidLooks := .later }
def FnExactRepairCardSaid : Prop := Claim7.holds Tryd.pinned (.plain (OpenSpec.ofChange fnExactRepairSpec)) fnExactRepairCard

/-- THE TIED CARD OF 'laws.FnExactBatchText'. -/
def fnExactBatchTextCard : Claim7 := { stood := { row := fnExactBatchTextRow, standIns := [], harness := (true, "29c66f02afa0bcc048e05b77cc00027935d5a17fce12ce35cd9bd23c48c09e77"), looks := false }, kinds := [], alts := [], laidByText := true, laidKinds := [.data, .data, .data], laidTests := true, laidLooks := .later }
def FnExactBatchTextCardSaid : Prop := Claim7.holds Tryd.pinned (.plain (OpenSpec.ofChange fnExactBatchTextSpec)) fnExactBatchTextCard

/-- THE SECOND FORM's CARD OF 'laws.FnExactTreeOf'. -/
def fnExactTreeOfUptoCard : Claim7 := { stood := { row := fnExactTreeOfUptoRow, standIns := [], harness := (true, "29c66f02afa0bcc048e05b77cc00027935d5a17fce12ce35cd9bd23c48c09e77"), looks := false }, kinds := [], alts := [], laidByText := true, laidKinds := [.data, .data, .data], laidTests := true, laidLooks := .later }
def FnExactTreeOfUptoCardSaid : Prop := Claim7.holds Tryd.pinned (.plain (OpenSpec.upto fnExactTreeOfSpec)) fnExactTreeOfUptoCard

/-- THE SECOND FORM's CARD OF 'laws.FnExactRepair'. -/
def fnExactRepairUptoCard : Claim7 := { stood := { row := fnExactRepairUptoRow, standIns := [], harness := (true, "29c66f02afa0bcc048e05b77cc00027935d5a17fce12ce35cd9bd23c48c09e77"), looks := false }, kinds := [], alts := [], laidByText := true, laidKinds := [.data, .data, .data], laidTests := true, laidLooks := .later }
def FnExactRepairUptoCardSaid : Prop := Claim7.holds Tryd.pinned (.plain (OpenSpec.upto fnExactRepairSpec)) fnExactRepairUptoCard

/-- THE SECOND FORM's CARD OF 'laws.FnExactBatchText'. -/
def fnExactBatchTextUptoCard : Claim7 := { stood := { row := fnExactBatchTextUptoRow, standIns := [], harness := (true, "29c66f02afa0bcc048e05b77cc00027935d5a17fce12ce35cd9bd23c48c09e77"), looks := false }, kinds := [], alts := [], laidByText := true, laidKinds := [.data, .data, .data], laidTests := true, laidLooks := .later }
def FnExactBatchTextUptoCardSaid : Prop := Claim7.holds Tryd.pinned (.plain (OpenSpec.upto fnExactBatchTextSpec)) fnExactBatchTextUptoCard
end Rows
end Go.Proofs.YtidpcjcnhklmpalDoor
