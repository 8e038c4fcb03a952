/-
  DERIVED. GIVEN WITH THE SEED: THE CARDS: each row of YtidpcjcnhklmpacDoorRows.lean that lists a variable, with what it lists TIED to the program's text (the seventh form; the later family's looks); each row that meets fmt, with fmt's text TOLD by the authors' own Lean function (tested against real Go, not proved from fmt's source: count such statements apart). THE CARD IS WHAT COUNTS. Prove the row's statement (the work); the ties are given (YtidpcjcnhklmpacDoorTie.lean); close each card by the builder's one call (the guide's Derived/Test/ToyasCard.lean, 'card_holds'). Laid BY PROGRAM, IN A SANDBOX (cutbox-door.mjs). By AI agents, Wed Nov 11 2026. No macro, syntax, notation, axiom, sorry.
-/
import Derived.Test.YtidpcjcnhklmpacDoorRows
import GoSem.ClaimSeven
namespace Go.Proofs.YtidpcjcnhklmpacDoor
namespace Rows

/-- THE TIED CARD OF 'laws.FnPreferred'. -/
def fnPreferredCard : Claim7 := { stood := { row := fnPreferredRow, standIns := [], harness := (true, "9f6fa0546701baec09e4313b2fece1b16da739a7ba5222d21311799c3dcd8ffd"), looks := false }, kinds := [], alts := [], laidByText := true, laidKinds := [.data, .data, .data], laidTests := true, laidLooks := .later }
def FnPreferredCardSaid : Prop := Claim7.holds Tryd.pinned (.plain (OpenSpec.ofChange fnPreferredSpec)) fnPreferredCard

/-- THE TIED CARD OF 'laws.FnRepaired'. -/
def fnRepairedCard : Claim7 := { stood := { row := fnRepairedRow, standIns := [], harness := (true, "9f6fa0546701baec09e4313b2fece1b16da739a7ba5222d21311799c3dcd8ffd"), looks := false }, kinds := [], alts := [], laidByText := true, laidKinds := [.data, .data, .data], laidTests := true, laidLooks := .later }
def FnRepairedCardSaid : Prop := Claim7.holds Tryd.pinned (.plain (OpenSpec.ofChange fnRepairedSpec)) fnRepairedCard

/-- THE SECOND FORM's CARD OF 'laws.FnPreferred'. -/
def fnPreferredUptoCard : Claim7 := { stood := { row := fnPreferredUptoRow, standIns := [], harness := (true, "9f6fa0546701baec09e4313b2fece1b16da739a7ba5222d21311799c3dcd8ffd"), looks := false }, kinds := [], alts := [], laidByText := true, laidKinds := [.data, .data, .data], laidTests := true, laidLooks := .later }
def FnPreferredUptoCardSaid : Prop := Claim7.holds Tryd.pinned (.plain (OpenSpec.upto fnPreferredSpec)) fnPreferredUptoCard

/-- THE SECOND FORM's CARD OF 'laws.FnRepaired'. -/
def fnRepairedUptoCard : Claim7 := { stood := { row := fnRepairedUptoRow, standIns := [], harness := (true, "9f6fa0546701baec09e4313b2fece1b16da739a7ba5222d21311799c3dcd8ffd"), looks := false }, kinds := [], alts := [], laidByText := true, laidKinds := [.data, .data, .data], laidTests := true, laidLooks := .later }
def FnRepairedUptoCardSaid : Prop := Claim7.holds Tryd.pinned (.plain (OpenSpec.upto fnRepairedSpec)) fnRepairedUptoCard
end Rows
end Go.Proofs.YtidpcjcnhklmpacDoor
