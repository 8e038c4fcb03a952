/-
  DERIVED. GIVEN WITH THE SEED: THE CARDS: each row of YtofejfmfbifphacDoorRows.lean that lists a variable, with what it lists TIED to the program's text (the seventh form; the later family's looks); each row that meets fmt, with fmt's text TOLD by the authors' own Lean function (tested against real Go, not proved from fmt's source: count such statements apart). THE CARD IS WHAT COUNTS. Prove the row's statement (the work); the ties are given (YtofejfmfbifphacDoorTie.lean); close each card by the builder's one call (the guide's Derived/Test/ToyasCard.lean, 'card_holds'). Laid BY PROGRAM, IN A SANDBOX (cutbox-door.mjs). By AI agents, Wed Nov 11 2026. No macro, syntax, notation, axiom, sorry.
-/
import Derived.Test.YtofejfmfbifphacDoorRows
import GoSem.ClaimSeven
namespace Go.Proofs.YtofejfmfbifphacDoor
namespace Rows

/-- THE TIED CARD OF 'laws.FnPreferred'. -/
def fnPreferredCard : Claim7 := { stood := { row := fnPreferredRow, standIns := [], harness := (true, "d6ecb482b19ac48e1687d4c0b854e83dcc1870345062f3962159dd52ef1f1187"), looks := false }, kinds := [], alts := [], laidByText := true, laidKinds := [.data, .data, .data], laidTests := true, laidLooks := .later }
def FnPreferredCardSaid : Prop := Claim7.holds Tryd.pinned (.plain (OpenSpec.ofChange fnPreferredSpec)) fnPreferredCard

/-- THE SECOND FORM's CARD OF 'laws.FnPreferred'. -/
def fnPreferredUptoCard : Claim7 := { stood := { row := fnPreferredUptoRow, standIns := [], harness := (true, "d6ecb482b19ac48e1687d4c0b854e83dcc1870345062f3962159dd52ef1f1187"), looks := false }, kinds := [], alts := [], laidByText := true, laidKinds := [.data, .data, .data], laidTests := true, laidLooks := .later }
def FnPreferredUptoCardSaid : Prop := Claim7.holds Tryd.pinned (.plain (OpenSpec.upto fnPreferredSpec)) fnPreferredUptoCard
end Rows
end Go.Proofs.YtofejfmfbifphacDoor
