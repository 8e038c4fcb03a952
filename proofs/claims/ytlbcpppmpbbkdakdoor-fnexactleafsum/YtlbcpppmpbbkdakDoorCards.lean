/-
  DERIVED. GIVEN WITH THE SEED: THE CARDS: each row of YtlbcpppmpbbkdakDoorRows.lean that lists a variable, with what it lists TIED to the program's text (the seventh form; the later family's looks); each row that meets fmt, with fmt's text TOLD by the authors' own Lean function (tested against real Go, not proved from fmt's source: count such statements apart). THE CARD IS WHAT COUNTS. Prove the row's statement (the work); the ties are given (YtlbcpppmpbbkdakDoorTie.lean); close each card by the builder's one call (the guide's Derived/Test/ToyasCard.lean, 'card_holds'). Laid BY PROGRAM, IN A SANDBOX (cutbox-door.mjs). By AI agents, Wed Nov 11 2026. No macro, syntax, notation, axiom, sorry.
-/
import Derived.Test.YtlbcpppmpbbkdakDoorRows
import GoSem.ClaimSeven
namespace Go.Proofs.YtlbcpppmpbbkdakDoor
namespace Rows

/-- THE TIED CARD OF 'laws.FnExactRingOf'. -/
def fnExactRingOfCard : Claim7 := { stood := { row := fnExactRingOfRow, standIns := [], harness := (true, "2f2293e5b43828a344b85215b48f4587701d5334d6034a6a1cd334ed17e6914b"), looks := false }, kinds := [], alts := [], laidByText := true, laidKinds := [.data, .data, .data], laidTests := true, laidLooks := .later }
def FnExactRingOfCardSaid : Prop := Claim7.holds Tryd.pinned (.plain (OpenSpec.ofChange fnExactRingOfSpec)) fnExactRingOfCard

/-- THE TIED CARD OF 'laws.FnExactLeafSum'. -/
def fnExactLeafSumCard : Claim7 := { stood := { row := fnExactLeafSumRow, standIns := [], harness := (true, "2f2293e5b43828a344b85215b48f4587701d5334d6034a6a1cd334ed17e6914b"), looks := false }, kinds := [], alts := [], laidByText := true, laidKinds := [.data, .data, .data], laidTests := true, laidLooks := .later }
def FnExactLeafSumCardSaid : Prop := Claim7.holds Tryd.pinned (.plain (OpenSpec.ofChange fnExactLeafSumSpec)) fnExactLeafSumCard

/-- THE SECOND FORM's CARD OF 'laws.FnExactRingOf'. -/
def fnExactRingOfUptoCard : Claim7 := { stood := { row := fnExactRingOfUptoRow, standIns := [], harness := (true, "2f2293e5b43828a344b85215b48f4587701d5334d6034a6a1cd334ed17e6914b"), looks := false }, kinds := [], alts := [], laidByText := true, laidKinds := [.data, .data, .data], laidTests := true, laidLooks := .later }
def FnExactRingOfUptoCardSaid : Prop := Claim7.holds Tryd.pinned (.plain (OpenSpec.upto fnExactRingOfSpec)) fnExactRingOfUptoCard

/-- THE SECOND FORM's CARD OF 'laws.FnExactLeafSum'. -/
def fnExactLeafSumUptoCard : Claim7 := { stood := { row := fnExactLeafSumUptoRow, standIns := [], harness := (true, "2f2293e5b43828a344b85215b48f4587701d5334d6034a6a1cd334ed17e6914b"), looks := false }, kinds := [], alts := [], laidByText := true, laidKinds := [.data, .data, .data], laidTests := true, laidLooks := .later }
def FnExactLeafSumUptoCardSaid : Prop := Claim7.holds Tryd.pinned (.plain (OpenSpec.upto fnExactLeafSumSpec)) fnExactLeafSumUptoCard
end Rows
end Go.Proofs.YtlbcpppmpbbkdakDoor
