/-
  DERIVED. GIVEN WITH THE SEED: THE CARDS: each row of YtbbmpfkijhhemabGreatDoorRows.lean that lists a variable, with what it lists TIED to the program's text (the seventh form; the later family's looks); each row that meets fmt, with fmt's text TOLD by the authors' own Lean function (tested against real Go, not proved from fmt's source: count such statements apart). THE CARD IS WHAT COUNTS. Prove the row's statement (the work); the ties are given (YtbbmpfkijhhemabGreatDoorTie.lean); close each card by the builder's one call (the guide's Derived/Test/ToyasCard.lean, 'card_holds'). Laid BY PROGRAM, IN A SANDBOX (cutbox-door.mjs). By AI agents, Wed Nov 11 2026. No macro, syntax, notation, axiom, sorry.
-/
import Derived.Test.YtbbmpfkijhhemabGreatDoorRows
import GoSem.ClaimSeven
namespace Go.Proofs.YtbbmpfkijhhemabGreatDoor
namespace Rows

/-- THE TIED CARD OF 'laws.FnExactShimAll'. -/
def fnExactShimAllCard : Claim7 := { stood := { row := fnExactShimAllRow, standIns := [], harness := (true, "c7f629dc7be0a6885148dacc604c2ce5c5b07a38a52a7fe05eaf098f8fc527b6"), looks := true }, kinds := [], alts := [], laidByText := true, laidKinds := [.data, .data, .data, .data, .handle, .sentinel, .sentinel, .sentinel, .sentinel, .sentinel, .sentinel, .pinned], laidTests := true, laidLooks := .later }
def FnExactShimAllCardSaid : Prop := Claim7.holds Tryz.pinned (.plain (OpenSpec.ofChange fnExactShimAllSpec)) fnExactShimAllCard

/-- THE SECOND FORM's CARD OF 'laws.FnExactShimAll'. -/
def fnExactShimAllUptoCard : Claim7 := { stood := { row := fnExactShimAllUptoRow, standIns := [], harness := (true, "c7f629dc7be0a6885148dacc604c2ce5c5b07a38a52a7fe05eaf098f8fc527b6"), looks := true }, kinds := [], alts := [], laidByText := true, laidKinds := [.data, .data, .data, .data, .handle, .sentinel, .sentinel, .sentinel, .sentinel, .sentinel, .sentinel, .pinned], laidTests := true, laidLooks := .later }
def FnExactShimAllUptoCardSaid : Prop := Claim7.holds Tryz.pinned (.plain (OpenSpec.upto fnExactShimAllSpec)) fnExactShimAllUptoCard
end Rows
end Go.Proofs.YtbbmpfkijhhemabGreatDoor
