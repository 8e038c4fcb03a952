/-
  DERIVED. GIVEN WITH THE SEED: THE CARDS: each row of YtofejfmfbifphahDoorRows.lean that lists a variable, with what it lists TIED to the program's text (the seventh form; the later family's looks); each row that meets fmt, with fmt's text TOLD by the authors' own Lean function (tested against real Go, not proved from fmt's source: count such statements apart). THE CARD IS WHAT COUNTS. Prove the row's statement (the work); the ties are given (YtofejfmfbifphahDoorTie.lean); close each card by the builder's one call (the guide's Derived/Test/ToyasCard.lean, 'card_holds'). Laid BY PROGRAM, IN A SANDBOX (cutbox-door.mjs). By AI agents, Wed Nov 11 2026. No macro, syntax, notation, axiom, sorry.
-/
import Derived.Test.YtofejfmfbifphahDoorRows
import GoSem.ClaimSeven
namespace Go.Proofs.YtofejfmfbifphahDoor
namespace Rows

/-- THE TIED CARD OF 'laws.FnExactWriteText'. -/
def fnExactWriteTextCard : Claim7 := { stood := { row := fnExactWriteTextRow, standIns := [], harness := (true, "7246898a31690e6d1f8bdaac0263b2318d9524357fb7df83de67920ae9205204"), looks := true }, kinds := [], alts := [], laidByText := true, laidKinds := [.data, .data, .data], laidTests := true, laidLooks := .later }
def FnExactWriteTextCardSaid : Prop := Claim7.holds Tryd.pinned (.plain (OpenSpec.ofChange fnExactWriteTextSpec)) fnExactWriteTextCard

/-- THE TIED CARD OF 'laws.FnExactWriteRead'. -/
def fnExactWriteReadCard : Claim7 := { stood := { row := fnExactWriteReadRow, standIns := [], harness := (true, "7246898a31690e6d1f8bdaac0263b2318d9524357fb7df83de67920ae9205204"), looks := true }, kinds := [], alts := [], laidByText := true, laidKinds := [.data, .data, .data, .data, .sentinel, .sentinel, .pinned], laidTests := true, laidLooks := .later }
def FnExactWriteReadCardSaid : Prop := Claim7.holds Tryd.pinned (.plain (OpenSpec.ofChange fnExactWriteReadSpec)) fnExactWriteReadCard

/-- THE TIED CARD OF 'laws.FnExactNumText'. -/
def fnExactNumTextCard : Claim7 := { stood := { row := fnExactNumTextRow, standIns := [], harness := (true, "7246898a31690e6d1f8bdaac0263b2318d9524357fb7df83de67920ae9205204"), looks := true }, kinds := [], alts := [], laidByText := true, laidKinds := [.data, .data, .data], laidTests := true, laidLooks := .later }
def FnExactNumTextCardSaid : Prop := Claim7.holds Tryd.pinned (.plain (OpenSpec.ofChange fnExactNumTextSpec)) fnExactNumTextCard

/-- THE SECOND FORM's CARD OF 'laws.FnExactWriteText'. -/
def fnExactWriteTextUptoCard : Claim7 := { stood := { row := fnExactWriteTextUptoRow, standIns := [], harness := (true, "7246898a31690e6d1f8bdaac0263b2318d9524357fb7df83de67920ae9205204"), looks := true }, kinds := [], alts := [], laidByText := true, laidKinds := [.data, .data, .data], laidTests := true, laidLooks := .later }
def FnExactWriteTextUptoCardSaid : Prop := Claim7.holds Tryd.pinned (.plain (OpenSpec.upto fnExactWriteTextSpec)) fnExactWriteTextUptoCard

/-- THE SECOND FORM's CARD OF 'laws.FnExactWriteRead'. -/
def fnExactWriteReadUptoCard : Claim7 := { stood := { row := fnExactWriteReadUptoRow, standIns := [], harness := (true, "7246898a31690e6d1f8bdaac0263b2318d9524357fb7df83de67920ae9205204"), looks := true }, kinds := [], alts := [], laidByText := true, laidKinds := [.data, .data, .data, .data, .sentinel, .sentinel, .pinned], laidTests := true, laidLooks := .later }
def FnExactWriteReadUptoCardSaid : Prop := Claim7.holds Tryd.pinned (.plain (OpenSpec.upto fnExactWriteReadSpec)) fnExactWriteReadUptoCard

/-- THE SECOND FORM's CARD OF 'laws.FnExactNumText'. -/
def fnExactNumTextUptoCard : Claim7 := { stood := { row := fnExactNumTextUptoRow, standIns := [], harness := (true, "7246898a31690e6d1f8bdaac0263b2318d9524357fb7df83de67920ae9205204"), looks := true }, kinds := [], alts := [], laidByText := true, laidKinds := [.data, .data, .data], laidTests := true, laidLooks := .later }
def FnExactNumTextUptoCardSaid : Prop := Claim7.holds Tryd.pinned (.plain (OpenSpec.upto fnExactNumTextSpec)) fnExactNumTextUptoCard
end Rows
end Go.Proofs.YtofejfmfbifphahDoor
