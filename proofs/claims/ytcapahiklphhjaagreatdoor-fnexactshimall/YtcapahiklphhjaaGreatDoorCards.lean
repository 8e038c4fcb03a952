/-
  DERIVED. GIVEN WITH THE SEED: THE CARDS: each row of YtcapahiklphhjaaGreatDoorRows.lean that lists a variable, with what it lists TIED to the program's text (the seventh form; the later family's looks); each row that meets fmt, with fmt's text TOLD by the authors' own Lean function (tested against real Go, not proved from fmt's source: count such statements apart). THE CARD IS WHAT COUNTS. Prove the row's statement (the work); the ties are given (YtcapahiklphhjaaGreatDoorTie.lean); close each card by the builder's one call (the guide's Derived/Test/ToyasCard.lean, 'card_holds'). Laid BY PROGRAM, IN A SANDBOX (cutbox-door.mjs). By AI agents, Wed Nov 11 2026. No macro, syntax, notation, axiom, sorry.
-/
import Derived.Test.YtcapahiklphhjaaGreatDoorRows
import GoSem.ClaimSeven
namespace Go.Proofs.YtcapahiklphhjaaGreatDoor
namespace Rows

/-- THE TIED CARD OF 'laws.FnExactShimOk'. -/
def fnExactShimOkCard : Claim7 := { stood := { row := fnExactShimOkRow, standIns := [], harness := (true, "c6e28790c65db4982b7c462394a94f5f4ed31631f3ca7103a209a9c57bbc34ec"), looks := true }, kinds := [], alts := [], laidByText := true, laidKinds := [.data, .data, .data, .data, .handle, .sentinel, .sentinel, .sentinel, .sentinel, .sentinel, .sentinel, .pinned], laidTests := true, laidLooks := .later }
def FnExactShimOkCardSaid : Prop := Claim7.holds Tryz.pinned (.plain (OpenSpec.ofChange fnExactShimOkSpec)) fnExactShimOkCard

/-- THE TIED CARD OF 'laws.FnExactShimPut'. -/
def fnExactShimPutCard : Claim7 := { stood := { row := fnExactShimPutRow, standIns := [], harness := (true, "c6e28790c65db4982b7c462394a94f5f4ed31631f3ca7103a209a9c57bbc34ec"), looks := true }, kinds := [], alts := [], laidByText := true, laidKinds := [.data, .data, .data, .data, .handle, .sentinel, .sentinel, .sentinel, .sentinel, .sentinel, .sentinel, .pinned], laidTests := true, laidLooks := .later }
def FnExactShimPutCardSaid : Prop := Claim7.holds Tryz.pinned (.plain (OpenSpec.ofChange fnExactShimPutSpec)) fnExactShimPutCard

/-- THE TIED CARD OF 'laws.FnExactShimSee'. -/
def fnExactShimSeeCard : Claim7 := { stood := { row := fnExactShimSeeRow, standIns := [], harness := (true, "c6e28790c65db4982b7c462394a94f5f4ed31631f3ca7103a209a9c57bbc34ec"), looks := true }, kinds := [], alts := [], laidByText := true, laidKinds := [.data, .data, .data, .data, .handle, .sentinel, .sentinel, .sentinel, .sentinel, .sentinel, .sentinel, .pinned], laidTests := true, laidLooks := .later }
def FnExactShimSeeCardSaid : Prop := Claim7.holds Tryz.pinned (.plain (OpenSpec.ofChange fnExactShimSeeSpec)) fnExactShimSeeCard

/-- THE TIED CARD OF 'laws.FnExactShimBack'. -/
def fnExactShimBackCard : Claim7 := { stood := { row := fnExactShimBackRow, standIns := [], harness := (true, "c6e28790c65db4982b7c462394a94f5f4ed31631f3ca7103a209a9c57bbc34ec"), looks := true }, kinds := [], alts := [], laidByText := true, laidKinds := [.data, .data, .data, .data, .handle, .sentinel, .sentinel, .sentinel, .sentinel, .sentinel, .sentinel, .pinned], laidTests := true, laidLooks := .later }
def FnExactShimBackCardSaid : Prop := Claim7.holds Tryz.pinned (.plain (OpenSpec.ofChange fnExactShimBackSpec)) fnExactShimBackCard

/-- THE TIED CARD OF 'laws.FnExactShimAll'. -/
def fnExactShimAllCard : Claim7 := { stood := { row := fnExactShimAllRow, standIns := [], harness := (true, "c6e28790c65db4982b7c462394a94f5f4ed31631f3ca7103a209a9c57bbc34ec"), looks := true }, kinds := [], alts := [], laidByText := true, laidKinds := [.data, .data, .data, .data, .handle, .sentinel, .sentinel, .sentinel, .sentinel, .sentinel, .sentinel, .pinned], laidTests := true, laidLooks := .later }
def FnExactShimAllCardSaid : Prop := Claim7.holds Tryz.pinned (.plain (OpenSpec.ofChange fnExactShimAllSpec)) fnExactShimAllCard

/-- THE SECOND FORM's CARD OF 'laws.FnExactShimOk'. -/
def fnExactShimOkUptoCard : Claim7 := { stood := { row := fnExactShimOkUptoRow, standIns := [], harness := (true, "c6e28790c65db4982b7c462394a94f5f4ed31631f3ca7103a209a9c57bbc34ec"), looks := true }, kinds := [], alts := [], laidByText := true, laidKinds := [.data, .data, .data, .data, .handle, .sentinel, .sentinel, .sentinel, .sentinel, .sentinel, .sentinel, .pinned], laidTests := true, laidLooks := .later }
def FnExactShimOkUptoCardSaid : Prop := Claim7.holds Tryz.pinned (.plain (OpenSpec.upto fnExactShimOkSpec)) fnExactShimOkUptoCard

/-- THE SECOND FORM's CARD OF 'laws.FnExactShimPut'. -/
def fnExactShimPutUptoCard : Claim7 := { stood := { row := fnExactShimPutUptoRow, standIns := [], harness := (true, "c6e28790c65db4982b7c462394a94f5f4ed31631f3ca7103a209a9c57bbc34ec"), looks := true }, kinds := [], alts := [], laidByText := true, laidKinds := [.data, .data, .data, .data, .handle, .sentinel, .sentinel, .sentinel, .sentinel, .sentinel, .sentinel, .pinned], laidTests := true, laidLooks := .later }
def FnExactShimPutUptoCardSaid : Prop := Claim7.holds Tryz.pinned (.plain (OpenSpec.upto fnExactShimPutSpec)) fnExactShimPutUptoCard

/-- THE SECOND FORM's CARD OF 'laws.FnExactShimSee'. -/
def fnExactShimSeeUptoCard : Claim7 := { stood := { row := fnExactShimSeeUptoRow, standIns := [], harness := (true, "c6e28790c65db4982b7c462394a94f5f4ed31631f3ca7103a209a9c57bbc34ec"), looks := true }, kinds := [], alts := [], laidByText := true, laidKinds := [.data, .data, .data, .data, .handle, .sentinel, .sentinel, .sentinel, .sentinel, .sentinel, .sentinel, .pinned], laidTests := true, laidLooks := .later }
def FnExactShimSeeUptoCardSaid : Prop := Claim7.holds Tryz.pinned (.plain (OpenSpec.upto fnExactShimSeeSpec)) fnExactShimSeeUptoCard

/-- THE SECOND FORM's CARD OF 'laws.FnExactShimBack'. -/
def fnExactShimBackUptoCard : Claim7 := { stood := { row := fnExactShimBackUptoRow, standIns := [], harness := (true, "c6e28790c65db4982b7c462394a94f5f4ed31631f3ca7103a209a9c57bbc34ec"), looks := true }, kinds := [], alts := [], laidByText := true, laidKinds := [.data, .data, .data, .data, .handle, .sentinel, .sentinel, .sentinel, .sentinel, .sentinel, .sentinel, .pinned], laidTests := true, laidLooks := .later }
def FnExactShimBackUptoCardSaid : Prop := Claim7.holds Tryz.pinned (.plain (OpenSpec.upto fnExactShimBackSpec)) fnExactShimBackUptoCard

/-- THE SECOND FORM's CARD OF 'laws.FnExactShimAll'. -/
def fnExactShimAllUptoCard : Claim7 := { stood := { row := fnExactShimAllUptoRow, standIns := [], harness := (true, "c6e28790c65db4982b7c462394a94f5f4ed31631f3ca7103a209a9c57bbc34ec"), looks := true }, kinds := [], alts := [], laidByText := true, laidKinds := [.data, .data, .data, .data, .handle, .sentinel, .sentinel, .sentinel, .sentinel, .sentinel, .sentinel, .pinned], laidTests := true, laidLooks := .later }
def FnExactShimAllUptoCardSaid : Prop := Claim7.holds Tryz.pinned (.plain (OpenSpec.upto fnExactShimAllSpec)) fnExactShimAllUptoCard
end Rows
end Go.Proofs.YtcapahiklphhjaaGreatDoor
