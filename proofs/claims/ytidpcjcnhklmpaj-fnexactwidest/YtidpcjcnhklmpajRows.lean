/-
  No cell of these rows narrows 'for every input' (looked for: loops, veiled, ifaces, maps, wideKeys, modest, calm, conditions, laid).
  DERIVED. THE GIVEN ROWS OF THIS SEAT. 6 by the template 'for every input the law returns true; each argument reads behind the call as it read before'; 0 by the template 'total and deterministic' (their statements: YtidpcjcnhklmpajTotals.lean).
  GIVEN WITH THE SEED: the statements are not yours to turn. If you find one false, say at which input.
  Laid BY PROGRAM, IN A SANDBOX (cutbox-rows.mjs): the forced cells as the released guide's own fill.sh prints them over the translation c92015c92a25015b… (all of the seat's roots in one cut). By AI agents, Wed Nov 11 2026. No macro, syntax, notation, axiom, sorry.
-/
import Derived.Test.YtidpcjcnhklmpajChecked
import GoSem.Claim
import GoSem.ClaimJoined
import GoSem.ClaimMapViews
import Derived.JoinedTies
import Derived.KernelRfl
namespace Go.Proofs.Ytidpcjcnhklmpaj
/- THE CELL 'sum', in the pinned program and in every row, IS THE sha256 OF THE DUMP (.gsa) THAT YtidpcjcnhklmpajProg.lean LOADS. Nothing in Lean hashes anything: it is a label: what it is worth is what the hold of that sum in a sandbox is worth. -/
noncomputable def Try.pinned : Pinned := { name := "ytidpcjcnhklmpaj", sum := "c92015c92a25015b6a5428f45f4964d6141380ccb90f023cbf473e9409564b1e", checked := Try.checked }
namespace Rows
def none {H : Type} : Left H := { results := [], args := [] }

/-- 'laws.FnExactAlive': WHATEVER THE INPUT: true; the input reads as it did. -/
def fnExactAliveSpec : ChangeSpec := { name := "fnExactAlive", fn := fun _ => fun
  | [d] => { results := [.lit (.bool true)], args := [d] }
  | _ => none }
def fnExactAliveRow : OpenClaim := { program := "ytidpcjcnhklmpaj", sum := "c92015c92a25015b6a5428f45f4964d6141380ccb90f023cbf473e9409564b1e", func := "loop.example/g00579/laws.FnExactAlive", spec := "fnExactAlive", plainKeys := false, apart := false }
def FnExactAliveSaid : Prop := fnExactAliveRow.holds Try.pinned (OpenSpec.ofChange fnExactAliveSpec)

/-- ITS FALSE NEIGHBOUR: 'it returns false'. Refute it at one input. -/
def fnExactAliveWrong : ChangeSpec := { name := "fnExactAlive", fn := fun _ => fun
  | [d] => { results := [.lit (.bool false)], args := [d] }
  | _ => none }
def FnExactAliveWrongFalsely : Prop := fnExactAliveRow.holds Try.pinned (OpenSpec.ofChange fnExactAliveWrong)

/-- 'laws.FnExactCovered': WHATEVER THE INPUT: true; the input reads as it did. -/
def fnExactCoveredSpec : ChangeSpec := { name := "fnExactCovered", fn := fun _ => fun
  | [d1, d2] => { results := [.lit (.bool true)], args := [d1, d2] }
  | _ => none }
def fnExactCoveredRow : OpenClaim := { program := "ytidpcjcnhklmpaj", sum := "c92015c92a25015b6a5428f45f4964d6141380ccb90f023cbf473e9409564b1e", func := "loop.example/g00579/laws.FnExactCovered", spec := "fnExactCovered", unfollowed := true, recurses := true, plainKeys := false, apart := false }
def FnExactCoveredSaid : Prop := fnExactCoveredRow.holds Try.pinned (OpenSpec.ofChange fnExactCoveredSpec)

/-- ITS FALSE NEIGHBOUR: 'it returns false'. Refute it at one input. -/
def fnExactCoveredWrong : ChangeSpec := { name := "fnExactCovered", fn := fun _ => fun
  | [d1, d2] => { results := [.lit (.bool false)], args := [d1, d2] }
  | _ => none }
def FnExactCoveredWrongFalsely : Prop := fnExactCoveredRow.holds Try.pinned (OpenSpec.ofChange fnExactCoveredWrong)

/-- 'laws.FnExactLacks': WHATEVER THE INPUT: true; the input reads as it did. -/
def fnExactLacksSpec : ChangeSpec := { name := "fnExactLacks", fn := fun _ => fun
  | [d1, d2] => { results := [.lit (.bool true)], args := [d1, d2] }
  | _ => none }
def fnExactLacksRow : OpenClaim := { program := "ytidpcjcnhklmpaj", sum := "c92015c92a25015b6a5428f45f4964d6141380ccb90f023cbf473e9409564b1e", func := "loop.example/g00579/laws.FnExactLacks", spec := "fnExactLacks", unfollowed := true, recurses := true, plainKeys := false, apart := false }
def FnExactLacksSaid : Prop := fnExactLacksRow.holds Try.pinned (OpenSpec.ofChange fnExactLacksSpec)

/-- ITS FALSE NEIGHBOUR: 'it returns false'. Refute it at one input. -/
def fnExactLacksWrong : ChangeSpec := { name := "fnExactLacks", fn := fun _ => fun
  | [d1, d2] => { results := [.lit (.bool false)], args := [d1, d2] }
  | _ => none }
def FnExactLacksWrongFalsely : Prop := fnExactLacksRow.holds Try.pinned (OpenSpec.ofChange fnExactLacksWrong)

/-- 'laws.FnExactIsCut': WHATEVER THE INPUT: true; the input reads as it did. -/
def fnExactIsCutSpec : ChangeSpec := { name := "fnExactIsCut", fn := fun _ => fun
  | [d] => { results := [.lit (.bool true)], args := [d] }
  | _ => none }
def fnExactIsCutRow : OpenClaim := { program := "ytidpcjcnhklmpaj", sum := "c92015c92a25015b6a5428f45f4964d6141380ccb90f023cbf473e9409564b1e", func := "loop.example/g00579/laws.FnExactIsCut", spec := "fnExactIsCut", unfollowed := true, recurses := true, plainKeys := false, apart := false }
def FnExactIsCutSaid : Prop := fnExactIsCutRow.holds Try.pinned (OpenSpec.ofChange fnExactIsCutSpec)

/-- ITS FALSE NEIGHBOUR: 'it returns false'. Refute it at one input. -/
def fnExactIsCutWrong : ChangeSpec := { name := "fnExactIsCut", fn := fun _ => fun
  | [d] => { results := [.lit (.bool false)], args := [d] }
  | _ => none }
def FnExactIsCutWrongFalsely : Prop := fnExactIsCutRow.holds Try.pinned (OpenSpec.ofChange fnExactIsCutWrong)

/-- 'laws.FnExactFitting': WHATEVER THE INPUT: true; the input reads as it did. -/
def fnExactFittingSpec : ChangeSpec := { name := "fnExactFitting", fn := fun _ => fun
  | [d1, d2] => { results := [.lit (.bool true)], args := [d1, d2] }
  | _ => none }
def fnExactFittingRow : OpenClaim := { program := "ytidpcjcnhklmpaj", sum := "c92015c92a25015b6a5428f45f4964d6141380ccb90f023cbf473e9409564b1e", func := "loop.example/g00579/laws.FnExactFitting", spec := "fnExactFitting", unfollowed := true, recurses := true, plainKeys := false, apart := false }
def FnExactFittingSaid : Prop := fnExactFittingRow.holds Try.pinned (OpenSpec.ofChange fnExactFittingSpec)

/-- ITS FALSE NEIGHBOUR: 'it returns false'. Refute it at one input. -/
def fnExactFittingWrong : ChangeSpec := { name := "fnExactFitting", fn := fun _ => fun
  | [d1, d2] => { results := [.lit (.bool false)], args := [d1, d2] }
  | _ => none }
def FnExactFittingWrongFalsely : Prop := fnExactFittingRow.holds Try.pinned (OpenSpec.ofChange fnExactFittingWrong)

/-- 'laws.FnExactWidest': WHATEVER THE INPUT: true; the input reads as it did. -/
def fnExactWidestSpec : ChangeSpec := { name := "fnExactWidest", fn := fun _ => fun
  | [d1, d2] => { results := [.lit (.bool true)], args := [d1, d2] }
  | _ => none }
def fnExactWidestRow : OpenClaim := { program := "ytidpcjcnhklmpaj", sum := "c92015c92a25015b6a5428f45f4964d6141380ccb90f023cbf473e9409564b1e", func := "loop.example/g00579/laws.FnExactWidest", spec := "fnExactWidest", unfollowed := true, recurses := true, plainKeys := false, apart := false }
def FnExactWidestSaid : Prop := fnExactWidestRow.holds Try.pinned (OpenSpec.ofChange fnExactWidestSpec)

/-- ITS FALSE NEIGHBOUR: 'it returns false'. Refute it at one input. -/
def fnExactWidestWrong : ChangeSpec := { name := "fnExactWidest", fn := fun _ => fun
  | [d1, d2] => { results := [.lit (.bool false)], args := [d1, d2] }
  | _ => none }
def FnExactWidestWrongFalsely : Prop := fnExactWidestRow.holds Try.pinned (OpenSpec.ofChange fnExactWidestWrong)

/- THE SECOND FORM. 'bulk': how many values and letters a reading holds, each counted each time it is reached (what is shared counts as often as it is met; a slice's spare places count too). A statement '..UptoSaid' is the law's where the arguments, and the package variables that the reading takes, are together of bulk at most 1048576: NARROWER than '..Said'. Prove '..Said' where nothing that the law and all that it calls make is longer than what came in: it says more and counts as full. Else prove '..UptoSaid'. A law counts once. -/
mutual
def uptoBulk {H : Type} : DataW H → Nat
  | .lit (.string bytes) => bytes.length + 1
  | .lit _ => 1
  | .nil => 1
  | .ptr d => uptoBulk d + 1
  | .slice elems spare => uptoBulkAll elems + uptoBulkAll spare + 1
  | .agg parts => uptoBulkAll parts + 1
  | .iface _ d => uptoBulk d + 1
  | .map entries => uptoBulkEntries entries + 1
  | .held _ => 1
def uptoBulkAll {H : Type} : List (DataW H) → Nat
  | [] => 0
  | d :: r => uptoBulk d + uptoBulkAll r
def uptoBulkEntries {H : Type} : List (Lit × DataW H) → Nat
  | [] => 0
  | x :: r => uptoBulkEntry x + uptoBulkEntries r
def uptoBulkEntry {H : Type} : Lit × DataW H → Nat
  | (.string bytes, d) => bytes.length + uptoBulk d + 1
  | (_, d) => uptoBulk d + 1
 end
def uptoSmall : (H : Type) → List (DataW H) → Bool := fun _ ds => decide (uptoBulkAll ds ≤ 1048576)
def OpenSpec.upto (s : _root_.Go.ChangeSpec) : _root_.Go.OpenSpec := { _root_.Go.OpenSpec.ofChange s with cond := some uptoSmall }

/-- 'laws.FnExactAlive', WHERE WHAT IT READS IS OF BULK AT MOST 1048576: true; the input reads as it did. -/
def fnExactAliveUptoRow : OpenClaim := { program := "ytidpcjcnhklmpaj", sum := "c92015c92a25015b6a5428f45f4964d6141380ccb90f023cbf473e9409564b1e", func := "loop.example/g00579/laws.FnExactAlive", spec := "fnExactAlive", plainKeys := false, apart := false, narrowed := true }
def FnExactAliveUptoSaid : Prop := fnExactAliveUptoRow.holds Try.pinned (OpenSpec.upto fnExactAliveSpec)

/-- 'laws.FnExactCovered', WHERE WHAT IT READS IS OF BULK AT MOST 1048576: true; the input reads as it did. -/
def fnExactCoveredUptoRow : OpenClaim := { program := "ytidpcjcnhklmpaj", sum := "c92015c92a25015b6a5428f45f4964d6141380ccb90f023cbf473e9409564b1e", func := "loop.example/g00579/laws.FnExactCovered", spec := "fnExactCovered", unfollowed := true, recurses := true, plainKeys := false, apart := false, narrowed := true }
def FnExactCoveredUptoSaid : Prop := fnExactCoveredUptoRow.holds Try.pinned (OpenSpec.upto fnExactCoveredSpec)

/-- 'laws.FnExactLacks', WHERE WHAT IT READS IS OF BULK AT MOST 1048576: true; the input reads as it did. -/
def fnExactLacksUptoRow : OpenClaim := { program := "ytidpcjcnhklmpaj", sum := "c92015c92a25015b6a5428f45f4964d6141380ccb90f023cbf473e9409564b1e", func := "loop.example/g00579/laws.FnExactLacks", spec := "fnExactLacks", unfollowed := true, recurses := true, plainKeys := false, apart := false, narrowed := true }
def FnExactLacksUptoSaid : Prop := fnExactLacksUptoRow.holds Try.pinned (OpenSpec.upto fnExactLacksSpec)

/-- 'laws.FnExactIsCut', WHERE WHAT IT READS IS OF BULK AT MOST 1048576: true; the input reads as it did. -/
def fnExactIsCutUptoRow : OpenClaim := { program := "ytidpcjcnhklmpaj", sum := "c92015c92a25015b6a5428f45f4964d6141380ccb90f023cbf473e9409564b1e", func := "loop.example/g00579/laws.FnExactIsCut", spec := "fnExactIsCut", unfollowed := true, recurses := true, plainKeys := false, apart := false, narrowed := true }
def FnExactIsCutUptoSaid : Prop := fnExactIsCutUptoRow.holds Try.pinned (OpenSpec.upto fnExactIsCutSpec)

/-- 'laws.FnExactFitting', WHERE WHAT IT READS IS OF BULK AT MOST 1048576: true; the input reads as it did. -/
def fnExactFittingUptoRow : OpenClaim := { program := "ytidpcjcnhklmpaj", sum := "c92015c92a25015b6a5428f45f4964d6141380ccb90f023cbf473e9409564b1e", func := "loop.example/g00579/laws.FnExactFitting", spec := "fnExactFitting", unfollowed := true, recurses := true, plainKeys := false, apart := false, narrowed := true }
def FnExactFittingUptoSaid : Prop := fnExactFittingUptoRow.holds Try.pinned (OpenSpec.upto fnExactFittingSpec)

/-- 'laws.FnExactWidest', WHERE WHAT IT READS IS OF BULK AT MOST 1048576: true; the input reads as it did. -/
def fnExactWidestUptoRow : OpenClaim := { program := "ytidpcjcnhklmpaj", sum := "c92015c92a25015b6a5428f45f4964d6141380ccb90f023cbf473e9409564b1e", func := "loop.example/g00579/laws.FnExactWidest", spec := "fnExactWidest", unfollowed := true, recurses := true, plainKeys := false, apart := false, narrowed := true }
def FnExactWidestUptoSaid : Prop := fnExactWidestUptoRow.holds Try.pinned (OpenSpec.upto fnExactWidestSpec)

end Rows
end Go.Proofs.Ytidpcjcnhklmpaj
