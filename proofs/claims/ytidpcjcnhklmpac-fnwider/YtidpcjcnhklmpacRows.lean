/-
  No cell of these rows narrows 'for every input' (looked for: loops, veiled, ifaces, maps, wideKeys, modest, calm, conditions, laid).
  DERIVED. THE GIVEN ROWS OF THIS SEAT. 3 by the template 'for every input the law returns true; each argument reads behind the call as it read before'; 0 by the template 'total and deterministic' (their statements: YtidpcjcnhklmpacTotals.lean).
  GIVEN WITH THE SEED: the statements are not yours to turn. If you find one false, say at which input.
  Laid BY PROGRAM, IN A SANDBOX (cutbox-rows.mjs): the forced cells as the released guide's own fill.sh prints them over the translation d4390721985b9f23… (all of the seat's roots in one cut). By AI agents, Wed Nov 11 2026. No macro, syntax, notation, axiom, sorry.
-/
import Derived.Test.YtidpcjcnhklmpacChecked
import GoSem.Claim
import GoSem.ClaimJoined
import GoSem.ClaimMapViews
import Derived.JoinedTies
import Derived.KernelRfl
namespace Go.Proofs.Ytidpcjcnhklmpac
/- THE CELL 'sum', in the pinned program and in every row, IS THE sha256 OF THE DUMP (.gsa) THAT YtidpcjcnhklmpacProg.lean LOADS. Nothing in Lean hashes anything: it is a label: what it is worth is what the hold of that sum in a sandbox is worth. -/
noncomputable def Try.pinned : Pinned := { name := "ytidpcjcnhklmpac", sum := "d4390721985b9f23f1c563e674722efefdc61b9e0fb9210e54e3a02e289a274b", checked := Try.checked }
namespace Rows
def none {H : Type} : Left H := { results := [], args := [] }

/-- 'laws.FnWider': WHATEVER THE INPUT: true; the input reads as it did. -/
def fnWiderSpec : ChangeSpec := { name := "fnWider", fn := fun _ => fun
  | [d1, d2] => { results := [.lit (.bool true)], args := [d1, d2] }
  | _ => none }
def fnWiderRow : OpenClaim := { program := "ytidpcjcnhklmpac", sum := "d4390721985b9f23f1c563e674722efefdc61b9e0fb9210e54e3a02e289a274b", func := "loop.example/g00579/laws.FnWider", spec := "fnWider", unfollowed := true, recurses := true, plainKeys := false, apart := false }
def FnWiderSaid : Prop := fnWiderRow.holds Try.pinned (OpenSpec.ofChange fnWiderSpec)

/-- ITS FALSE NEIGHBOUR: 'it returns false'. Refute it at one input. -/
def fnWiderWrong : ChangeSpec := { name := "fnWider", fn := fun _ => fun
  | [d1, d2] => { results := [.lit (.bool false)], args := [d1, d2] }
  | _ => none }
def FnWiderWrongFalsely : Prop := fnWiderRow.holds Try.pinned (OpenSpec.ofChange fnWiderWrong)

/-- 'laws.FnCutsJoin': WHATEVER THE INPUT: true; the input reads as it did. -/
def fnCutsJoinSpec : ChangeSpec := { name := "fnCutsJoin", fn := fun _ => fun
  | [d1, d2] => { results := [.lit (.bool true)], args := [d1, d2] }
  | _ => none }
def fnCutsJoinRow : OpenClaim := { program := "ytidpcjcnhklmpac", sum := "d4390721985b9f23f1c563e674722efefdc61b9e0fb9210e54e3a02e289a274b", func := "loop.example/g00579/laws.FnCutsJoin", spec := "fnCutsJoin", unfollowed := true, recurses := true, plainKeys := false, apart := false }
def FnCutsJoinSaid : Prop := fnCutsJoinRow.holds Try.pinned (OpenSpec.ofChange fnCutsJoinSpec)

/-- ITS FALSE NEIGHBOUR: 'it returns false'. Refute it at one input. -/
def fnCutsJoinWrong : ChangeSpec := { name := "fnCutsJoin", fn := fun _ => fun
  | [d1, d2] => { results := [.lit (.bool false)], args := [d1, d2] }
  | _ => none }
def FnCutsJoinWrongFalsely : Prop := fnCutsJoinRow.holds Try.pinned (OpenSpec.ofChange fnCutsJoinWrong)

/-- 'laws.FnLacking': WHATEVER THE INPUT: true; the input reads as it did. -/
def fnLackingSpec : ChangeSpec := { name := "fnLacking", fn := fun _ => fun
  | [d] => { results := [.lit (.bool true)], args := [d] }
  | _ => none }
def fnLackingRow : OpenClaim := { program := "ytidpcjcnhklmpac", sum := "d4390721985b9f23f1c563e674722efefdc61b9e0fb9210e54e3a02e289a274b", func := "loop.example/g00579/laws.FnLacking", spec := "fnLacking", unfollowed := true, recurses := true, plainKeys := false, apart := false }
def FnLackingSaid : Prop := fnLackingRow.holds Try.pinned (OpenSpec.ofChange fnLackingSpec)

/-- ITS FALSE NEIGHBOUR: 'it returns false'. Refute it at one input. -/
def fnLackingWrong : ChangeSpec := { name := "fnLacking", fn := fun _ => fun
  | [d] => { results := [.lit (.bool false)], args := [d] }
  | _ => none }
def FnLackingWrongFalsely : Prop := fnLackingRow.holds Try.pinned (OpenSpec.ofChange fnLackingWrong)

/- THE SECOND FORM. 'bulk': how many values and letters a reading holds, each counted each time it is reached (what is shared counts as often as it is met; a slice's spare places count too). A statement '..UptoSaid' is the law's where the arguments, and the package variables that the reading takes, are together of bulk at most 1048576: NARROWER than '..Said'. Prove '..Said' where nothing that the law and all that it calls make is longer than what came in: it says more and counts as full. Else prove '..UptoSaid'. A law counts once. -/
mutual
def uptoBulk {H : Type} : DataW H → Nat
  | .lit (.string bytes) => bytes.length + 1
  | .lit _ => 1
  | .nil => 1
  | .ptr d => uptoBulk d + 1
  | .slice elems spare => uptoBulkAll elems + uptoBulkAll spare + 1
  | .agg parts => uptoBulkAll parts + 1
  | .iface _ d => uptoBulk d + 1
  | .map entries => uptoBulkEntries entries + 1
  | .held _ => 1
def uptoBulkAll {H : Type} : List (DataW H) → Nat
  | [] => 0
  | d :: r => uptoBulk d + uptoBulkAll r
def uptoBulkEntries {H : Type} : List (Lit × DataW H) → Nat
  | [] => 0
  | x :: r => uptoBulkEntry x + uptoBulkEntries r
def uptoBulkEntry {H : Type} : Lit × DataW H → Nat
  | (.string bytes, d) => bytes.length + uptoBulk d + 1
  | (_, d) => uptoBulk d + 1
 end
def uptoSmall : (H : Type) → List (DataW H) → Bool := fun _ ds => decide (uptoBulkAll ds ≤ 1048576)
def OpenSpec.upto (s : _root_.Go.ChangeSpec) : _root_.Go.OpenSpec := { _root_.Go.OpenSpec.ofChange s with cond := some uptoSmall }

/-- 'laws.FnWider', WHERE WHAT IT READS IS OF BULK AT MOST 1048576: true; the input reads as it did. -/
def fnWiderUptoRow : OpenClaim := { program := "ytidpcjcnhklmpac", sum := "d4390721985b9f23f1c563e674722efefdc61b9e0fb9210e54e3a02e289a274b", func := "loop.example/g00579/laws.FnWider", spec := "fnWider", unfollowed := true, recurses := true, plainKeys := false, apart := false, narrowed := true }
def FnWiderUptoSaid : Prop := fnWiderUptoRow.holds Try.pinned (OpenSpec.upto fnWiderSpec)

/-- 'laws.FnCutsJoin', WHERE WHAT IT READS IS OF BULK AT MOST 1048576: true; the input reads as it did. -/
def fnCutsJoinUptoRow : OpenClaim := { program := "ytidpcjcnhklmpac", sum := "d4390721985b9f23f1c563e674722efefdc61b9e0fb9210e54e3a02e289a274b", func := "loop.example/g00579/laws.FnCutsJoin", spec := "fnCutsJoin", unfollowed := true, recurses := true, plainKeys := false, apart := false, narrowed := true }
def FnCutsJoinUptoSaid : Prop := fnCutsJoinUptoRow.holds Try.pinned (OpenSpec.upto fnCutsJoinSpec)

/-- 'laws.FnLacking', WHERE WHAT IT READS IS OF BULK AT MOST 1048576: true; the input reads as it did. -/
def fnLackingUptoRow : OpenClaim := { program := "ytidpcjcnhklmpac", sum := "d4390721985b9f23f1c563e674722efefdc61b9e0fb9210e54e3a02e289a274b", func := "loop.example/g00579/laws.FnLacking", spec := "fnLacking", unfollowed := true, recurses := true, plainKeys := false, apart := false, narrowed := true }
def FnLackingUptoSaid : Prop := fnLackingUptoRow.holds Try.pinned (OpenSpec.upto fnLackingSpec)

end Rows
end Go.Proofs.Ytidpcjcnhklmpac
