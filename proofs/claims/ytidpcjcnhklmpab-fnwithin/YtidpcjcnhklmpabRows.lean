/-
  No cell of these rows narrows 'for every input' (looked for: loops, veiled, ifaces, maps, wideKeys, modest, calm, conditions, laid).
  DERIVED. THE GIVEN ROWS OF THIS SEAT. 4 by the template 'for every input the law returns true; each argument reads behind the call as it read before'; 0 by the template 'total and deterministic' (their statements: YtidpcjcnhklmpabTotals.lean).
  GIVEN WITH THE SEED: the statements are not yours to turn. If you find one false, say at which input.
  Laid BY PROGRAM, IN A SANDBOX (cutbox-rows.mjs): the forced cells as the released guide's own fill.sh prints them over the translation 5e39915d4866d579… (all of the seat's roots in one cut). By AI agents, Wed Nov 11 2026. No macro, syntax, notation, axiom, sorry.
-/
import Derived.Test.YtidpcjcnhklmpabChecked
import GoSem.Claim
import GoSem.ClaimJoined
import GoSem.ClaimMapViews
import Derived.JoinedTies
import Derived.KernelRfl
namespace Go.Proofs.Ytidpcjcnhklmpab
/- THE CELL 'sum', in the pinned program and in every row, IS THE sha256 OF THE DUMP (.gsa) THAT YtidpcjcnhklmpabProg.lean LOADS. Nothing in Lean hashes anything: it is a label: what it is worth is what the hold of that sum in a sandbox is worth. -/
noncomputable def Try.pinned : Pinned := { name := "ytidpcjcnhklmpab", sum := "5e39915d4866d57999913b2437d245b7f5be471e75e7f0f04dbefb1a9b19466b", checked := Try.checked }
namespace Rows
def none {H : Type} : Left H := { results := [], args := [] }

/-- 'laws.FnTagOrder': WHATEVER THE INPUT: true; the input reads as it did. -/
def fnTagOrderSpec : ChangeSpec := { name := "fnTagOrder", fn := fun _ => fun
  | [d1, d2] => { results := [.lit (.bool true)], args := [d1, d2] }
  | _ => none }
def fnTagOrderRow : OpenClaim := { program := "ytidpcjcnhklmpab", sum := "5e39915d4866d57999913b2437d245b7f5be471e75e7f0f04dbefb1a9b19466b", func := "loop.example/g00579/laws.FnTagOrder", spec := "fnTagOrder", unfollowed := true, recurses := true, plainKeys := false, apart := false }
def FnTagOrderSaid : Prop := fnTagOrderRow.holds Try.pinned (OpenSpec.ofChange fnTagOrderSpec)

/-- ITS FALSE NEIGHBOUR: 'it returns false'. Refute it at one input. -/
def fnTagOrderWrong : ChangeSpec := { name := "fnTagOrder", fn := fun _ => fun
  | [d1, d2] => { results := [.lit (.bool false)], args := [d1, d2] }
  | _ => none }
def FnTagOrderWrongFalsely : Prop := fnTagOrderRow.holds Try.pinned (OpenSpec.ofChange fnTagOrderWrong)

/-- 'laws.FnJoined': WHATEVER THE INPUT: true; the input reads as it did. -/
def fnJoinedSpec : ChangeSpec := { name := "fnJoined", fn := fun _ => fun
  | [d1, d2] => { results := [.lit (.bool true)], args := [d1, d2] }
  | _ => none }
def fnJoinedRow : OpenClaim := { program := "ytidpcjcnhklmpab", sum := "5e39915d4866d57999913b2437d245b7f5be471e75e7f0f04dbefb1a9b19466b", func := "loop.example/g00579/laws.FnJoined", spec := "fnJoined", unfollowed := true, recurses := true, plainKeys := false, apart := false }
def FnJoinedSaid : Prop := fnJoinedRow.holds Try.pinned (OpenSpec.ofChange fnJoinedSpec)

/-- ITS FALSE NEIGHBOUR: 'it returns false'. Refute it at one input. -/
def fnJoinedWrong : ChangeSpec := { name := "fnJoined", fn := fun _ => fun
  | [d1, d2] => { results := [.lit (.bool false)], args := [d1, d2] }
  | _ => none }
def FnJoinedWrongFalsely : Prop := fnJoinedRow.holds Try.pinned (OpenSpec.ofChange fnJoinedWrong)

/-- 'laws.FnMapKept': WHATEVER THE INPUT: true; the input reads as it did. -/
def fnMapKeptSpec : ChangeSpec := { name := "fnMapKept", fn := fun _ => fun
  | [d] => { results := [.lit (.bool true)], args := [d] }
  | _ => none }
def fnMapKeptRow : OpenClaim := { program := "ytidpcjcnhklmpab", sum := "5e39915d4866d57999913b2437d245b7f5be471e75e7f0f04dbefb1a9b19466b", func := "loop.example/g00579/laws.FnMapKept", spec := "fnMapKept", unfollowed := true, recurses := true, plainKeys := false, apart := false }
def FnMapKeptSaid : Prop := fnMapKeptRow.holds Try.pinned (OpenSpec.ofChange fnMapKeptSpec)

/-- ITS FALSE NEIGHBOUR: 'it returns false'. Refute it at one input. -/
def fnMapKeptWrong : ChangeSpec := { name := "fnMapKept", fn := fun _ => fun
  | [d] => { results := [.lit (.bool false)], args := [d] }
  | _ => none }
def FnMapKeptWrongFalsely : Prop := fnMapKeptRow.holds Try.pinned (OpenSpec.ofChange fnMapKeptWrong)

/-- 'laws.FnWithin': WHATEVER THE INPUT: true; the input reads as it did. -/
def fnWithinSpec : ChangeSpec := { name := "fnWithin", fn := fun _ => fun
  | [d1, d2] => { results := [.lit (.bool true)], args := [d1, d2] }
  | _ => none }
def fnWithinRow : OpenClaim := { program := "ytidpcjcnhklmpab", sum := "5e39915d4866d57999913b2437d245b7f5be471e75e7f0f04dbefb1a9b19466b", func := "loop.example/g00579/laws.FnWithin", spec := "fnWithin", unfollowed := true, recurses := true, plainKeys := false, apart := false }
def FnWithinSaid : Prop := fnWithinRow.holds Try.pinned (OpenSpec.ofChange fnWithinSpec)

/-- ITS FALSE NEIGHBOUR: 'it returns false'. Refute it at one input. -/
def fnWithinWrong : ChangeSpec := { name := "fnWithin", fn := fun _ => fun
  | [d1, d2] => { results := [.lit (.bool false)], args := [d1, d2] }
  | _ => none }
def FnWithinWrongFalsely : Prop := fnWithinRow.holds Try.pinned (OpenSpec.ofChange fnWithinWrong)

/- THE SECOND FORM. 'bulk': how many values and letters a reading holds, each counted each time it is reached (what is shared counts as often as it is met; a slice's spare places count too). A statement '..UptoSaid' is the law's where the arguments, and the package variables that the reading takes, are together of bulk at most 1048576: NARROWER than '..Said'. Prove '..Said' where nothing that the law and all that it calls make is longer than what came in: it says more and counts as full. Else prove '..UptoSaid'. A law counts once. -/
mutual
def uptoBulk {H : Type} : DataW H → Nat
  | .lit (.string bytes) => bytes.length + 1
  | .lit _ => 1
  | .nil => 1
  | .ptr d => uptoBulk d + 1
  | .slice elems spare => uptoBulkAll elems + uptoBulkAll spare + 1
  | .agg parts => uptoBulkAll parts + 1
  | .iface _ d => uptoBulk d + 1
  | .map entries => uptoBulkEntries entries + 1
  | .held _ => 1
def uptoBulkAll {H : Type} : List (DataW H) → Nat
  | [] => 0
  | d :: r => uptoBulk d + uptoBulkAll r
def uptoBulkEntries {H : Type} : List (Lit × DataW H) → Nat
  | [] => 0
  | x :: r => uptoBulkEntry x + uptoBulkEntries r
def uptoBulkEntry {H : Type} : Lit × DataW H → Nat
  | (.string bytes, d) => bytes.length + uptoBulk d + 1
  | (_, d) => uptoBulk d + 1
 end
def uptoSmall : (H : Type) → List (DataW H) → Bool := fun _ ds => decide (uptoBulkAll ds ≤ 1048576)
def OpenSpec.upto (s : _root_.Go.ChangeSpec) : _root_.Go.OpenSpec := { _root_.Go.OpenSpec.ofChange s with cond := some uptoSmall }

/-- 'laws.FnTagOrder', WHERE WHAT IT READS IS OF BULK AT MOST 1048576: true; the input reads as it did. -/
def fnTagOrderUptoRow : OpenClaim := { program := "ytidpcjcnhklmpab", sum := "5e39915d4866d57999913b2437d245b7f5be471e75e7f0f04dbefb1a9b19466b", func := "loop.example/g00579/laws.FnTagOrder", spec := "fnTagOrder", unfollowed := true, recurses := true, plainKeys := false, apart := false, narrowed := true }
def FnTagOrderUptoSaid : Prop := fnTagOrderUptoRow.holds Try.pinned (OpenSpec.upto fnTagOrderSpec)

/-- 'laws.FnJoined', WHERE WHAT IT READS IS OF BULK AT MOST 1048576: true; the input reads as it did. -/
def fnJoinedUptoRow : OpenClaim := { program := "ytidpcjcnhklmpab", sum := "5e39915d4866d57999913b2437d245b7f5be471e75e7f0f04dbefb1a9b19466b", func := "loop.example/g00579/laws.FnJoined", spec := "fnJoined", unfollowed := true, recurses := true, plainKeys := false, apart := false, narrowed := true }
def FnJoinedUptoSaid : Prop := fnJoinedUptoRow.holds Try.pinned (OpenSpec.upto fnJoinedSpec)

/-- 'laws.FnMapKept', WHERE WHAT IT READS IS OF BULK AT MOST 1048576: true; the input reads as it did. -/
def fnMapKeptUptoRow : OpenClaim := { program := "ytidpcjcnhklmpab", sum := "5e39915d4866d57999913b2437d245b7f5be471e75e7f0f04dbefb1a9b19466b", func := "loop.example/g00579/laws.FnMapKept", spec := "fnMapKept", unfollowed := true, recurses := true, plainKeys := false, apart := false, narrowed := true }
def FnMapKeptUptoSaid : Prop := fnMapKeptUptoRow.holds Try.pinned (OpenSpec.upto fnMapKeptSpec)

/-- 'laws.FnWithin', WHERE WHAT IT READS IS OF BULK AT MOST 1048576: true; the input reads as it did. -/
def fnWithinUptoRow : OpenClaim := { program := "ytidpcjcnhklmpab", sum := "5e39915d4866d57999913b2437d245b7f5be471e75e7f0f04dbefb1a9b19466b", func := "loop.example/g00579/laws.FnWithin", spec := "fnWithin", unfollowed := true, recurses := true, plainKeys := false, apart := false, narrowed := true }
def FnWithinUptoSaid : Prop := fnWithinUptoRow.holds Try.pinned (OpenSpec.upto fnWithinSpec)

end Rows
end Go.Proofs.Ytidpcjcnhklmpab
