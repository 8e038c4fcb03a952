/-
  No cell of these rows narrows 'for every input' (looked for: loops, veiled, ifaces, maps, wideKeys, modest, calm, conditions, laid).
  DERIVED. THE GIVEN ROWS OF THIS SEAT. 6 by the template 'for every input the law returns true; each argument reads behind the call as it read before'; 0 by the template 'total and deterministic' (their statements: YtidpcjcnhklmpaiTotals.lean).
  GIVEN WITH THE SEED: the statements are not yours to turn. If you find one false, say at which input.
  Laid BY PROGRAM, IN A SANDBOX (cutbox-rows.mjs): the forced cells as the released guide's own fill.sh prints them over the translation e62490a6ee848df3… (all of the seat's roots in one cut). By AI agents, Wed Nov 11 2026. No macro, syntax, notation, axiom, sorry.
-/
import Derived.Test.YtidpcjcnhklmpaiChecked
import GoSem.Claim
import GoSem.ClaimJoined
import GoSem.ClaimMapViews
import Derived.JoinedTies
import Derived.KernelRfl
namespace Go.Proofs.Ytidpcjcnhklmpai
/- THE CELL 'sum', in the pinned program and in every row, IS THE sha256 OF THE DUMP (.gsa) THAT YtidpcjcnhklmpaiProg.lean LOADS. Nothing in Lean hashes anything: it is a label: what it is worth is what the hold of that sum in a sandbox is worth. -/
noncomputable def Try.pinned : Pinned := { name := "ytidpcjcnhklmpai", sum := "e62490a6ee848df3694fb2ad99ad8188e8d0c5d01f1501e98453029ca953945d", checked := Try.checked }
namespace Rows
def none {H : Type} : Left H := { results := [], args := [] }

/-- 'laws.FnExactMapOk': WHATEVER THE INPUT: true; the input reads as it did. -/
def fnExactMapOkSpec : ChangeSpec := { name := "fnExactMapOk", fn := fun _ => fun
  | [d] => { results := [.lit (.bool true)], args := [d] }
  | _ => none }
def fnExactMapOkRow : OpenClaim := { program := "ytidpcjcnhklmpai", sum := "e62490a6ee848df3694fb2ad99ad8188e8d0c5d01f1501e98453029ca953945d", func := "loop.example/g00579/laws.FnExactMapOk", spec := "fnExactMapOk", plainKeys := false, apart := false }
def FnExactMapOkSaid : Prop := fnExactMapOkRow.holds Try.pinned (OpenSpec.ofChange fnExactMapOkSpec)

/-- ITS FALSE NEIGHBOUR: 'it returns false'. Refute it at one input. -/
def fnExactMapOkWrong : ChangeSpec := { name := "fnExactMapOk", fn := fun _ => fun
  | [d] => { results := [.lit (.bool false)], args := [d] }
  | _ => none }
def FnExactMapOkWrongFalsely : Prop := fnExactMapOkRow.holds Try.pinned (OpenSpec.ofChange fnExactMapOkWrong)

/-- 'laws.FnExactMapAt': WHATEVER THE INPUT: true; the input reads as it did. -/
def fnExactMapAtSpec : ChangeSpec := { name := "fnExactMapAt", fn := fun _ => fun
  | [d1, d2] => { results := [.lit (.bool true)], args := [d1, d2] }
  | _ => none }
def fnExactMapAtRow : OpenClaim := { program := "ytidpcjcnhklmpai", sum := "e62490a6ee848df3694fb2ad99ad8188e8d0c5d01f1501e98453029ca953945d", func := "loop.example/g00579/laws.FnExactMapAt", spec := "fnExactMapAt", unfollowed := true, recurses := true, plainKeys := false, apart := false }
def FnExactMapAtSaid : Prop := fnExactMapAtRow.holds Try.pinned (OpenSpec.ofChange fnExactMapAtSpec)

/-- ITS FALSE NEIGHBOUR: 'it returns false'. Refute it at one input. -/
def fnExactMapAtWrong : ChangeSpec := { name := "fnExactMapAt", fn := fun _ => fun
  | [d1, d2] => { results := [.lit (.bool false)], args := [d1, d2] }
  | _ => none }
def FnExactMapAtWrongFalsely : Prop := fnExactMapAtRow.holds Try.pinned (OpenSpec.ofChange fnExactMapAtWrong)

/-- 'laws.FnExactMapPut': WHATEVER THE INPUT: true; the input reads as it did. -/
def fnExactMapPutSpec : ChangeSpec := { name := "fnExactMapPut", fn := fun _ => fun
  | [d1, d2] => { results := [.lit (.bool true)], args := [d1, d2] }
  | _ => none }
def fnExactMapPutRow : OpenClaim := { program := "ytidpcjcnhklmpai", sum := "e62490a6ee848df3694fb2ad99ad8188e8d0c5d01f1501e98453029ca953945d", func := "loop.example/g00579/laws.FnExactMapPut", spec := "fnExactMapPut", unfollowed := true, recurses := true, plainKeys := false, apart := false }
def FnExactMapPutSaid : Prop := fnExactMapPutRow.holds Try.pinned (OpenSpec.ofChange fnExactMapPutSpec)

/-- ITS FALSE NEIGHBOUR: 'it returns false'. Refute it at one input. -/
def fnExactMapPutWrong : ChangeSpec := { name := "fnExactMapPut", fn := fun _ => fun
  | [d1, d2] => { results := [.lit (.bool false)], args := [d1, d2] }
  | _ => none }
def FnExactMapPutWrongFalsely : Prop := fnExactMapPutRow.holds Try.pinned (OpenSpec.ofChange fnExactMapPutWrong)

/-- 'laws.FnExactMapJoin': WHATEVER THE INPUT: true; the input reads as it did. -/
def fnExactMapJoinSpec : ChangeSpec := { name := "fnExactMapJoin", fn := fun _ => fun
  | [d1, d2] => { results := [.lit (.bool true)], args := [d1, d2] }
  | _ => none }
def fnExactMapJoinRow : OpenClaim := { program := "ytidpcjcnhklmpai", sum := "e62490a6ee848df3694fb2ad99ad8188e8d0c5d01f1501e98453029ca953945d", func := "loop.example/g00579/laws.FnExactMapJoin", spec := "fnExactMapJoin", unfollowed := true, recurses := true, plainKeys := false, apart := false }
def FnExactMapJoinSaid : Prop := fnExactMapJoinRow.holds Try.pinned (OpenSpec.ofChange fnExactMapJoinSpec)

/-- ITS FALSE NEIGHBOUR: 'it returns false'. Refute it at one input. -/
def fnExactMapJoinWrong : ChangeSpec := { name := "fnExactMapJoin", fn := fun _ => fun
  | [d1, d2] => { results := [.lit (.bool false)], args := [d1, d2] }
  | _ => none }
def FnExactMapJoinWrongFalsely : Prop := fnExactMapJoinRow.holds Try.pinned (OpenSpec.ofChange fnExactMapJoinWrong)

/-- 'laws.FnExactMapHas': WHATEVER THE INPUT: true; the input reads as it did. -/
def fnExactMapHasSpec : ChangeSpec := { name := "fnExactMapHas", fn := fun _ => fun
  | [d1, d2, d3] => { results := [.lit (.bool true)], args := [d1, d2, d3] }
  | _ => none }
def fnExactMapHasRow : OpenClaim := { program := "ytidpcjcnhklmpai", sum := "e62490a6ee848df3694fb2ad99ad8188e8d0c5d01f1501e98453029ca953945d", func := "loop.example/g00579/laws.FnExactMapHas", spec := "fnExactMapHas", unfollowed := true, recurses := true, plainKeys := false, apart := false }
def FnExactMapHasSaid : Prop := fnExactMapHasRow.holds Try.pinned (OpenSpec.ofChange fnExactMapHasSpec)

/-- ITS FALSE NEIGHBOUR: 'it returns false'. Refute it at one input. -/
def fnExactMapHasWrong : ChangeSpec := { name := "fnExactMapHas", fn := fun _ => fun
  | [d1, d2, d3] => { results := [.lit (.bool false)], args := [d1, d2, d3] }
  | _ => none }
def FnExactMapHasWrongFalsely : Prop := fnExactMapHasRow.holds Try.pinned (OpenSpec.ofChange fnExactMapHasWrong)

/-- 'laws.FnExactWithin': WHATEVER THE INPUT: true; the input reads as it did. -/
def fnExactWithinSpec : ChangeSpec := { name := "fnExactWithin", fn := fun _ => fun
  | [d1, d2] => { results := [.lit (.bool true)], args := [d1, d2] }
  | _ => none }
def fnExactWithinRow : OpenClaim := { program := "ytidpcjcnhklmpai", sum := "e62490a6ee848df3694fb2ad99ad8188e8d0c5d01f1501e98453029ca953945d", func := "loop.example/g00579/laws.FnExactWithin", spec := "fnExactWithin", unfollowed := true, recurses := true, plainKeys := false, apart := false }
def FnExactWithinSaid : Prop := fnExactWithinRow.holds Try.pinned (OpenSpec.ofChange fnExactWithinSpec)

/-- ITS FALSE NEIGHBOUR: 'it returns false'. Refute it at one input. -/
def fnExactWithinWrong : ChangeSpec := { name := "fnExactWithin", fn := fun _ => fun
  | [d1, d2] => { results := [.lit (.bool false)], args := [d1, d2] }
  | _ => none }
def FnExactWithinWrongFalsely : Prop := fnExactWithinRow.holds Try.pinned (OpenSpec.ofChange fnExactWithinWrong)

/- THE SECOND FORM. 'bulk': how many values and letters a reading holds, each counted each time it is reached (what is shared counts as often as it is met; a slice's spare places count too). A statement '..UptoSaid' is the law's where the arguments, and the package variables that the reading takes, are together of bulk at most 1048576: NARROWER than '..Said'. Prove '..Said' where nothing that the law and all that it calls make is longer than what came in: it says more and counts as full. Else prove '..UptoSaid'. A law counts once. -/
mutual
def uptoBulk {H : Type} : DataW H → Nat
  | .lit (.string bytes) => bytes.length + 1
  | .lit _ => 1
  | .nil => 1
  | .ptr d => uptoBulk d + 1
  | .slice elems spare => uptoBulkAll elems + uptoBulkAll spare + 1
  | .agg parts => uptoBulkAll parts + 1
  | .iface _ d => uptoBulk d + 1
  | .map entries => uptoBulkEntries entries + 1
  | .held _ => 1
def uptoBulkAll {H : Type} : List (DataW H) → Nat
  | [] => 0
  | d :: r => uptoBulk d + uptoBulkAll r
def uptoBulkEntries {H : Type} : List (Lit × DataW H) → Nat
  | [] => 0
  | x :: r => uptoBulkEntry x + uptoBulkEntries r
def uptoBulkEntry {H : Type} : Lit × DataW H → Nat
  | (.string bytes, d) => bytes.length + uptoBulk d + 1
  | (_, d) => uptoBulk d + 1
 end
def uptoSmall : (H : Type) → List (DataW H) → Bool := fun _ ds => decide (uptoBulkAll ds ≤ 1048576)
def OpenSpec.upto (s : _root_.Go.ChangeSpec) : _root_.Go.OpenSpec := { _root_.Go.OpenSpec.ofChange s with cond := some uptoSmall }

/-- 'laws.FnExactMapOk', WHERE WHAT IT READS IS OF BULK AT MOST 1048576: true; the input reads as it did. -/
def fnExactMapOkUptoRow : OpenClaim := { program := "ytidpcjcnhklmpai", sum := "e62490a6ee848df3694fb2ad99ad8188e8d0c5d01f1501e98453029ca953945d", func := "loop.example/g00579/laws.FnExactMapOk", spec := "fnExactMapOk", plainKeys := false, apart := false, narrowed := true }
def FnExactMapOkUptoSaid : Prop := fnExactMapOkUptoRow.holds Try.pinned (OpenSpec.upto fnExactMapOkSpec)

/-- 'laws.FnExactMapAt', WHERE WHAT IT READS IS OF BULK AT MOST 1048576: true; the input reads as it did. -/
def fnExactMapAtUptoRow : OpenClaim := { program := "ytidpcjcnhklmpai", sum := "e62490a6ee848df3694fb2ad99ad8188e8d0c5d01f1501e98453029ca953945d", func := "loop.example/g00579/laws.FnExactMapAt", spec := "fnExactMapAt", unfollowed := true, recurses := true, plainKeys := false, apart := false, narrowed := true }
def FnExactMapAtUptoSaid : Prop := fnExactMapAtUptoRow.holds Try.pinned (OpenSpec.upto fnExactMapAtSpec)

/-- 'laws.FnExactMapPut', WHERE WHAT IT READS IS OF BULK AT MOST 1048576: true; the input reads as it did. -/
def fnExactMapPutUptoRow : OpenClaim := { program := "ytidpcjcnhklmpai", sum := "e62490a6ee848df3694fb2ad99ad8188e8d0c5d01f1501e98453029ca953945d", func := "loop.example/g00579/laws.FnExactMapPut", spec := "fnExactMapPut", unfollowed := true, recurses := true, plainKeys := false, apart := false, narrowed := true }
def FnExactMapPutUptoSaid : Prop := fnExactMapPutUptoRow.holds Try.pinned (OpenSpec.upto fnExactMapPutSpec)

/-- 'laws.FnExactMapJoin', WHERE WHAT IT READS IS OF BULK AT MOST 1048576: true; the input reads as it did. -/
def fnExactMapJoinUptoRow : OpenClaim := { program := "ytidpcjcnhklmpai", sum := "e62490a6ee848df3694fb2ad99ad8188e8d0c5d01f1501e98453029ca953945d", func := "loop.example/g00579/laws.FnExactMapJoin", spec := "fnExactMapJoin", unfollowed := true, recurses := true, plainKeys := false, apart := false, narrowed := true }
def FnExactMapJoinUptoSaid : Prop := fnExactMapJoinUptoRow.holds Try.pinned (OpenSpec.upto fnExactMapJoinSpec)

/-- 'laws.FnExactMapHas', WHERE WHAT IT READS IS OF BULK AT MOST 1048576: true; the input reads as it did. -/
def fnExactMapHasUptoRow : OpenClaim := { program := "ytidpcjcnhklmpai", sum := "e62490a6ee848df3694fb2ad99ad8188e8d0c5d01f1501e98453029ca953945d", func := "loop.example/g00579/laws.FnExactMapHas", spec := "fnExactMapHas", unfollowed := true, recurses := true, plainKeys := false, apart := false, narrowed := true }
def FnExactMapHasUptoSaid : Prop := fnExactMapHasUptoRow.holds Try.pinned (OpenSpec.upto fnExactMapHasSpec)

/-- 'laws.FnExactWithin', WHERE WHAT IT READS IS OF BULK AT MOST 1048576: true; the input reads as it did. -/
def fnExactWithinUptoRow : OpenClaim := { program := "ytidpcjcnhklmpai", sum := "e62490a6ee848df3694fb2ad99ad8188e8d0c5d01f1501e98453029ca953945d", func := "loop.example/g00579/laws.FnExactWithin", spec := "fnExactWithin", unfollowed := true, recurses := true, plainKeys := false, apart := false, narrowed := true }
def FnExactWithinUptoSaid : Prop := fnExactWithinUptoRow.holds Try.pinned (OpenSpec.upto fnExactWithinSpec)

end Rows
end Go.Proofs.Ytidpcjcnhklmpai
