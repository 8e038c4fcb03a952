/-
  No cell of these rows narrows 'for every input' (looked for: loops, veiled, ifaces, maps, wideKeys, modest, calm, conditions, laid).
  DERIVED. THE GIVEN ROWS OF THIS SEAT. 6 by the template 'for every input the law returns true; each argument reads behind the call as it read before'; 0 by the template 'total and deterministic' (their statements: YtolmlcbgdihcbaaTotals.lean).
  GIVEN WITH THE SEED: the statements are not yours to turn. If you find one false, say at which input.
  Laid BY PROGRAM, IN A SANDBOX (cutbox-rows.mjs): the forced cells as the released guide's own fill.sh prints them over the translation 4c5bf283d338c23a… (all of the seat's roots in one cut). By AI agents, Wed Nov 11 2026. No macro, syntax, notation, axiom, sorry.
-/
import Derived.Test.YtolmlcbgdihcbaaChecked
import GoSem.Claim
import GoSem.ClaimJoined
import GoSem.ClaimMapViews
import Derived.JoinedTies
import Derived.KernelRfl
namespace Go.Proofs.Ytolmlcbgdihcbaa
/- THE CELL 'sum', in the pinned program and in every row, IS THE sha256 OF THE DUMP (.gsa) THAT YtolmlcbgdihcbaaProg.lean LOADS. Nothing in Lean hashes anything: it is a label: what it is worth is what the hold of that sum in a sandbox is worth. -/
noncomputable def Try.pinned : Pinned := { name := "ytolmlcbgdihcbaa", sum := "4c5bf283d338c23a119a7e79573740f089012910456bf29370dfc9d77b91209e", checked := Try.checked }
namespace Rows
def none {H : Type} : Left H := { results := [], args := [] }

/-- 'laws.FnExactVecOk': WHATEVER THE INPUT: true; the input reads as it did. -/
def fnExactVecOkSpec : ChangeSpec := { name := "fnExactVecOk", fn := fun _ => fun
  | [d] => { results := [.lit (.bool true)], args := [d] }
  | _ => none }
def fnExactVecOkRow : OpenClaim := { program := "ytolmlcbgdihcbaa", sum := "4c5bf283d338c23a119a7e79573740f089012910456bf29370dfc9d77b91209e", func := "loop.example/g00579/laws.FnExactVecOk", spec := "fnExactVecOk", plainKeys := false, apart := false }
def FnExactVecOkSaid : Prop := fnExactVecOkRow.holds Try.pinned (OpenSpec.ofChange fnExactVecOkSpec)

/-- ITS FALSE NEIGHBOUR: 'it returns false'. Refute it at one input. -/
def fnExactVecOkWrong : ChangeSpec := { name := "fnExactVecOk", fn := fun _ => fun
  | [d] => { results := [.lit (.bool false)], args := [d] }
  | _ => none }
def FnExactVecOkWrongFalsely : Prop := fnExactVecOkRow.holds Try.pinned (OpenSpec.ofChange fnExactVecOkWrong)

/-- 'laws.FnExactVecJoin': WHATEVER THE INPUT: true; the input reads as it did. -/
def fnExactVecJoinSpec : ChangeSpec := { name := "fnExactVecJoin", fn := fun _ => fun
  | [d1, d2] => { results := [.lit (.bool true)], args := [d1, d2] }
  | _ => none }
def fnExactVecJoinRow : OpenClaim := { program := "ytolmlcbgdihcbaa", sum := "4c5bf283d338c23a119a7e79573740f089012910456bf29370dfc9d77b91209e", func := "loop.example/g00579/laws.FnExactVecJoin", spec := "fnExactVecJoin", plainKeys := false, apart := false }
def FnExactVecJoinSaid : Prop := fnExactVecJoinRow.holds Try.pinned (OpenSpec.ofChange fnExactVecJoinSpec)

/-- ITS FALSE NEIGHBOUR: 'it returns false'. Refute it at one input. -/
def fnExactVecJoinWrong : ChangeSpec := { name := "fnExactVecJoin", fn := fun _ => fun
  | [d1, d2] => { results := [.lit (.bool false)], args := [d1, d2] }
  | _ => none }
def FnExactVecJoinWrongFalsely : Prop := fnExactVecJoinRow.holds Try.pinned (OpenSpec.ofChange fnExactVecJoinWrong)

/-- 'laws.FnExactVecCmp': WHATEVER THE INPUT: true; the input reads as it did. -/
def fnExactVecCmpSpec : ChangeSpec := { name := "fnExactVecCmp", fn := fun _ => fun
  | [d1, d2] => { results := [.lit (.bool true)], args := [d1, d2] }
  | _ => none }
def fnExactVecCmpRow : OpenClaim := { program := "ytolmlcbgdihcbaa", sum := "4c5bf283d338c23a119a7e79573740f089012910456bf29370dfc9d77b91209e", func := "loop.example/g00579/laws.FnExactVecCmp", spec := "fnExactVecCmp", plainKeys := false, apart := false }
def FnExactVecCmpSaid : Prop := fnExactVecCmpRow.holds Try.pinned (OpenSpec.ofChange fnExactVecCmpSpec)

/-- ITS FALSE NEIGHBOUR: 'it returns false'. Refute it at one input. -/
def fnExactVecCmpWrong : ChangeSpec := { name := "fnExactVecCmp", fn := fun _ => fun
  | [d1, d2] => { results := [.lit (.bool false)], args := [d1, d2] }
  | _ => none }
def FnExactVecCmpWrongFalsely : Prop := fnExactVecCmpRow.holds Try.pinned (OpenSpec.ofChange fnExactVecCmpWrong)

/-- 'laws.FnExactVecTick': WHATEVER THE INPUT: true; the input reads as it did. -/
def fnExactVecTickSpec : ChangeSpec := { name := "fnExactVecTick", fn := fun _ => fun
  | [d1, d2] => { results := [.lit (.bool true)], args := [d1, d2] }
  | _ => none }
def fnExactVecTickRow : OpenClaim := { program := "ytolmlcbgdihcbaa", sum := "4c5bf283d338c23a119a7e79573740f089012910456bf29370dfc9d77b91209e", func := "loop.example/g00579/laws.FnExactVecTick", spec := "fnExactVecTick", plainKeys := false, apart := false }
def FnExactVecTickSaid : Prop := fnExactVecTickRow.holds Try.pinned (OpenSpec.ofChange fnExactVecTickSpec)

/-- ITS FALSE NEIGHBOUR: 'it returns false'. Refute it at one input. -/
def fnExactVecTickWrong : ChangeSpec := { name := "fnExactVecTick", fn := fun _ => fun
  | [d1, d2] => { results := [.lit (.bool false)], args := [d1, d2] }
  | _ => none }
def FnExactVecTickWrongFalsely : Prop := fnExactVecTickRow.holds Try.pinned (OpenSpec.ofChange fnExactVecTickWrong)

/-- 'laws.FnExactMayCome': WHATEVER THE INPUT: true; the input reads as it did. -/
def fnExactMayComeSpec : ChangeSpec := { name := "fnExactMayCome", fn := fun _ => fun
  | [d1, d2] => { results := [.lit (.bool true)], args := [d1, d2] }
  | _ => none }
def fnExactMayComeRow : OpenClaim := { program := "ytolmlcbgdihcbaa", sum := "4c5bf283d338c23a119a7e79573740f089012910456bf29370dfc9d77b91209e", func := "loop.example/g00579/laws.FnExactMayCome", spec := "fnExactMayCome", plainKeys := false, apart := false }
def FnExactMayComeSaid : Prop := fnExactMayComeRow.holds Try.pinned (OpenSpec.ofChange fnExactMayComeSpec)

/-- ITS FALSE NEIGHBOUR: 'it returns false'. Refute it at one input. -/
def fnExactMayComeWrong : ChangeSpec := { name := "fnExactMayCome", fn := fun _ => fun
  | [d1, d2] => { results := [.lit (.bool false)], args := [d1, d2] }
  | _ => none }
def FnExactMayComeWrongFalsely : Prop := fnExactMayComeRow.holds Try.pinned (OpenSpec.ofChange fnExactMayComeWrong)

/-- 'laws.FnExactInOrder': WHATEVER THE INPUT: true; the input reads as it did. -/
def fnExactInOrderSpec : ChangeSpec := { name := "fnExactInOrder", fn := fun _ => fun
  | [d] => { results := [.lit (.bool true)], args := [d] }
  | _ => none }
def fnExactInOrderRow : OpenClaim := { program := "ytolmlcbgdihcbaa", sum := "4c5bf283d338c23a119a7e79573740f089012910456bf29370dfc9d77b91209e", func := "loop.example/g00579/laws.FnExactInOrder", spec := "fnExactInOrder", plainKeys := false, apart := false }
def FnExactInOrderSaid : Prop := fnExactInOrderRow.holds Try.pinned (OpenSpec.ofChange fnExactInOrderSpec)

/-- ITS FALSE NEIGHBOUR: 'it returns false'. Refute it at one input. -/
def fnExactInOrderWrong : ChangeSpec := { name := "fnExactInOrder", fn := fun _ => fun
  | [d] => { results := [.lit (.bool false)], args := [d] }
  | _ => none }
def FnExactInOrderWrongFalsely : Prop := fnExactInOrderRow.holds Try.pinned (OpenSpec.ofChange fnExactInOrderWrong)

/- THE SECOND FORM. 'bulk': how many values and letters a reading holds, each counted each time it is reached (what is shared counts as often as it is met; a slice's spare places count too). A statement '..UptoSaid' is the law's where the arguments, and the package variables that the reading takes, are together of bulk at most 1048576: NARROWER than '..Said'. Prove '..Said' where nothing that the law and all that it calls make is longer than what came in: it says more and counts as full. Else prove '..UptoSaid'. A law counts once. -/
mutual
def uptoBulk {H : Type} : DataW H → Nat
  | .lit (.string bytes) => bytes.length + 1
  | .lit _ => 1
  | .nil => 1
  | .ptr d => uptoBulk d + 1
  | .slice elems spare => uptoBulkAll elems + uptoBulkAll spare + 1
  | .agg parts => uptoBulkAll parts + 1
  | .iface _ d => uptoBulk d + 1
  | .map entries => uptoBulkEntries entries + 1
  | .held _ => 1
def uptoBulkAll {H : Type} : List (DataW H) → Nat
  | [] => 0
  | d :: r => uptoBulk d + uptoBulkAll r
def uptoBulkEntries {H : Type} : List (Lit × DataW H) → Nat
  | [] => 0
  | x :: r => uptoBulkEntry x + uptoBulkEntries r
def uptoBulkEntry {H : Type} : Lit × DataW H → Nat
  | (.string bytes, d) => bytes.length + uptoBulk d + 1
  | (_, d) => uptoBulk d + 1
 end
def uptoSmall : (H : Type) → List (DataW H) → Bool := fun _ ds => decide (uptoBulkAll ds ≤ 1048576)
def OpenSpec.upto (s : _root_.Go.ChangeSpec) : _root_.Go.OpenSpec := { _root_.Go.OpenSpec.ofChange s with cond := some uptoSmall }

/-- 'laws.FnExactVecOk', WHERE WHAT IT READS IS OF BULK AT MOST 1048576: true; the input reads as it did. -/
def fnExactVecOkUptoRow : OpenClaim := { program := "ytolmlcbgdihcbaa", sum := "4c5bf283d338c23a119a7e79573740f089012910456bf29370dfc9d77b91209e", func := "loop.example/g00579/laws.FnExactVecOk", spec := "fnExactVecOk", plainKeys := false, apart := false, narrowed := true }
def FnExactVecOkUptoSaid : Prop := fnExactVecOkUptoRow.holds Try.pinned (OpenSpec.upto fnExactVecOkSpec)

/-- 'laws.FnExactVecJoin', WHERE WHAT IT READS IS OF BULK AT MOST 1048576: true; the input reads as it did. -/
def fnExactVecJoinUptoRow : OpenClaim := { program := "ytolmlcbgdihcbaa", sum := "4c5bf283d338c23a119a7e79573740f089012910456bf29370dfc9d77b91209e", func := "loop.example/g00579/laws.FnExactVecJoin", spec := "fnExactVecJoin", plainKeys := false, apart := false, narrowed := true }
def FnExactVecJoinUptoSaid : Prop := fnExactVecJoinUptoRow.holds Try.pinned (OpenSpec.upto fnExactVecJoinSpec)

/-- 'laws.FnExactVecCmp', WHERE WHAT IT READS IS OF BULK AT MOST 1048576: true; the input reads as it did. -/
def fnExactVecCmpUptoRow : OpenClaim := { program := "ytolmlcbgdihcbaa", sum := "4c5bf283d338c23a119a7e79573740f089012910456bf29370dfc9d77b91209e", func := "loop.example/g00579/laws.FnExactVecCmp", spec := "fnExactVecCmp", plainKeys := false, apart := false, narrowed := true }
def FnExactVecCmpUptoSaid : Prop := fnExactVecCmpUptoRow.holds Try.pinned (OpenSpec.upto fnExactVecCmpSpec)

/-- 'laws.FnExactVecTick', WHERE WHAT IT READS IS OF BULK AT MOST 1048576: true; the input reads as it did. -/
def fnExactVecTickUptoRow : OpenClaim := { program := "ytolmlcbgdihcbaa", sum := "4c5bf283d338c23a119a7e79573740f089012910456bf29370dfc9d77b91209e", func := "loop.example/g00579/laws.FnExactVecTick", spec := "fnExactVecTick", plainKeys := false, apart := false, narrowed := true }
def FnExactVecTickUptoSaid : Prop := fnExactVecTickUptoRow.holds Try.pinned (OpenSpec.upto fnExactVecTickSpec)

/-- 'laws.FnExactMayCome', WHERE WHAT IT READS IS OF BULK AT MOST 1048576: true; the input reads as it did. -/
def fnExactMayComeUptoRow : OpenClaim := { program := "ytolmlcbgdihcbaa", sum := "4c5bf283d338c23a119a7e79573740f089012910456bf29370dfc9d77b91209e", func := "loop.example/g00579/laws.FnExactMayCome", spec := "fnExactMayCome", plainKeys := false, apart := false, narrowed := true }
def FnExactMayComeUptoSaid : Prop := fnExactMayComeUptoRow.holds Try.pinned (OpenSpec.upto fnExactMayComeSpec)

/-- 'laws.FnExactInOrder', WHERE WHAT IT READS IS OF BULK AT MOST 1048576: true; the input reads as it did. -/
def fnExactInOrderUptoRow : OpenClaim := { program := "ytolmlcbgdihcbaa", sum := "4c5bf283d338c23a119a7e79573740f089012910456bf29370dfc9d77b91209e", func := "loop.example/g00579/laws.FnExactInOrder", spec := "fnExactInOrder", plainKeys := false, apart := false, narrowed := true }
def FnExactInOrderUptoSaid : Prop := fnExactInOrderUptoRow.holds Try.pinned (OpenSpec.upto fnExactInOrderSpec)

end Rows
end Go.Proofs.Ytolmlcbgdihcbaa
