/-
  No cell of these rows narrows 'for every input' (looked for: loops, veiled, ifaces, maps, wideKeys, modest, calm, conditions, laid).
  DERIVED. THE GIVEN ROWS OF THIS SEAT. 5 by the template 'for every input the law returns true; each argument reads behind the call as it read before'; 0 by the template 'total and deterministic' (their statements: YthlkdlknkbigkaaTotals.lean).
  GIVEN WITH THE SEED: the statements are not yours to turn. If you find one false, say at which input.
  Laid BY PROGRAM, IN A SANDBOX (cutbox-rows.mjs): the forced cells as the released guide's own fill.sh prints them over the translation 17bc254dfa3b5012… (all of the seat's roots in one cut). By AI agents, Wed Nov 11 2026. No macro, syntax, notation, axiom, sorry.
-/
import Derived.Test.YthlkdlknkbigkaaChecked
import GoSem.Claim
import GoSem.ClaimJoined
import GoSem.ClaimMapViews
import Derived.JoinedTies
import Derived.KernelRfl
namespace Go.Proofs.Ythlkdlknkbigkaa
/- THE CELL 'sum', in the pinned program and in every row, IS THE sha256 OF THE DUMP (.gsa) THAT YthlkdlknkbigkaaProg.lean LOADS. Nothing in Lean hashes anything: it is a label: what it is worth is what the hold of that sum in a sandbox is worth. -/
noncomputable def Try.pinned : Pinned := { name := "ythlkdlknkbigkaa", sum := "17bc254dfa3b501293370ca1038469a899b34ea4dba8ad4ef179d52c9b88309e", checked := Try.checked }
namespace Rows
def none {H : Type} : Left H := { results := [], args := [] }

/-- 'laws.FnExactCounterOk': WHATEVER THE INPUT: true; the input reads as it did. -/
def fnExactCounterOkSpec : ChangeSpec := { name := "fnExactCounterOk", fn := fun _ => fun
  | [d] => { results := [.lit (.bool true)], args := [d] }
  | _ => none }
def fnExactCounterOkRow : OpenClaim := { program := "ythlkdlknkbigkaa", sum := "17bc254dfa3b501293370ca1038469a899b34ea4dba8ad4ef179d52c9b88309e", func := "loop.example/g00579/laws.FnExactCounterOk", spec := "fnExactCounterOk", apart := false }
def FnExactCounterOkSaid : Prop := fnExactCounterOkRow.holds Try.pinned (OpenSpec.ofChange fnExactCounterOkSpec)

/-- ITS FALSE NEIGHBOUR: 'it returns false'. Refute it at one input. -/
def fnExactCounterOkWrong : ChangeSpec := { name := "fnExactCounterOk", fn := fun _ => fun
  | [d] => { results := [.lit (.bool false)], args := [d] }
  | _ => none }
def FnExactCounterOkWrongFalsely : Prop := fnExactCounterOkRow.holds Try.pinned (OpenSpec.ofChange fnExactCounterOkWrong)

/-- 'laws.FnExactCounterAdd': WHATEVER THE INPUT: true; the input reads as it did. -/
def fnExactCounterAddSpec : ChangeSpec := { name := "fnExactCounterAdd", fn := fun _ => fun
  | [d1, d2, d3] => { results := [.lit (.bool true)], args := [d1, d2, d3] }
  | _ => none }
def fnExactCounterAddRow : OpenClaim := { program := "ythlkdlknkbigkaa", sum := "17bc254dfa3b501293370ca1038469a899b34ea4dba8ad4ef179d52c9b88309e", func := "loop.example/g00579/laws.FnExactCounterAdd", spec := "fnExactCounterAdd", apart := false }
def FnExactCounterAddSaid : Prop := fnExactCounterAddRow.holds Try.pinned (OpenSpec.ofChange fnExactCounterAddSpec)

/-- ITS FALSE NEIGHBOUR: 'it returns false'. Refute it at one input. -/
def fnExactCounterAddWrong : ChangeSpec := { name := "fnExactCounterAdd", fn := fun _ => fun
  | [d1, d2, d3] => { results := [.lit (.bool false)], args := [d1, d2, d3] }
  | _ => none }
def FnExactCounterAddWrongFalsely : Prop := fnExactCounterAddRow.holds Try.pinned (OpenSpec.ofChange fnExactCounterAddWrong)

/-- 'laws.FnExactCounterJoin': WHATEVER THE INPUT: true; the input reads as it did. -/
def fnExactCounterJoinSpec : ChangeSpec := { name := "fnExactCounterJoin", fn := fun _ => fun
  | [d1, d2] => { results := [.lit (.bool true)], args := [d1, d2] }
  | _ => none }
def fnExactCounterJoinRow : OpenClaim := { program := "ythlkdlknkbigkaa", sum := "17bc254dfa3b501293370ca1038469a899b34ea4dba8ad4ef179d52c9b88309e", func := "loop.example/g00579/laws.FnExactCounterJoin", spec := "fnExactCounterJoin", apart := false }
def FnExactCounterJoinSaid : Prop := fnExactCounterJoinRow.holds Try.pinned (OpenSpec.ofChange fnExactCounterJoinSpec)

/-- ITS FALSE NEIGHBOUR: 'it returns false'. Refute it at one input. -/
def fnExactCounterJoinWrong : ChangeSpec := { name := "fnExactCounterJoin", fn := fun _ => fun
  | [d1, d2] => { results := [.lit (.bool false)], args := [d1, d2] }
  | _ => none }
def FnExactCounterJoinWrongFalsely : Prop := fnExactCounterJoinRow.holds Try.pinned (OpenSpec.ofChange fnExactCounterJoinWrong)

/-- 'laws.FnExactCounterValue': WHATEVER THE INPUT: true; the input reads as it did. -/
def fnExactCounterValueSpec : ChangeSpec := { name := "fnExactCounterValue", fn := fun _ => fun
  | [d] => { results := [.lit (.bool true)], args := [d] }
  | _ => none }
def fnExactCounterValueRow : OpenClaim := { program := "ythlkdlknkbigkaa", sum := "17bc254dfa3b501293370ca1038469a899b34ea4dba8ad4ef179d52c9b88309e", func := "loop.example/g00579/laws.FnExactCounterValue", spec := "fnExactCounterValue", apart := false }
def FnExactCounterValueSaid : Prop := fnExactCounterValueRow.holds Try.pinned (OpenSpec.ofChange fnExactCounterValueSpec)

/-- ITS FALSE NEIGHBOUR: 'it returns false'. Refute it at one input. -/
def fnExactCounterValueWrong : ChangeSpec := { name := "fnExactCounterValue", fn := fun _ => fun
  | [d] => { results := [.lit (.bool false)], args := [d] }
  | _ => none }
def FnExactCounterValueWrongFalsely : Prop := fnExactCounterValueRow.holds Try.pinned (OpenSpec.ofChange fnExactCounterValueWrong)

/-- 'laws.FnExactCounterLeq': WHATEVER THE INPUT: true; the input reads as it did. -/
def fnExactCounterLeqSpec : ChangeSpec := { name := "fnExactCounterLeq", fn := fun _ => fun
  | [d1, d2] => { results := [.lit (.bool true)], args := [d1, d2] }
  | _ => none }
def fnExactCounterLeqRow : OpenClaim := { program := "ythlkdlknkbigkaa", sum := "17bc254dfa3b501293370ca1038469a899b34ea4dba8ad4ef179d52c9b88309e", func := "loop.example/g00579/laws.FnExactCounterLeq", spec := "fnExactCounterLeq", apart := false }
def FnExactCounterLeqSaid : Prop := fnExactCounterLeqRow.holds Try.pinned (OpenSpec.ofChange fnExactCounterLeqSpec)

/-- ITS FALSE NEIGHBOUR: 'it returns false'. Refute it at one input. -/
def fnExactCounterLeqWrong : ChangeSpec := { name := "fnExactCounterLeq", fn := fun _ => fun
  | [d1, d2] => { results := [.lit (.bool false)], args := [d1, d2] }
  | _ => none }
def FnExactCounterLeqWrongFalsely : Prop := fnExactCounterLeqRow.holds Try.pinned (OpenSpec.ofChange fnExactCounterLeqWrong)

/- THE SECOND FORM. 'bulk': how many values and letters a reading holds, each counted each time it is reached (what is shared counts as often as it is met; a slice's spare places count too). A statement '..UptoSaid' is the law's where the arguments, and the package variables that the reading takes, are together of bulk at most 1048576: NARROWER than '..Said'. Prove '..Said' where nothing that the law and all that it calls make is longer than what came in: it says more and counts as full. Else prove '..UptoSaid'. A law counts once. -/
mutual
def uptoBulk {H : Type} : DataW H → Nat
  | .lit (.string bytes) => bytes.length + 1
  | .lit _ => 1
  | .nil => 1
  | .ptr d => uptoBulk d + 1
  | .slice elems spare => uptoBulkAll elems + uptoBulkAll spare + 1
  | .agg parts => uptoBulkAll parts + 1
  | .iface _ d => uptoBulk d + 1
  | .map entries => uptoBulkEntries entries + 1
  | .held _ => 1
def uptoBulkAll {H : Type} : List (DataW H) → Nat
  | [] => 0
  | d :: r => uptoBulk d + uptoBulkAll r
def uptoBulkEntries {H : Type} : List (Lit × DataW H) → Nat
  | [] => 0
  | x :: r => uptoBulkEntry x + uptoBulkEntries r
def uptoBulkEntry {H : Type} : Lit × DataW H → Nat
  | (.string bytes, d) => bytes.length + uptoBulk d + 1
  | (_, d) => uptoBulk d + 1
 end
def uptoSmall : (H : Type) → List (DataW H) → Bool := fun _ ds => decide (uptoBulkAll ds ≤ 1048576)
def OpenSpec.upto (s : _root_.Go.ChangeSpec) : _root_.Go.OpenSpec := { _root_.Go.OpenSpec.ofChange s with cond := some uptoSmall }

/-- 'laws.FnExactCounterOk', WHERE WHAT IT READS IS OF BULK AT MOST 1048576: true; the input reads as it did. -/
def fnExactCounterOkUptoRow : OpenClaim := { program := "ythlkdlknkbigkaa", sum := "17bc254dfa3b501293370ca1038469a899b34ea4dba8ad4ef179d52c9b88309e", func := "loop.example/g00579/laws.FnExactCounterOk", spec := "fnExactCounterOk", apart := false, narrowed := true }
def FnExactCounterOkUptoSaid : Prop := fnExactCounterOkUptoRow.holds Try.pinned (OpenSpec.upto fnExactCounterOkSpec)

/-- 'laws.FnExactCounterAdd', WHERE WHAT IT READS IS OF BULK AT MOST 1048576: true; the input reads as it did. -/
def fnExactCounterAddUptoRow : OpenClaim := { program := "ythlkdlknkbigkaa", sum := "17bc254dfa3b501293370ca1038469a899b34ea4dba8ad4ef179d52c9b88309e", func := "loop.example/g00579/laws.FnExactCounterAdd", spec := "fnExactCounterAdd", apart := false, narrowed := true }
def FnExactCounterAddUptoSaid : Prop := fnExactCounterAddUptoRow.holds Try.pinned (OpenSpec.upto fnExactCounterAddSpec)

/-- 'laws.FnExactCounterJoin', WHERE WHAT IT READS IS OF BULK AT MOST 1048576: true; the input reads as it did. -/
def fnExactCounterJoinUptoRow : OpenClaim := { program := "ythlkdlknkbigkaa", sum := "17bc254dfa3b501293370ca1038469a899b34ea4dba8ad4ef179d52c9b88309e", func := "loop.example/g00579/laws.FnExactCounterJoin", spec := "fnExactCounterJoin", apart := false, narrowed := true }
def FnExactCounterJoinUptoSaid : Prop := fnExactCounterJoinUptoRow.holds Try.pinned (OpenSpec.upto fnExactCounterJoinSpec)

/-- 'laws.FnExactCounterValue', WHERE WHAT IT READS IS OF BULK AT MOST 1048576: true; the input reads as it did. -/
def fnExactCounterValueUptoRow : OpenClaim := { program := "ythlkdlknkbigkaa", sum := "17bc254dfa3b501293370ca1038469a899b34ea4dba8ad4ef179d52c9b88309e", func := "loop.example/g00579/laws.FnExactCounterValue", spec := "fnExactCounterValue", apart := false, narrowed := true }
def FnExactCounterValueUptoSaid : Prop := fnExactCounterValueUptoRow.holds Try.pinned (OpenSpec.upto fnExactCounterValueSpec)

/-- 'laws.FnExactCounterLeq', WHERE WHAT IT READS IS OF BULK AT MOST 1048576: true; the input reads as it did. -/
def fnExactCounterLeqUptoRow : OpenClaim := { program := "ythlkdlknkbigkaa", sum := "17bc254dfa3b501293370ca1038469a899b34ea4dba8ad4ef179d52c9b88309e", func := "loop.example/g00579/laws.FnExactCounterLeq", spec := "fnExactCounterLeq", apart := false, narrowed := true }
def FnExactCounterLeqUptoSaid : Prop := fnExactCounterLeqUptoRow.holds Try.pinned (OpenSpec.upto fnExactCounterLeqSpec)

end Rows
end Go.Proofs.Ythlkdlknkbigkaa
