/-
  No cell of these rows narrows 'for every input' (looked for: loops, veiled, ifaces, maps, wideKeys, modest, calm, conditions, laid).
  DERIVED. THE GIVEN ROWS OF THIS SEAT. 4 by the template 'for every input the law returns true; each argument reads behind the call as it read before'; 0 by the template 'total and deterministic' (their statements: YtofejfmfbifphakTotals.lean).
  GIVEN WITH THE SEED: the statements are not yours to turn. If you find one false, say at which input.
  Laid BY PROGRAM, IN A SANDBOX (cutbox-rows.mjs): the forced cells as the released guide's own fill.sh prints them over the translation 3a9151a66482c33b… (all of the seat's roots in one cut). By AI agents, Wed Nov 11 2026. No macro, syntax, notation, axiom, sorry.
-/
import Derived.Test.YtofejfmfbifphakChecked
import GoSem.Claim
import GoSem.ClaimJoined
import GoSem.ClaimMapViews
import Derived.JoinedTies
import Derived.KernelRfl
namespace Go.Proofs.Ytofejfmfbifphak
/- THE CELL 'sum', in the pinned program and in every row, IS THE sha256 OF THE DUMP (.gsa) THAT YtofejfmfbifphakProg.lean LOADS. Nothing in Lean hashes anything: it is a label: what it is worth is what the hold of that sum in a sandbox is worth. -/
noncomputable def Try.pinned : Pinned := { name := "ytofejfmfbifphak", sum := "3a9151a66482c33b768c4b64a956768802b9a5507f4cfe501d54398399876982", checked := Try.checked }
namespace Rows
def none {H : Type} : Left H := { results := [], args := [] }

/-- 'laws.FnExactHeld': WHATEVER THE INPUT: true; the input reads as it did. -/
def fnExactHeldSpec : ChangeSpec := { name := "fnExactHeld", fn := fun _ => fun
  | [d1, d2] => { results := [.lit (.bool true)], args := [d1, d2] }
  | _ => none }
def fnExactHeldRow : OpenClaim := { program := "ytofejfmfbifphak", sum := "3a9151a66482c33b768c4b64a956768802b9a5507f4cfe501d54398399876982", func := "loop.example/g00579/laws.FnExactHeld", spec := "fnExactHeld", unfollowed := true, recurses := true, apart := false }
def FnExactHeldSaid : Prop := fnExactHeldRow.holds Try.pinned (OpenSpec.ofChange fnExactHeldSpec)

/-- ITS FALSE NEIGHBOUR: 'it returns false'. Refute it at one input. -/
def fnExactHeldWrong : ChangeSpec := { name := "fnExactHeld", fn := fun _ => fun
  | [d1, d2] => { results := [.lit (.bool false)], args := [d1, d2] }
  | _ => none }
def FnExactHeldWrongFalsely : Prop := fnExactHeldRow.holds Try.pinned (OpenSpec.ofChange fnExactHeldWrong)

/-- 'laws.FnExactHashOf': WHATEVER THE INPUT: true; the input reads as it did. -/
def fnExactHashOfSpec : ChangeSpec := { name := "fnExactHashOf", fn := fun _ => fun
  | [d] => { results := [.lit (.bool true)], args := [d] }
  | _ => none }
def fnExactHashOfRow : OpenClaim := { program := "ytofejfmfbifphak", sum := "3a9151a66482c33b768c4b64a956768802b9a5507f4cfe501d54398399876982", func := "loop.example/g00579/laws.FnExactHashOf", spec := "fnExactHashOf", apart := false }
def FnExactHashOfSaid : Prop := fnExactHashOfRow.holds Try.pinned (OpenSpec.ofChange fnExactHashOfSpec)

/-- ITS FALSE NEIGHBOUR: 'it returns false'. Refute it at one input. -/
def fnExactHashOfWrong : ChangeSpec := { name := "fnExactHashOf", fn := fun _ => fun
  | [d] => { results := [.lit (.bool false)], args := [d] }
  | _ => none }
def FnExactHashOfWrongFalsely : Prop := fnExactHashOfRow.holds Try.pinned (OpenSpec.ofChange fnExactHashOfWrong)

/-- 'laws.FnExactNodesOk': WHATEVER THE INPUT: true; the input reads as it did. -/
def fnExactNodesOkSpec : ChangeSpec := { name := "fnExactNodesOk", fn := fun _ => fun
  | [d] => { results := [.lit (.bool true)], args := [d] }
  | _ => none }
def fnExactNodesOkRow : OpenClaim := { program := "ytofejfmfbifphak", sum := "3a9151a66482c33b768c4b64a956768802b9a5507f4cfe501d54398399876982", func := "loop.example/g00579/laws.FnExactNodesOk", spec := "fnExactNodesOk", apart := false }
def FnExactNodesOkSaid : Prop := fnExactNodesOkRow.holds Try.pinned (OpenSpec.ofChange fnExactNodesOkSpec)

/-- ITS FALSE NEIGHBOUR: 'it returns false'. Refute it at one input. -/
def fnExactNodesOkWrong : ChangeSpec := { name := "fnExactNodesOk", fn := fun _ => fun
  | [d] => { results := [.lit (.bool false)], args := [d] }
  | _ => none }
def FnExactNodesOkWrongFalsely : Prop := fnExactNodesOkRow.holds Try.pinned (OpenSpec.ofChange fnExactNodesOkWrong)

/-- 'laws.FnExactPrefer': WHATEVER THE INPUT: true; the input reads as it did. -/
def fnExactPreferSpec : ChangeSpec := { name := "fnExactPrefer", fn := fun _ => fun
  | [d1, d2, d3] => { results := [.lit (.bool true)], args := [d1, d2, d3] }
  | _ => none }
def fnExactPreferRow : OpenClaim := { program := "ytofejfmfbifphak", sum := "3a9151a66482c33b768c4b64a956768802b9a5507f4cfe501d54398399876982", func := "loop.example/g00579/laws.FnExactPrefer", spec := "fnExactPrefer", unfollowed := true, recurses := true, apart := false }
def FnExactPreferSaid : Prop := fnExactPreferRow.holds Try.pinned (OpenSpec.ofChange fnExactPreferSpec)

/-- ITS FALSE NEIGHBOUR: 'it returns false'. Refute it at one input. -/
def fnExactPreferWrong : ChangeSpec := { name := "fnExactPrefer", fn := fun _ => fun
  | [d1, d2, d3] => { results := [.lit (.bool false)], args := [d1, d2, d3] }
  | _ => none }
def FnExactPreferWrongFalsely : Prop := fnExactPreferRow.holds Try.pinned (OpenSpec.ofChange fnExactPreferWrong)

/- THE SECOND FORM. 'bulk': how many values and letters a reading holds, each counted each time it is reached (what is shared counts as often as it is met; a slice's spare places count too). A statement '..UptoSaid' is the law's where the arguments, and the package variables that the reading takes, are together of bulk at most 1048576: NARROWER than '..Said'. Prove '..Said' where nothing that the law and all that it calls make is longer than what came in: it says more and counts as full. Else prove '..UptoSaid'. A law counts once. -/
mutual
def uptoBulk {H : Type} : DataW H → Nat
  | .lit (.string bytes) => bytes.length + 1
  | .lit _ => 1
  | .nil => 1
  | .ptr d => uptoBulk d + 1
  | .slice elems spare => uptoBulkAll elems + uptoBulkAll spare + 1
  | .agg parts => uptoBulkAll parts + 1
  | .iface _ d => uptoBulk d + 1
  | .map entries => uptoBulkEntries entries + 1
  | .held _ => 1
def uptoBulkAll {H : Type} : List (DataW H) → Nat
  | [] => 0
  | d :: r => uptoBulk d + uptoBulkAll r
def uptoBulkEntries {H : Type} : List (Lit × DataW H) → Nat
  | [] => 0
  | x :: r => uptoBulkEntry x + uptoBulkEntries r
def uptoBulkEntry {H : Type} : Lit × DataW H → Nat
  | (.string bytes, d) => bytes.length + uptoBulk d + 1
  | (_, d) => uptoBulk d + 1
 end
def uptoSmall : (H : Type) → List (DataW H) → Bool := fun _ ds => decide (uptoBulkAll ds ≤ 1048576)
def OpenSpec.upto (s : _root_.Go.ChangeSpec) : _root_.Go.OpenSpec := { _root_.Go.OpenSpec.ofChange s with cond := some uptoSmall }

/-- 'laws.FnExactHeld', WHERE WHAT IT READS IS OF BULK AT MOST 1048576: true; the input reads as it did. -/
def fnExactHeldUptoRow : OpenClaim := { program := "ytofejfmfbifphak", sum := "3a9151a66482c33b768c4b64a956768802b9a5507f4cfe501d54398399876982", func := "loop.example/g00579/laws.FnExactHeld", spec := "fnExactHeld", unfollowed := true, recurses := true, apart := false, narrowed := true }
def FnExactHeldUptoSaid : Prop := fnExactHeldUptoRow.holds Try.pinned (OpenSpec.upto fnExactHeldSpec)

/-- 'laws.FnExactHashOf', WHERE WHAT IT READS IS OF BULK AT MOST 1048576: true; the input reads as it did. -/
def fnExactHashOfUptoRow : OpenClaim := { program := "ytofejfmfbifphak", sum := "3a9151a66482c33b768c4b64a956768802b9a5507f4cfe501d54398399876982", func := "loop.example/g00579/laws.FnExactHashOf", spec := "fnExactHashOf", apart := false, narrowed := true }
def FnExactHashOfUptoSaid : Prop := fnExactHashOfUptoRow.holds Try.pinned (OpenSpec.upto fnExactHashOfSpec)

/-- 'laws.FnExactNodesOk', WHERE WHAT IT READS IS OF BULK AT MOST 1048576: true; the input reads as it did. -/
def fnExactNodesOkUptoRow : OpenClaim := { program := "ytofejfmfbifphak", sum := "3a9151a66482c33b768c4b64a956768802b9a5507f4cfe501d54398399876982", func := "loop.example/g00579/laws.FnExactNodesOk", spec := "fnExactNodesOk", apart := false, narrowed := true }
def FnExactNodesOkUptoSaid : Prop := fnExactNodesOkUptoRow.holds Try.pinned (OpenSpec.upto fnExactNodesOkSpec)

/-- 'laws.FnExactPrefer', WHERE WHAT IT READS IS OF BULK AT MOST 1048576: true; the input reads as it did. -/
def fnExactPreferUptoRow : OpenClaim := { program := "ytofejfmfbifphak", sum := "3a9151a66482c33b768c4b64a956768802b9a5507f4cfe501d54398399876982", func := "loop.example/g00579/laws.FnExactPrefer", spec := "fnExactPrefer", unfollowed := true, recurses := true, apart := false, narrowed := true }
def FnExactPreferUptoSaid : Prop := fnExactPreferUptoRow.holds Try.pinned (OpenSpec.upto fnExactPreferSpec)

end Rows
end Go.Proofs.Ytofejfmfbifphak
