/-
  No cell of these rows narrows 'for every input' (looked for: loops, veiled, ifaces, maps, wideKeys, modest, calm, conditions, laid).
  DERIVED. THE GIVEN ROWS OF THIS SEAT. 6 by the template 'for every input the law returns true; each argument reads behind the call as it read before'; 0 by the template 'total and deterministic' (their statements: YtkcbknjmpfgimaaTotals.lean).
  GIVEN WITH THE SEED: the statements are not yours to turn. If you find one false, say at which input.
  Laid BY PROGRAM, IN A SANDBOX (cutbox-rows.mjs): the forced cells as the released guide's own fill.sh prints them over the translation 4953692dee62d761… (all of the seat's roots in one cut). By AI agents, Wed Nov 11 2026. No macro, syntax, notation, axiom, sorry.
-/
import Derived.Test.YtkcbknjmpfgimaaChecked
import GoSem.Claim
import GoSem.ClaimJoined
import GoSem.ClaimMapViews
import Derived.JoinedTies
import Derived.KernelRfl
namespace Go.Proofs.Ytkcbknjmpfgimaa
/- THE CELL 'sum', in the pinned program and in every row, IS THE sha256 OF THE DUMP (.gsa) THAT YtkcbknjmpfgimaaProg.lean LOADS. Nothing in Lean hashes anything: it is a label: what it is worth is what the hold of that sum in a sandbox is worth. -/
noncomputable def Try.pinned : Pinned := { name := "ytkcbknjmpfgimaa", sum := "4953692dee62d761d6510d605b85fe6242b308db961ccfc481bc7432d8e698e3", checked := Try.checked }
namespace Rows
def none {H : Type} : Left H := { results := [], args := [] }

/-- 'laws.FnExactSetOk': WHATEVER THE INPUT: true; the input reads as it did. -/
def fnExactSetOkSpec : ChangeSpec := { name := "fnExactSetOk", fn := fun _ => fun
  | [d] => { results := [.lit (.bool true)], args := [d] }
  | _ => none }
def fnExactSetOkRow : OpenClaim := { program := "ytkcbknjmpfgimaa", sum := "4953692dee62d761d6510d605b85fe6242b308db961ccfc481bc7432d8e698e3", func := "loop.example/g00579/laws.FnExactSetOk", spec := "fnExactSetOk", plainKeys := false, apart := false }
def FnExactSetOkSaid : Prop := fnExactSetOkRow.holds Try.pinned (OpenSpec.ofChange fnExactSetOkSpec)

/-- ITS FALSE NEIGHBOUR: 'it returns false'. Refute it at one input. -/
def fnExactSetOkWrong : ChangeSpec := { name := "fnExactSetOk", fn := fun _ => fun
  | [d] => { results := [.lit (.bool false)], args := [d] }
  | _ => none }
def FnExactSetOkWrongFalsely : Prop := fnExactSetOkRow.holds Try.pinned (OpenSpec.ofChange fnExactSetOkWrong)

/-- 'laws.FnExactSetHas': WHATEVER THE INPUT: true; the input reads as it did. -/
def fnExactSetHasSpec : ChangeSpec := { name := "fnExactSetHas", fn := fun _ => fun
  | [d1, d2] => { results := [.lit (.bool true)], args := [d1, d2] }
  | _ => none }
def fnExactSetHasRow : OpenClaim := { program := "ytkcbknjmpfgimaa", sum := "4953692dee62d761d6510d605b85fe6242b308db961ccfc481bc7432d8e698e3", func := "loop.example/g00579/laws.FnExactSetHas", spec := "fnExactSetHas", inPlace := ["maps.clone"], plainKeys := false, apart := false }
def FnExactSetHasSaid : Prop := fnExactSetHasRow.holds Try.pinned (OpenSpec.ofChange fnExactSetHasSpec)

/-- ITS FALSE NEIGHBOUR: 'it returns false'. Refute it at one input. -/
def fnExactSetHasWrong : ChangeSpec := { name := "fnExactSetHas", fn := fun _ => fun
  | [d1, d2] => { results := [.lit (.bool false)], args := [d1, d2] }
  | _ => none }
def FnExactSetHasWrongFalsely : Prop := fnExactSetHasRow.holds Try.pinned (OpenSpec.ofChange fnExactSetHasWrong)

/-- 'laws.FnExactSetElems': WHATEVER THE INPUT: true; the input reads as it did. -/
def fnExactSetElemsSpec : ChangeSpec := { name := "fnExactSetElems", fn := fun _ => fun
  | [d] => { results := [.lit (.bool true)], args := [d] }
  | _ => none }
def fnExactSetElemsRow : OpenClaim := { program := "ytkcbknjmpfgimaa", sum := "4953692dee62d761d6510d605b85fe6242b308db961ccfc481bc7432d8e698e3", func := "loop.example/g00579/laws.FnExactSetElems", spec := "fnExactSetElems", inPlace := ["maps.clone"], unfollowed := true, recurses := true, plainKeys := false, apart := false }
def FnExactSetElemsSaid : Prop := fnExactSetElemsRow.holds Try.pinned (OpenSpec.ofChange fnExactSetElemsSpec)

/-- ITS FALSE NEIGHBOUR: 'it returns false'. Refute it at one input. -/
def fnExactSetElemsWrong : ChangeSpec := { name := "fnExactSetElems", fn := fun _ => fun
  | [d] => { results := [.lit (.bool false)], args := [d] }
  | _ => none }
def FnExactSetElemsWrongFalsely : Prop := fnExactSetElemsRow.holds Try.pinned (OpenSpec.ofChange fnExactSetElemsWrong)

/-- 'laws.FnExactSetAdd': WHATEVER THE INPUT: true; the input reads as it did. -/
def fnExactSetAddSpec : ChangeSpec := { name := "fnExactSetAdd", fn := fun _ => fun
  | [d1, d2, d3] => { results := [.lit (.bool true)], args := [d1, d2, d3] }
  | _ => none }
def fnExactSetAddRow : OpenClaim := { program := "ytkcbknjmpfgimaa", sum := "4953692dee62d761d6510d605b85fe6242b308db961ccfc481bc7432d8e698e3", func := "loop.example/g00579/laws.FnExactSetAdd", spec := "fnExactSetAdd", unfollowed := true, recurses := true, plainKeys := false, apart := false }
def FnExactSetAddSaid : Prop := fnExactSetAddRow.holds Try.pinned (OpenSpec.ofChange fnExactSetAddSpec)

/-- ITS FALSE NEIGHBOUR: 'it returns false'. Refute it at one input. -/
def fnExactSetAddWrong : ChangeSpec := { name := "fnExactSetAdd", fn := fun _ => fun
  | [d1, d2, d3] => { results := [.lit (.bool false)], args := [d1, d2, d3] }
  | _ => none }
def FnExactSetAddWrongFalsely : Prop := fnExactSetAddRow.holds Try.pinned (OpenSpec.ofChange fnExactSetAddWrong)

/-- 'laws.FnExactSetTake': WHATEVER THE INPUT: true; the input reads as it did. -/
def fnExactSetTakeSpec : ChangeSpec := { name := "fnExactSetTake", fn := fun _ => fun
  | [d1, d2] => { results := [.lit (.bool true)], args := [d1, d2] }
  | _ => none }
def fnExactSetTakeRow : OpenClaim := { program := "ytkcbknjmpfgimaa", sum := "4953692dee62d761d6510d605b85fe6242b308db961ccfc481bc7432d8e698e3", func := "loop.example/g00579/laws.FnExactSetTake", spec := "fnExactSetTake", inPlace := ["maps.clone"], unfollowed := true, recurses := true, plainKeys := false, apart := false }
def FnExactSetTakeSaid : Prop := fnExactSetTakeRow.holds Try.pinned (OpenSpec.ofChange fnExactSetTakeSpec)

/-- ITS FALSE NEIGHBOUR: 'it returns false'. Refute it at one input. -/
def fnExactSetTakeWrong : ChangeSpec := { name := "fnExactSetTake", fn := fun _ => fun
  | [d1, d2] => { results := [.lit (.bool false)], args := [d1, d2] }
  | _ => none }
def FnExactSetTakeWrongFalsely : Prop := fnExactSetTakeRow.holds Try.pinned (OpenSpec.ofChange fnExactSetTakeWrong)

/-- 'laws.FnExactSetJoin': WHATEVER THE INPUT: true; the input reads as it did. -/
def fnExactSetJoinSpec : ChangeSpec := { name := "fnExactSetJoin", fn := fun _ => fun
  | [d1, d2] => { results := [.lit (.bool true)], args := [d1, d2] }
  | _ => none }
def fnExactSetJoinRow : OpenClaim := { program := "ytkcbknjmpfgimaa", sum := "4953692dee62d761d6510d605b85fe6242b308db961ccfc481bc7432d8e698e3", func := "loop.example/g00579/laws.FnExactSetJoin", spec := "fnExactSetJoin", unfollowed := true, recurses := true, plainKeys := false, apart := false }
def FnExactSetJoinSaid : Prop := fnExactSetJoinRow.holds Try.pinned (OpenSpec.ofChange fnExactSetJoinSpec)

/-- ITS FALSE NEIGHBOUR: 'it returns false'. Refute it at one input. -/
def fnExactSetJoinWrong : ChangeSpec := { name := "fnExactSetJoin", fn := fun _ => fun
  | [d1, d2] => { results := [.lit (.bool false)], args := [d1, d2] }
  | _ => none }
def FnExactSetJoinWrongFalsely : Prop := fnExactSetJoinRow.holds Try.pinned (OpenSpec.ofChange fnExactSetJoinWrong)

/- THE SECOND FORM. 'bulk': how many values and letters a reading holds, each counted each time it is reached (what is shared counts as often as it is met; a slice's spare places count too). A statement '..UptoSaid' is the law's where the arguments, and the package variables that the reading takes, are together of bulk at most 1048576: NARROWER than '..Said'. Prove '..Said' where nothing that the law and all that it calls make is longer than what came in: it says more and counts as full. Else prove '..UptoSaid'. A law counts once. -/
mutual
def uptoBulk {H : Type} : DataW H → Nat
  | .lit (.string bytes) => bytes.length + 1
  | .lit _ => 1
  | .nil => 1
  | .ptr d => uptoBulk d + 1
  | .slice elems spare => uptoBulkAll elems + uptoBulkAll spare + 1
  | .agg parts => uptoBulkAll parts + 1
  | .iface _ d => uptoBulk d + 1
  | .map entries => uptoBulkEntries entries + 1
  | .held _ => 1
def uptoBulkAll {H : Type} : List (DataW H) → Nat
  | [] => 0
  | d :: r => uptoBulk d + uptoBulkAll r
def uptoBulkEntries {H : Type} : List (Lit × DataW H) → Nat
  | [] => 0
  | x :: r => uptoBulkEntry x + uptoBulkEntries r
def uptoBulkEntry {H : Type} : Lit × DataW H → Nat
  | (.string bytes, d) => bytes.length + uptoBulk d + 1
  | (_, d) => uptoBulk d + 1
 end
def uptoSmall : (H : Type) → List (DataW H) → Bool := fun _ ds => decide (uptoBulkAll ds ≤ 1048576)
def OpenSpec.upto (s : _root_.Go.ChangeSpec) : _root_.Go.OpenSpec := { _root_.Go.OpenSpec.ofChange s with cond := some uptoSmall }

/-- 'laws.FnExactSetOk', WHERE WHAT IT READS IS OF BULK AT MOST 1048576: true; the input reads as it did. -/
def fnExactSetOkUptoRow : OpenClaim := { program := "ytkcbknjmpfgimaa", sum := "4953692dee62d761d6510d605b85fe6242b308db961ccfc481bc7432d8e698e3", func := "loop.example/g00579/laws.FnExactSetOk", spec := "fnExactSetOk", plainKeys := false, apart := false, narrowed := true }
def FnExactSetOkUptoSaid : Prop := fnExactSetOkUptoRow.holds Try.pinned (OpenSpec.upto fnExactSetOkSpec)

/-- 'laws.FnExactSetHas', WHERE WHAT IT READS IS OF BULK AT MOST 1048576: true; the input reads as it did. -/
def fnExactSetHasUptoRow : OpenClaim := { program := "ytkcbknjmpfgimaa", sum := "4953692dee62d761d6510d605b85fe6242b308db961ccfc481bc7432d8e698e3", func := "loop.example/g00579/laws.FnExactSetHas", spec := "fnExactSetHas", inPlace := ["maps.clone"], plainKeys := false, apart := false, narrowed := true }
def FnExactSetHasUptoSaid : Prop := fnExactSetHasUptoRow.holds Try.pinned (OpenSpec.upto fnExactSetHasSpec)

/-- 'laws.FnExactSetElems', WHERE WHAT IT READS IS OF BULK AT MOST 1048576: true; the input reads as it did. -/
def fnExactSetElemsUptoRow : OpenClaim := { program := "ytkcbknjmpfgimaa", sum := "4953692dee62d761d6510d605b85fe6242b308db961ccfc481bc7432d8e698e3", func := "loop.example/g00579/laws.FnExactSetElems", spec := "fnExactSetElems", inPlace := ["maps.clone"], unfollowed := true, recurses := true, plainKeys := false, apart := false, narrowed := true }
def FnExactSetElemsUptoSaid : Prop := fnExactSetElemsUptoRow.holds Try.pinned (OpenSpec.upto fnExactSetElemsSpec)

/-- 'laws.FnExactSetAdd', WHERE WHAT IT READS IS OF BULK AT MOST 1048576: true; the input reads as it did. -/
def fnExactSetAddUptoRow : OpenClaim := { program := "ytkcbknjmpfgimaa", sum := "4953692dee62d761d6510d605b85fe6242b308db961ccfc481bc7432d8e698e3", func := "loop.example/g00579/laws.FnExactSetAdd", spec := "fnExactSetAdd", unfollowed := true, recurses := true, plainKeys := false, apart := false, narrowed := true }
def FnExactSetAddUptoSaid : Prop := fnExactSetAddUptoRow.holds Try.pinned (OpenSpec.upto fnExactSetAddSpec)

/-- 'laws.FnExactSetTake', WHERE WHAT IT READS IS OF BULK AT MOST 1048576: true; the input reads as it did. -/
def fnExactSetTakeUptoRow : OpenClaim := { program := "ytkcbknjmpfgimaa", sum := "4953692dee62d761d6510d605b85fe6242b308db961ccfc481bc7432d8e698e3", func := "loop.example/g00579/laws.FnExactSetTake", spec := "fnExactSetTake", inPlace := ["maps.clone"], unfollowed := true, recurses := true, plainKeys := false, apart := false, narrowed := true }
def FnExactSetTakeUptoSaid : Prop := fnExactSetTakeUptoRow.holds Try.pinned (OpenSpec.upto fnExactSetTakeSpec)

/-- 'laws.FnExactSetJoin', WHERE WHAT IT READS IS OF BULK AT MOST 1048576: true; the input reads as it did. -/
def fnExactSetJoinUptoRow : OpenClaim := { program := "ytkcbknjmpfgimaa", sum := "4953692dee62d761d6510d605b85fe6242b308db961ccfc481bc7432d8e698e3", func := "loop.example/g00579/laws.FnExactSetJoin", spec := "fnExactSetJoin", unfollowed := true, recurses := true, plainKeys := false, apart := false, narrowed := true }
def FnExactSetJoinUptoSaid : Prop := fnExactSetJoinUptoRow.holds Try.pinned (OpenSpec.upto fnExactSetJoinSpec)

end Rows
end Go.Proofs.Ytkcbknjmpfgimaa
