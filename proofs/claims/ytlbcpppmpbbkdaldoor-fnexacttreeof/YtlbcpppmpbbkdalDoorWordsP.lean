/- The words of a write's text, with no program in sight. -/
import Derived.Test.YtlbcpppmpbbkdalDoorWText
import Derived.Lib.Join
namespace Go.Proofs.YtlbcpppmpbbkdalDoor
open Go.ChangeShapes Go.WideShapes Go.ChangeAt Go.RowKit Go.Joins

def wordsOf (ns : List Int) : List ByteArray := str [119] :: ns.map fun n => str (Lib.itoa n)

theorem join_words (ns : List Int) : Lib.join ((wordsOf ns).map (·.data.toList)) [32] = 119 :: numsText ns := by
  simp only [wordsOf, List.map_cons, Lib.join_cons, Lib.joinTail, List.map_map]
  simp [str, numsText, List.flatMap, Function.comp_def]

def headNs (k c s q v : Int) (de : Bool) (n : Nat) : List Int := [k, c, s, q, v, bitI de, n]

def depNs (d : Dp) : List Int := [d.k, d.c, d.s, d.q]

theorem text_nums (k c s q v : Int) (de : Bool) (xs : List Dp) (n : Nat) : 119 :: numsText (headNs k c s q v de n ++ xs.flatMap depNs) = headText k c s q v de n ++ xs.flatMap depText := by
  have e : depText = fun d => numsText (depNs d) := by
    funext d
    simp [depText, depNs, numsText]
  rw [e]
  simp [headText, headNs, numsText, List.flatMap_assoc]

end Go.Proofs.YtlbcpppmpbbkdalDoor
