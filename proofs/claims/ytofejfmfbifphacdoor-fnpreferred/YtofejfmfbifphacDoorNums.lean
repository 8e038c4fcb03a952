/- The specification's texts of lists of numbers: l01Nums, l01TagNums, l01Bit. -/
import Derived.Test.YtofejfmfbifphacDoorNum
import Derived.Test.YtofejfmfbifphacDoorDeps
namespace Go.Proofs.YtofejfmfbifphacDoor
open Go.ChangeShapes Go.WideShapes Go.ChangeAt Go.RowKit Go.Joins

def numsText (ns : List Int) : List UInt8 := ns.flatMap fun n => 32 :: Lib.itoa n

def HoldsInts (w : World) (b o : Nat) (ns : List Int) : Prop := ∀ i, i < ns.length → w.cell? ⟨b, o + i, none⟩ = some (.int .i64 (ns.getD i 0))

theorem HoldsInts.below {w w' : World} {B b o : Nat} {ns : List Int} (h : HoldsInts w b o ns) (hb : Below B w w') (hB : b < B) : HoldsInts w' b o ns :=
  fun i hi => (hb.cell (p := ⟨b, o + i, none⟩) hB).trans (h i hi)

def Ints64 (ns : List Int) : Prop := ∀ i, i < ns.length → -9223372036854775808 ≤ ns.getD i 0 ∧ ns.getD i 0 ≤ 9223372036854775807

def bitI (de : Bool) : Int := if de then 1 else 0

theorem nums_take (ns : List Int) (j : Nat) (h : j < ns.length) : numsText (ns.take (j + 1)) = numsText (ns.take j) ++ (32 :: Lib.itoa (ns.getD j 0)) := by
  unfold numsText
  rw [List.take_add_one, List.getElem?_eq_getElem h, List.flatMap_append]
  simp [List.getD, h]

theorem nums_len (ns : List Int) (h : Ints64 ns) : ∀ j, j ≤ ns.length → (numsText (ns.take j)).length ≤ 22 * j
  | 0, _ => by simp [numsText]
  | j + 1, hj => by
    rw [nums_take ns j (by omega), List.length_append, List.length_cons]
    have := nums_len ns h j (by omega)
    have hb := h j (by omega)
    have := Lib.itoa_length_le _ hb.1 hb.2
    omega

/-- A text as Go's string. -/
def str (l : List UInt8) : ByteArray := ⟨l.toArray⟩

theorem str_size (l : List UInt8) : (str l).size = l.length := by simp [str, ByteArray.size]

theorem str_add (a b : List UInt8) : str a ++ str b = str (a ++ b) := by
  apply ByteArray.ext
  simp [str]

theorem specNum' (n : Int) (w : World) (h : -9223372036854775808 ≤ n ∧ n ≤ 9223372036854775807) :
    Calls Tryd.prog 26 #[.int .i64 n] w fun e w' => e = .returned (.string (str (Lib.itoa n))) ∧ Below w.heap.size w w' := specNum n w h.1 h.2

theorem holds_ints_block {w : World} {g t : Nat} {cs : Array Value} {fr : Nat × Nat} {ns : List Int} (hb : w.heap[g]? = some (.cells cs t fr)) (hc : cs = (ns.map (Value.int .i64)).toArray) : HoldsInts w g 0 ns := by
  intro i hi
  subst hc
  rw [Nat.zero_add, cell_of_row w g i _ t fr hb]
  simp [List.getD, hi]