/- The specification's texts of lists of numbers: l01Nums, l01TagNums, l01Bit. -/
import Derived.Test.YtlbcpppmpbbkdalDoorNum
import Derived.Test.YtlbcpppmpbbkdalDoorDeps
namespace Go.Proofs.YtlbcpppmpbbkdalDoor
open Go.ChangeShapes Go.WideShapes Go.ChangeAt Go.RowKit Go.Joins

def numsText (ns : List Int) : List UInt8 := ns.flatMap fun n => 32 :: Lib.itoa n

def HoldsInts (w : World) (b o : Nat) (ns : List Int) : Prop := ∀ i, i < ns.length → w.cell? ⟨b, o + i, none⟩ = some (.int .i64 (ns.getD i 0))

theorem HoldsInts.below {w w' : World} {B b o : Nat} {ns : List Int} (h : HoldsInts w b o ns) (hb : Below B w w') (hB : b < B) : HoldsInts w' b o ns :=
  fun i hi => (hb.cell (p := ⟨b, o + i, none⟩) hB).trans (h i hi)

def Ints64 (ns : List Int) : Prop := ∀ i, i < ns.length → -9223372036854775808 ≤ ns.getD i 0 ∧ ns.getD i 0 ≤ 9223372036854775807

def bitI (de : Bool) : Int := if de then 1 else 0

theorem bitI_any (de : Bool) (w : World) : Calls Tryd.prog 59 #[.bool de] w fun e w' => e = .returned (.int .i64 (bitI de)) ∧ w' = w := by
  go_enter Tryd.func59, Tryd.ntmps59
  cases de
  · go_wp2
    go_ret
    exact ⟨rfl, rfl⟩
  · go_wp2
    go_ret
    exact ⟨rfl, rfl⟩

theorem nums_take (ns : List Int) (j : Nat) (h : j < ns.length) : numsText (ns.take (j + 1)) = numsText (ns.take j) ++ (32 :: Lib.itoa (ns.getD j 0)) := by
  unfold numsText
  rw [List.take_add_one, List.getElem?_eq_getElem h, List.flatMap_append]
  simp [List.getD, h]

theorem nums_len (ns : List Int) (h : Ints64 ns) : ∀ j, j ≤ ns.length → (numsText (ns.take j)).length ≤ 22 * j
  | 0, _ => by simp [numsText]
  | j + 1, hj => by
    rw [nums_take ns j (by omega), List.length_append, List.length_cons]
    have := nums_len ns h j (by omega)
    have hb := h j (by omega)
    have := Lib.itoa_length_le _ hb.1 hb.2
    omega

/-- A text as Go's string. -/
def str (l : List UInt8) : ByteArray := ⟨l.toArray⟩

theorem str_size (l : List UInt8) : (str l).size = l.length := by simp [str, ByteArray.size]

theorem str_add (a b : List UInt8) : str a ++ str b = str (a ++ b) := by
  apply ByteArray.ext
  simp [str]

theorem specNum' (n : Int) (w : World) (h : -9223372036854775808 ≤ n ∧ n ≤ 9223372036854775807) :
    Calls Tryd.prog 21 #[.int .i64 n] w fun e w' => e = .returned (.string (str (Lib.itoa n))) ∧ Below w.heap.size w w' := specNum n w h.1 h.2

set_option maxRecDepth 100000 in
set_option maxHeartbeats 4000000 in
theorem nums_any (b o cap : Nat) (ns : List Int) (w : World) (hn : ns.length ≤ 100) (h64 : Ints64 ns) (hlt : b < w.heap.size) (hh : HoldsInts w b o ns) :
    Calls Tryd.prog 57 #[.slice (some ⟨b, o, none⟩) ns.length cap] w fun e w' => e = .returned (.string (str (numsText ns))) ∧ Below w.heap.size w w' := by
  have HH : Hid (HoldsInts w b o ns) := hh
  have HI : Hid (Ints64 ns) := h64
  clear hh h64
  go_enter Tryd.func57, Tryd.ntmps57
  go_wp2
  go_loopw [3, 4] (fun t i wr => ∃ (j : Nat) (acc : ByteArray), j ≤ ns.length ∧ i = .int .i64 j ∧ t = .string acc ∧ acc.size ≤ 2200 ∧ Hid (acc = str (numsText (ns.take j))) ∧ Hid (Below w.heap.size w wr)) (fun _ i _ => ns.length - (intOf i).toNat)
  case atStart => exact ⟨0, str [], by omega, rfl, rfl, by simp [str_size], rfl, Below.refl _ _⟩
  case round =>
    obtain ⟨j, acc, hj, rfl, rfl, hsz, HA, HB⟩ := hrel
    by_cases hj' : j < ns.length
    · have i1 : (j : Int) < (ns.length : Int) := by omega
      have c1 := (HH.out.below HB.out hlt) j hj'
      have hb := HI.out j hj'
      have e1 : ns.getD j 0 = ns[j] := by simp [List.getD, hj']
      rw [e1] at c1 hb
      obtain ⟨x, HX⟩ : ∃ x, Hid (x = ns[j]) := ⟨ns[j], Lib.hid rfl⟩
      rw [← HX.out] at c1 hb
      go_wp2_with fail
      refine (specNum' x _ hb).mono ?_
      rintro e w1 ⟨rfl, hb1⟩
      have hsz1 : (str (Lib.itoa x)).size ≤ 21 := by rw [str_size]; exact Lib.itoa_length_le _ hb.1 hb.2
      obtain ⟨r, HR⟩ : ∃ r, Hid (r = str (Lib.itoa x)) := ⟨_, Lib.hid rfl⟩
      rw [← HR.out] at hsz1 ⊢
      have HB1 : Hid (Below w.heap.size w w1) := below_step HB.out HB.out.size hb1
      clear hb1
      go_wp2
      have hnew : acc ++ ⟨#[32]⟩ ++ r = str (numsText (ns.take (j + 1))) := by
        rw [HA.out, HR.out, nums_take ns j hj', e1, ← HX.out, show (⟨#[32]⟩ : ByteArray) = str [32] from rfl, str_add, str_add, List.append_assoc]
        rfl
      have hlen : (acc ++ ⟨#[32]⟩ ++ r).size ≤ 2200 := by
        rw [hnew, str_size]
        have := nums_len ns HI.out (j + 1) (by omega)
        omega
      exact ⟨⟨j + 1, _, by omega, by go_num, rfl, hlen, hnew, HB1⟩, by simp [intOf]; omega⟩
    · have hjn : j = ns.length := by omega
      subst hjn
      go_wp2
      go_ret
      rw [HA.out, List.take_length]
      exact ⟨rfl, HB.out⟩

theorem holds_ints_block {w : World} {g t : Nat} {cs : Array Value} {fr : Nat × Nat} {ns : List Int} (hb : w.heap[g]? = some (.cells cs t fr)) (hc : cs = (ns.map (Value.int .i64)).toArray) : HoldsInts w g 0 ns := by
  intro i hi
  subst hc
  rw [Nat.zero_add, cell_of_row w g i _ t fr hb]
  simp [List.getD, hi]

theorem tagNums_any (c s q : Int) (w : World) :
    Calls Tryd.prog 58 #[tagV c s q] w fun e w' => ∃ g, e = .returned (.slice (some ⟨g, 0, none⟩) 3 3) ∧ w.heap.size ≤ g ∧ g < w'.heap.size ∧ HoldsInts w' g 0 [c, s, q] ∧ Below w.heap.size w w' := by
  go_enter Tryd.func58, Tryd.ntmps58
  go_wp2
  go_ret
  refine ⟨w.heap.size + 1, rfl, by omega, by simp, holds_ints_block (cs := #[.int .i64 c, .int .i64 s, .int .i64 q]) (t := 3) (fr := (0, 0)) ?_ rfl, ((Below.refl _ _).alloc (Nat.le_refl _) _).alloc (by simp) _⟩
  have := heap_alloc_new (w.alloc (.cells #[.int .i64 c, .int .i64 s, .int .i64 q] 45)) (.cells #[.int .i64 c, .int .i64 s, .int .i64 q] 3)
  simpa using this
end Go.Proofs.YtlbcpppmpbbkdalDoor
