/- Contracts of HashOf of both sides: the sum of a text. -/
import Derived.Test.YtlbcpppmpbbkdalSmall
import Derived.Test.YtlbcpppmpbbkdalAft
import Derived.Lib.Hide
namespace Go.Proofs.Ytlbcpppmpbbkdal
open Go.ChangeShapes Go.WideShapes Go.ChangeAt Go.RowKit Go.Joins

def hashL (bs : List UInt8) : Int := bs.foldl (fun x b => (33 * x + (b.toNat : Int)) % 65521) 5381

set_option maxRecDepth 100000 in
theorem hashL_snoc (bs : List UInt8) (b : UInt8) : hashL (bs ++ [b]) = (33 * hashL bs + (b.toNat : Int)) % 65521 := by
  unfold hashL
  rw [List.foldl_append]
  rfl

set_option maxRecDepth 100000 in
theorem hash_run (bs : List UInt8) : ∀ x : Int, 0 ≤ x → x < 65521 → 0 ≤ bs.foldl (fun x b => (33 * x + (b.toNat : Int)) % 65521) x ∧ bs.foldl (fun x b => (33 * x + (b.toNat : Int)) % 65521) x < 65521 := by
  induction bs with
  | nil => exact fun x h0 h1 => ⟨h0, h1⟩
  | cons b bs ih => exact fun x _ _ => ih _ (Int.emod_nonneg _ (by decide)) (Int.emod_lt_of_pos _ (by decide))

set_option maxRecDepth 100000 in
theorem hashL_bd (bs : List UInt8) : 0 ≤ hashL bs ∧ hashL bs < 65521 := hash_run bs 5381 (by omega) (by omega)

set_option maxRecDepth 100000 in
theorem take_sign {s : ByteArray} {k : Nat} (h : k < s.size) : s.data.toList.take (k + 1) = s.data.toList.take k ++ [s[k]] := by
  have hl : k < s.data.toList.length := by simpa using h
  rw [List.take_succ_eq_append_getElem hl]
  rfl

set_option maxRecDepth 100000 in
theorem hash_take {s : ByteArray} {k : Nat} (h : k < s.size) : hashL (s.data.toList.take (k + 1)) = (33 * hashL (s.data.toList.take k) + (s[k].toNat : Int)) % 65521 := by
  rw [take_sign h, hashL_snoc]

set_option maxRecDepth 100000 in
theorem hash_all (s : ByteArray) : hashL (s.data.toList.take s.size) = hashL s.data.toList := by
  rw [List.take_of_length_le (by simp)]

end Go.Proofs.Ytlbcpppmpbbkdal
