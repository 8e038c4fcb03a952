/- Contracts of HashOf of both sides: the sum of a text. -/
import Derived.Test.YtlbcpppmpbbkdalDoorSmall
import Derived.Test.YtlbcpppmpbbkdalDoorAft
import Derived.Lib.Hide
namespace Go.Proofs.YtlbcpppmpbbkdalDoor
open Go.ChangeShapes Go.WideShapes Go.ChangeAt Go.RowKit Go.Joins

def hashL (bs : List UInt8) : Int := bs.foldl (fun x b => (33 * x + (b.toNat : Int)) % 65521) 5381

set_option maxRecDepth 100000 in
theorem hashL_snoc (bs : List UInt8) (b : UInt8) : hashL (bs ++ [b]) = (33 * hashL bs + (b.toNat : Int)) % 65521 := by
  unfold hashL
  rw [List.foldl_append]
  rfl

set_option maxRecDepth 100000 in
theorem hash_run (bs : List UInt8) : ∀ x : Int, 0 ≤ x → x < 65521 → 0 ≤ bs.foldl (fun x b => (33 * x + (b.toNat : Int)) % 65521) x ∧ bs.foldl (fun x b => (33 * x + (b.toNat : Int)) % 65521) x < 65521 := by
  induction bs with
  | nil => exact fun x h0 h1 => ⟨h0, h1⟩
  | cons b bs ih => exact fun x _ _ => ih _ (Int.emod_nonneg _ (by decide)) (Int.emod_lt_of_pos _ (by decide))

set_option maxRecDepth 100000 in
theorem hashL_bd (bs : List UInt8) : 0 ≤ hashL bs ∧ hashL bs < 65521 := hash_run bs 5381 (by omega) (by omega)

set_option maxRecDepth 100000 in
theorem take_sign {s : ByteArray} {k : Nat} (h : k < s.size) : s.data.toList.take (k + 1) = s.data.toList.take k ++ [s[k]] := by
  have hl : k < s.data.toList.length := by simpa using h
  rw [List.take_succ_eq_append_getElem hl]
  rfl

set_option maxRecDepth 100000 in
theorem hash_take {s : ByteArray} {k : Nat} (h : k < s.size) : hashL (s.data.toList.take (k + 1)) = (33 * hashL (s.data.toList.take k) + (s[k].toNat : Int)) % 65521 := by
  rw [take_sign h, hashL_snoc]

set_option maxRecDepth 100000 in
theorem hash_all (s : ByteArray) : hashL (s.data.toList.take s.size) = hashL s.data.toList := by
  rw [List.take_of_length_le (by simp)]

set_option maxRecDepth 100000 in
set_option maxHeartbeats 2000000 in
theorem specHash_any (s : ByteArray) (w : World) (hs : s.size ≤ 9223372036854775807) :
    Calls Tryd.prog 20 #[.string s] w fun e w' => e = .returned (.int .i64 (hashL s.data.toList)) ∧ w' = w := by
  go_enter Tryd.func20, Tryd.ntmps20
  go_wp2
  go_loopw [3, 4] (fun x i wr => ∃ k : Nat, k ≤ s.size ∧ i = .int .i64 k ∧ x = .int .i64 (hashL (s.data.toList.take k)) ∧ wr = w) (fun _ i _ => s.size - (intOf i).toNat)
  case atStart => exact ⟨0, Nat.zero_le _, rfl, rfl, rfl⟩
  case round =>
    obtain ⟨k, hk, rfl, rfl, rfl⟩ := hrel
    by_cases hk' : k < s.size
    · have i1 : (0 : Int) ≤ (k : Int) := by omega
      have i2 : (k : Int) < (s.size : Int) := by omega
      have HT := Lib.hid (hash_take hk')
      obtain ⟨b0, b1⟩ := hashL_bd (s.data.toList.take k)
      have hu : s[k].toNat < 256 := UInt8.toNat_lt _
      have hu' : wrap64 (s[k].toNat : Int) = (s[k].toNat : Int) := by unfold wrap64; omega
      generalize hashL (s.data.toList.take k) = x at *
      go_wp2
      refine ⟨⟨k + 1, hk', by go_num, ?_, trivial⟩, by simp [intOf]; omega⟩
      rw [HT.out]
    · have hke : k = s.size := by omega
      subst hke
      rw [hash_all]
      go_wp2
      go_ret
      exact ⟨rfl, rfl⟩

set_option maxRecDepth 100000 in
set_option maxHeartbeats 2000000 in
theorem implHash_any (s : ByteArray) (w : World) (hs : s.size ≤ 9223372036854775807) :
    Calls Tryd.prog 42 #[.string s] w fun e w' => e = .returned (.int .i64 (hashL s.data.toList)) ∧ w' = w := by
  go_enter Tryd.func42, Tryd.ntmps42
  go_wp2
  go_loopw [3, 7] (fun x i wr => ∃ k : Nat, k ≤ s.size ∧ i = .int .i64 k ∧ x = .int .i64 (hashL (s.data.toList.take k)) ∧ wr = w) (fun _ i _ => s.size - (intOf i).toNat)
  case atStart => exact ⟨0, Nat.zero_le _, rfl, rfl, rfl⟩
  case round =>
    obtain ⟨k, hk, rfl, rfl, rfl⟩ := hrel
    by_cases hk' : k < s.size
    · have i1 : (0 : Int) ≤ (k : Int) := by omega
      have i2 : (k : Int) < (s.size : Int) := by omega
      have HT := Lib.hid (hash_take hk')
      obtain ⟨b0, b1⟩ := hashL_bd (s.data.toList.take k)
      have hu : s[k].toNat < 256 := UInt8.toNat_lt _
      have hu' : wrap64 (s[k].toNat : Int) = (s[k].toNat : Int) := by unfold wrap64; omega
      generalize hashL (s.data.toList.take k) = x at *
      go_wp2
      refine ⟨⟨k + 1, hk', by go_num, ?_, trivial⟩, by simp [intOf]; omega⟩
      rw [HT.out]
    · have hke : k = s.size := by omega
      subst hke
      rw [hash_all]
      go_wp2
      go_ret
      exact ⟨rfl, rfl⟩

end Go.Proofs.YtlbcpppmpbbkdalDoor
