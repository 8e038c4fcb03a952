/- Numerals and their numbers: plain facts. -/
import Derived.Lib.ItoaNum
import Derived.Lib.ItoaMem
namespace Go.Proofs.YtlbcpppmpbbkdalDoor
open Go

/-- The number that digits say. -/
def dval (l : List UInt8) : Nat := l.foldl (fun n d => 10 * n + (d.toNat - 48)) 0

theorem dval_snoc (l : List UInt8) (d : UInt8) : dval (l ++ [d]) = 10 * dval l + (d.toNat - 48) := by
  unfold dval
  rw [List.foldl_append]
  rfl

def Digs (l : List UInt8) : Prop := ∀ d ∈ l, 48 ≤ d.toNat ∧ d.toNat ≤ 57

theorem digs_snoc {l : List UInt8} {d : UInt8} (h : Digs l) (h' : 48 ≤ d.toNat ∧ d.toNat ≤ 57) : Digs (l ++ [d]) := fun x hx => by
  rcases List.mem_append.1 hx with hx | hx
  · exact h x hx
  · have : x = d := by simpa using hx
    rw [this]
    exact h'

theorem one_digit {u : Nat} (h : u < 10) : (UInt8.ofNat (48 + u)).toNat = 48 + u := by
  rw [UInt8.toNat_ofNat']
  omega

theorem dec_snoc {u : Nat} (h : ¬ u < 10) : Lib.decDigits u = Lib.decDigits (u / 10) ++ [UInt8.ofNat (48 + u % 10)] := by
  rw [Lib.decDigits, dif_neg h]

theorem dec_facts : ∀ (k u : Nat), u < 10 ^ (k + 1) → Digs (Lib.decDigits u) ∧ dval (Lib.decDigits u) = u ∧ 1 ≤ (Lib.decDigits u).length ∧ (Lib.decDigits u).length ≤ k + 1
  | k, u, hu => by
    by_cases h : u < 10
    · rw [Lib.decDigits_one h]
      have e := one_digit h
      refine ⟨fun d hd => ?_, ?_, by simp, by simp⟩
      · have : d = UInt8.ofNat (48 + u) := by simpa using hd
        rw [this, e]
        omega
      · show 10 * 0 + ((UInt8.ofNat (48 + u)).toNat - 48) = u
        rw [e]
        omega
    · rw [dec_snoc h]
      have hm : u % 10 < 10 := Nat.mod_lt _ (by omega)
      match k, hu with
      | 0, hu => omega
      | k + 1, hu =>
        obtain ⟨h1, h2, h3, h4⟩ := dec_facts k (u / 10) (by rw [Nat.pow_succ] at hu; omega)
        refine ⟨digs_snoc h1 (by rw [one_digit hm]; omega), ?_, by simp, by simp; omega⟩
        rw [dval_snoc, h2, one_digit hm]
        omega

theorem dval_lt : ∀ (n : Nat) (l : List UInt8), l.length = n → Digs l → dval l < 10 ^ n
  | 0, l, hl, _ => by
    have : l = [] := List.length_eq_zero_iff.1 hl
    rw [this]
    decide
  | n + 1, l, hl, hd => by
    have hne : l ≠ [] := fun e => by rw [e] at hl; simp at hl
    have e := List.dropLast_concat_getLast hne
    have h1 := dval_lt n l.dropLast (by simp [hl]) (fun d h => hd d (List.dropLast_subset l h))
    have h2 := hd (l.getLast hne) (List.getLast_mem hne)
    rw [← e, dval_snoc, Nat.pow_succ]
    omega

/-- What a word says: whether a sign leads it, its digits. -/
def unsigned (bs : List UInt8) : List UInt8 := match bs with
  | 45 :: r => r
  | r => r

theorem itoa_parts {m : Int} (h0 : -100000000000 < m) (h1 : m < 100000000000) : Digs (unsigned (Lib.itoa m)) ∧ dval (unsigned (Lib.itoa m)) = m.natAbs ∧ 1 ≤ (unsigned (Lib.itoa m)).length ∧ (unsigned (Lib.itoa m)).length ≤ 11 ∧ (m < 0 → Lib.itoa m = 45 :: unsigned (Lib.itoa m)) ∧ (0 ≤ m → unsigned (Lib.itoa m) = Lib.itoa m) := by
  have hu : m.natAbs < 10 ^ (10 + 1) := by
    have : (10 : Nat) ^ (10 + 1) = 100000000000 := by decide
    omega
  obtain ⟨f1, f2, f3, f4⟩ := dec_facts 10 m.natAbs hu
  unfold Lib.itoa
  by_cases hm : m < 0
  · rw [if_pos hm]
    exact ⟨f1, f2, f3, f4, fun _ => rfl, fun h => by omega⟩
  · rw [if_neg hm]
    have e : m.toNat = m.natAbs := by omega
    rw [e]
    have hne : unsigned (Lib.decDigits m.natAbs) = Lib.decDigits m.natAbs := by
      unfold unsigned
      split
      · rename_i r he
        have := f1 45 (by rw [he]; simp)
        exact absurd this.1 (by decide)
      · rfl
    rw [hne]
    exact ⟨f1, f2, f3, f4, fun h => absurd h hm, fun _ => rfl⟩

end Go.Proofs.YtlbcpppmpbbkdalDoor
