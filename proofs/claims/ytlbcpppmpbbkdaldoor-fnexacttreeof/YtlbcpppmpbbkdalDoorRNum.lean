/- The contract of spec.l01Num. -/
import Derived.Test.YtlbcpppmpbbkdalDoorNum
import Derived.Test.YtlbcpppmpbbkdalDoorRPure
import Derived.Test.YtlbcpppmpbbkdalDoorTagOk
namespace Go.Proofs.YtlbcpppmpbbkdalDoor
open Go.ChangeShapes Go.WideShapes Go.ChangeAt Go.RowKit Go.Joins

/-- What l01Num says of a word: a number, and whether the word is its numeral. -/
def NumSays (s : ByteArray) (n : Int) (b : Bool) : Prop := -100000000000 < n ∧ n < 100000000000 ∧ (b = true → s.data.toList = Lib.itoa n) ∧ ∀ m : Int, -100000000000 < m → m < 100000000000 → s.data.toList = Lib.itoa m → b = true ∧ n = m

theorem take_byte {s : ByteArray} {k : Nat} (h : k < s.size) : s.data.toList.take (k + 1) = s.data.toList.take k ++ [s[k]] := by
  have hl : k < s.data.toList.length := by simpa using h
  rw [List.take_succ_eq_append_getElem hl]
  rfl

theorem mem_byte {s : ByteArray} {k : Nat} (h : k < s.size) : s[k] ∈ s.data.toList := by
  have hl : k < s.data.toList.length := by simpa using h
  exact List.getElem_mem hl

theorem btw_digit (d : UInt8) : btw (d.toNat : Int) 48 57 = true ↔ 48 ≤ d.toNat ∧ d.toNat ≤ 57 := by
  unfold btw
  simp
  omega

/-- What a word's digits T must be for it to be a numeral. -/
def NumOk (neg : Bool) (L T : List UInt8) : Prop := ∀ m : Int, -100000000000 < m → m < 100000000000 → L = Lib.itoa m → (neg = true ↔ m < 0) ∧ Digs T ∧ dval T = m.natAbs ∧ 1 ≤ T.length ∧ T.length ≤ 11

theorem numOk_plain {L : List UInt8} (h : L.head? ≠ some 45) : NumOk false L L := fun m h0 h1 e => by
  obtain ⟨f1, f2, f3, f4, f5, f6⟩ := itoa_parts h0 h1
  by_cases hm : m < 0
  · rw [e, f5 hm] at h
    simp at h
  · have e2 := f6 (by omega)
    rw [e2] at f1 f2 f3 f4
    rw [e]
    exact ⟨by simp; omega, f1, f2, f3, f4⟩

theorem numOk_neg {T : List UInt8} : NumOk true (45 :: T) T := fun m h0 h1 e => by
  obtain ⟨f1, f2, f3, f4, f5, f6⟩ := itoa_parts h0 h1
  by_cases hm : m < 0
  · have e2 := f5 hm
    rw [← e] at e2
    injection e2 with _ e3
    rw [← e, ← e3] at f1 f2 f3 f4
    exact ⟨by simp [hm], f1, f2, f3, f4⟩
  · have e2 := f6 (by omega)
    rw [e2, ← e] at f1
    exact absurd (f1 45 (by simp)).1 (by decide)

def signed (neg : Bool) (n : Nat) : Int := if neg = true then -(n : Int) else n

theorem says_end {s : ByteArray} {neg : Bool} {T : List UInt8} (h : NumOk neg s.data.toList T) (hd : Digs T) (hl : T.length ≤ 11) {b : Bool} (hb : b = true ↔ Lib.itoa (signed neg (dval T)) = s.data.toList) : NumSays s (signed neg (dval T)) b := by
  have hlt : dval T < 100000000000 := by
    have h1 := dval_lt T.length T rfl hd
    have h2 : 10 ^ T.length ≤ 10 ^ 11 := Nat.pow_le_pow_right (by omega) hl
    have h3 : (10 : Nat) ^ 11 = 100000000000 := by decide
    omega
  have hr : -100000000000 < signed neg (dval T) ∧ signed neg (dval T) < 100000000000 := by
    unfold signed
    split <;> omega
  refine ⟨hr.1, hr.2, fun hb' => (hb.1 hb').symm, fun m h0 h1 e => ?_⟩
  obtain ⟨g1, _, g3, _, _⟩ := h m h0 h1 e
  have hm : signed neg (dval T) = m := by
    unfold signed
    rw [g3]
    split
    · rename_i hn
      have := g1.1 hn
      omega
    · rename_i hn
      have : ¬ m < 0 := fun h => hn (g1.2 h)
      omega
  refine ⟨hb.2 ?_, hm⟩
  rw [hm, e]

theorem says_not {s : ByteArray} {neg : Bool} {T : List UInt8} (h : NumOk neg s.data.toList T) (hbad : ¬ (Digs T ∧ 1 ≤ T.length ∧ T.length ≤ 11)) : NumSays s 0 false :=
  ⟨by omega, by omega, fun h => by simp at h, fun m h0 h1 e => by
    obtain ⟨_, g2, _, g4, g5⟩ := h m h0 h1 e
    exact absurd ⟨g2, g4, g5⟩ hbad⟩

theorem btw_len {n : Nat} : btw (n : Int) 1 11 = true ↔ 1 ≤ n ∧ n ≤ 11 := by
  unfold btw
  simp
  omega

end Go.Proofs.YtlbcpppmpbbkdalDoor
