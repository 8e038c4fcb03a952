/- Plain facts on signs and orders: no Go in sight. -/
import Derived.Below
namespace Go.Proofs.YtlbcpppmpbbkdalDoor

def sgn (a b : Int) : Int := if a < b then -1 else if b < a then 1 else 0

def tcmp (c s q c' s' q' : Int) : Int := if c ≠ c' then sgn c c' else if s ≠ s' then sgn s s' else sgn q q'

def orI : List Int → Int
  | [] => 0
  | x :: r => if x ≠ 0 then x else orI r

theorem sgn_zero {a b : Int} : sgn a b = 0 ↔ a = b := by
  unfold sgn
  split
  · omega
  · split <;> omega

theorem sgn_self (a : Int) : sgn a a = 0 := sgn_zero.2 rfl

theorem sgn_bd (a b : Int) : -1 ≤ sgn a b ∧ sgn a b ≤ 1 := by
  unfold sgn
  split
  · omega
  · split <;> omega

theorem sgn_neg (a b : Int) : sgn b a = - sgn a b := by
  unfold sgn
  rcases Int.lt_trichotomy a b with h | h | h
  · have h' : ¬ b < a := by omega
    rw [if_neg h', if_pos h, if_pos h]
    decide
  · subst h
    simp
  · have h' : ¬ a < b := by omega
    rw [if_pos h, if_neg h', if_pos h]

theorem orI_three (c s q c' s' q' : Int) : orI [sgn c c', sgn s s', sgn q q'] = tcmp c s q c' s' q' := by
  simp only [orI, tcmp, ne_eq, sgn_zero]
  by_cases h1 : c = c'
  · by_cases h2 : s = s'
    · by_cases h3 : q = q'
      · simp [h1, h2, h3, sgn_self]
      · simp [h1, h2, h3]
    · simp [h1, h2]
  · simp [h1]

theorem tcmp_zero {c s q c' s' q' : Int} : tcmp c s q c' s' q' = 0 ↔ (c = c' ∧ s = s' ∧ q = q') := by
  unfold tcmp
  by_cases h1 : c = c'
  · by_cases h2 : s = s'
    · simp [h1, h2, sgn_zero]
    · simp [h1, h2, sgn_zero]
  · simp [h1, sgn_zero]

theorem tcmp_self (c s q : Int) : tcmp c s q c s q = 0 := tcmp_zero.2 ⟨rfl, rfl, rfl⟩

theorem tcmp_bd (c s q c' s' q' : Int) : -1 ≤ tcmp c s q c' s' q' ∧ tcmp c s q c' s' q' ≤ 1 := by
  unfold tcmp
  split
  · exact sgn_bd _ _
  · split
    · exact sgn_bd _ _
    · exact sgn_bd _ _

end Go.Proofs.YtlbcpppmpbbkdalDoor
