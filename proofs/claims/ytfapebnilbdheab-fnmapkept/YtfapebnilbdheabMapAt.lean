/- The contracts of the specification's MapAt and MapHas. -/
import Derived.Test.YtfapebnilbdheabCopy
namespace Go.Proofs.Ytfapebnilbdheab
open Go.ChangeShapes Go.WideShapes Go.ChangeAt Go.RowKit Go.Joins
attribute [local go_sem ↓] Go.wp_at_zero Go.wp_at_succ

/-- Number i is the first write of this key. -/
def FirstAt (ws : List Wr) (key : Int) (i : Nat) : Prop := i < ws.length ∧ (ws.getD i wz).k = key ∧ ∀ j, j < i → (ws.getD j wz).k ≠ key
/-- There is none of this key. -/
def NoneAt (ws : List Wr) (key : Int) : Prop := ∀ j, j < ws.length → (ws.getD j wz).k ≠ key

theorem FirstAt.same {ws : List Wr} {key : Int} {i j : Nat} (h : FirstAt ws key i) (h' : FirstAt ws key j) : i = j := by
  by_cases h1 : i < j
  · exact absurd h.2.1 (h'.2.2 i h1)
  · by_cases h2 : j < i
    · exact absurd h'.2.1 (h.2.2 j h2)
    · omega

theorem FirstAt.no {ws : List Wr} {key : Int} {i : Nat} (h : FirstAt ws key i) (h' : NoneAt ws key) : False := h' i h.1 h.2.1

/-- What a look at a map tells: a write of one's own, or nothing. -/
def Told (ws : List Wr) (key : Int) (w w' : World) (v : Value) : Prop :=
  (∃ i g cp, FirstAt ws key i ∧ v = .tuple #[wrOf (ws.getD i wz) (some ⟨g, 0, none⟩) cp, .bool true] ∧ w.heap.size ≤ g ∧ g < w'.heap.size ∧ HoldsDeps w' g 0 (ws.getD i wz).xs) ∨
  (NoneAt ws key ∧ v = .tuple #[wrV 0 0 0 0 0 false none 0 0, .bool false])

def findW (ws : List Wr) (key : Int) : Option Wr := ws.find? fun x => x.k == key

theorem find_first : ∀ {ws : List Wr} {key : Int} {i : Nat}, FirstAt ws key i → findW ws key = some (ws.getD i wz)
  | [], _, _, h => by simp [FirstAt] at h
  | x :: r, key, 0, h => by
    have hk : x.k = key := h.2.1
    simp [findW, hk]
  | x :: r, key, i + 1, h => by
    have hk : x.k ≠ key := h.2.2 0 (by omega)
    have : FirstAt r key i := ⟨by simpa using h.1, h.2.1, fun j hj => h.2.2 (j + 1) (by omega)⟩
    have := find_first this
    simp only [findW, List.find?_cons, beq_eq_false_iff_ne.2 hk] at this ⊢
    exact this

theorem find_none {ws : List Wr} {key : Int} (h : NoneAt ws key) : findW ws key = none := by
  induction ws with
  | nil => rfl
  | cons x r ih =>
    have hk : x.k ≠ key := h 0 (by simp)
    have := ih fun j hj => h (j + 1) (by simpa using hj)
    simp only [findW, List.find?_cons, beq_eq_false_iff_ne.2 hk] at this ⊢
    exact this

def hasB (ws : List Wr) (key c s q : Int) : Bool := match findW ws key with | some x => decide (0 ≤ tcmp x.c x.s x.q c s q) | none => false

end Go.Proofs.Ytfapebnilbdheab
