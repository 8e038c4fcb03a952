/- Trees of sums and where two differ: plain facts. -/
import Derived.Test.YtlbcpppmpbbkdalDoorHash
import Derived.Test.YtlbcpppmpbbkdalDoorIntsIn
import Derived.Lib.ItoaNum
namespace Go.Proofs.YtlbcpppmpbbkdalDoor
open Go.ChangeShapes Go.WideShapes Go.ChangeAt Go.RowKit Go.Joins

/-- The sum of two sums. -/
def nodeH (x y : Int) : Int := hashL (Lib.itoa x ++ 32 :: Lib.itoa y)

def trF (F : Nat → Int) : Nat → Nat → Int
  | 0, _ => 0
  | f + 1, i => if 7 ≤ i then F (i - 7) else nodeH (trF F f (2 * i + 1)) (trF F f (2 * i + 2))

/-- What stands at a place of the tree with these leaves. -/
def tr (F : Nat → Int) (i : Nat) : Int := trF F 4 i

def treeL (F : Nat → Int) : List Int := (List.range 15).map (tr F)

theorem treeL_len (F : Nat → Int) : (treeL F).length = 15 := by simp [treeL]

theorem treeL_get (F : Nat → Int) {j : Nat} (h : j < 15) : (treeL F).getD j 0 = tr F j := by
  simp [treeL, List.getD, h]

theorem tr_leaf (F : Nat → Int) (k : Nat) : tr F (7 + k) = F k := by
  have h : 7 ≤ 7 + k := by omega
  have e : 7 + k - 7 = k := by omega
  rw [tr, trF, if_pos h, e]

theorem tr_node (F : Nat → Int) {i : Nat} (h : i < 7) : tr F i = nodeH (tr F (2 * i + 1)) (tr F (2 * i + 2)) := by
  match i, h with
  | 0, _ => simp [tr, trF]
  | 1, _ => simp [tr, trF]
  | 2, _ => simp [tr, trF]
  | 3, _ => simp [tr, trF]
  | 4, _ => simp [tr, trF]
  | 5, _ => simp [tr, trF]
  | 6, _ => simp [tr, trF]

theorem nodeH_bd (x y : Int) : 0 ≤ nodeH x y ∧ nodeH x y < 65521 := hashL_bd _

theorem tr_bd (F : Nat → Int) (hF : ∀ k, 0 ≤ F k ∧ F k < 65521) (i : Nat) : 0 ≤ tr F i ∧ tr F i < 65521 := by
  unfold tr trF
  split
  · exact hF _
  · exact nodeH_bd _ _

/-- The place i and all places above it are so. -/
def apF (P : Nat → Bool) : Nat → Nat → Bool
  | 0, _ => false
  | f + 1, i => P i && (i == 0 || apF P f ((i - 1) / 2))

def ap (P : Nat → Bool) (i : Nat) : Bool := apF P (i + 1) i

theorem apF_more (P : Nat → Bool) : ∀ f g i, i < f → i < g → apF P f i = apF P g i
  | 0, _, _, h, _ => by omega
  | _, 0, _, _, h => by omega
  | f + 1, g + 1, i, h1, h2 => by
    unfold apF
    by_cases h0 : i = 0
    · subst h0
      simp
    · rw [apF_more P f g ((i - 1) / 2) (by omega) (by omega)]

theorem ap_zero (P : Nat → Bool) : ap P 0 = P 0 := by simp [ap, apF]

theorem ap_step (P : Nat → Bool) {i : Nat} (h : 0 < i) : ap P i = (P i && ap P ((i - 1) / 2)) := by
  have h0 : (i == 0) = false := by simp; omega
  unfold ap
  rw [apF, h0, Bool.false_or, apF_more P i ((i - 1) / 2 + 1) _ (by omega) (by omega)]

theorem ap_here {P : Nat → Bool} {i : Nat} (h : ap P i = true) : P i = true := by
  unfold ap apF at h
  simp only [Bool.and_eq_true] at h
  exact h.1

theorem ap_not {P : Nat → Bool} {i : Nat} (h : P i = false) : ap P i = false := by
  unfold ap apF
  rw [h, Bool.false_and]

def unlike (a b : List Int) (i : Nat) : Bool := decide (a.getD i 0 ≠ b.getD i 0)

/-- The leaves of the first n that are told. -/
def leavesTo (a b : List Int) (n : Nat) : List Int := ((List.range n).filter fun (k : Nat) => ap (unlike a b) (7 + k)).map fun (k : Nat) => (k : Int)

def diffL (a b : List Int) : List Int := leavesTo a b 8

def diffB (a b : List Int) : List Int := if a.length = 15 ∧ b.length = 15 then diffL a b else []

theorem leavesTo_zero (a b : List Int) : leavesTo a b 0 = [] := rfl

theorem leavesTo_yes {a b : List Int} {n : Nat} (h : ap (unlike a b) (7 + n) = true) : leavesTo a b (n + 1) = leavesTo a b n ++ [(n : Int)] := by
  unfold leavesTo
  rw [List.range_succ, List.filter_append, List.map_append]
  simp [h]

theorem leavesTo_no {a b : List Int} {n : Nat} (h : ap (unlike a b) (7 + n) = false) : leavesTo a b (n + 1) = leavesTo a b n := by
  unfold leavesTo
  rw [List.range_succ, List.filter_append, List.map_append]
  simp [h]

theorem leavesTo_len (a b : List Int) (n : Nat) : (leavesTo a b n).length ≤ n := by
  unfold leavesTo
  rw [List.length_map]
  exact Nat.le_trans (List.length_filter_le _ _) (by simp)

theorem leavesTo_same (a : List Int) (n : Nat) : leavesTo a a n = [] := by
  induction n with
  | zero => rfl
  | succ n ih =>
    rw [leavesTo_no (ap_not (by simp [unlike])), ih]

theorem diffL_same (a : List Int) : diffL a a = [] := leavesTo_same a 8

theorem diffB_same (a : List Int) : diffB a a = [] := by
  unfold diffB
  split
  · exact diffL_same a
  · rfl

theorem diffB_len (a b : List Int) : (diffB a b).length ≤ 8 := by
  unfold diffB
  split
  · exact leavesTo_len a b 8
  · simp

theorem mem_leavesTo {a b : List Int} {n : Nat} {z : Int} (h : z ∈ leavesTo a b n) : ∃ k : Nat, k < n ∧ z = (k : Int) ∧ ap (unlike a b) (7 + k) = true := by
  unfold leavesTo at h
  obtain ⟨k, hk, rfl⟩ := List.mem_map.1 h
  obtain ⟨h1, h2⟩ := List.mem_filter.1 hk
  exact ⟨k, List.mem_range.1 h1, rfl, h2⟩

/-- What is told to differ differs in its leaf. -/
theorem mem_diffB {a b : List Int} {z : Int} (h : z ∈ diffB a b) : ∃ k : Nat, k < 8 ∧ z = (k : Int) ∧ a.getD (7 + k) 0 ≠ b.getD (7 + k) 0 := by
  unfold diffB at h
  split at h
  · obtain ⟨k, h1, h2, h3⟩ := mem_leavesTo h
    exact ⟨k, h1, h2, by have := ap_here h3; simpa [unlike] using this⟩
  · simp at h

theorem leavesTo_rise (a b : List Int) (n : Nat) : (leavesTo a b n).Pairwise (· < ·) := by
  unfold leavesTo
  rw [List.pairwise_map]
  exact (List.pairwise_lt_range (n := n)).filter _ |>.imp fun h => by omega

theorem diffB_rise (a b : List Int) : (diffB a b).Pairwise (· < ·) := by
  unfold diffB
  split
  · exact leavesTo_rise a b 8
  · exact List.Pairwise.nil

end Go.Proofs.YtlbcpppmpbbkdalDoor
