/- Plain facts on the ring's points: where a point goes, all points in order. -/
import Derived.Test.YtofejfmfbifphacDoorInsertG
import Derived.Test.YtofejfmfbifphacDoorHash
import Derived.Test.YtofejfmfbifphacDoorNodes
import Derived.Test.YtofejfmfbifphacDoorNums
namespace Go.Proofs.YtofejfmfbifphacDoor

def gtP (a b : Pt) : Bool := decide (b.t < a.t ∨ a.t = b.t ∧ b.n < a.n)

/-- The place of p in the first k of out, from their end down. -/
def placeP (out : List Pt) (p : Pt) : Nat → Nat
  | 0 => 0
  | k + 1 => if gtP (out.getD k pz) p = true then placeP out p k else k + 1

def insP (out : List Pt) (p : Pt) : List Pt := putAt out (placeP out p out.length) p

set_option maxRecDepth 100000 in
theorem placeP_le (out : List Pt) (p : Pt) : ∀ k, placeP out p k ≤ k
  | 0 => Nat.le_refl _
  | k + 1 => by
    unfold placeP
    split
    · exact Nat.le_trans (placeP_le out p k) (Nat.le_succ k)
    · exact Nat.le_refl _

set_option maxRecDepth 100000 in
theorem placeP_gt {out : List Pt} {p : Pt} {j : Nat} (h : gtP (out.getD j pz) p = true) : placeP out p (j + 1) = placeP out p j := by
  show (if _ then _ else _) = _
  rw [if_pos h]

set_option maxRecDepth 100000 in
theorem placeP_not {out : List Pt} {p : Pt} {j : Nat} (h : gtP (out.getD j pz) p = false) : placeP out p (j + 1) = j + 1 := by
  show (if _ then _ else _) = _
  rw [if_neg (by rw [h]; simp)]

set_option maxRecDepth 100000 in
theorem insP_len (out : List Pt) (p : Pt) : (insP out p).length = out.length + 1 := putAt_len (placeP_le out p out.length) p

def pointOf (node : Int) (i : Nat) : Pt := ⟨hashL (Lib.itoa node ++ (46 :: Lib.itoa (i : Int))), node⟩

def ptsOf (nodes : List Int) (V : Nat) : List Pt := nodes.flatMap fun node => (List.range V).map (pointOf node)

/-- The points of the first a nodes, and the first b of the next. -/
def ptsPre (nodes : List Int) (V a b : Nat) : List Pt := ptsOf (nodes.take a) V ++ (List.range b).map (pointOf (nodes.getD a 0))

set_option maxRecDepth 100000 in
theorem ptsPre_next (nodes : List Int) (V a b : Nat) : ptsPre nodes V a (b + 1) = ptsPre nodes V a b ++ [pointOf (nodes.getD a 0) b] := by
  unfold ptsPre
  rw [List.range_succ, List.map_append, List.append_assoc]
  rfl

set_option maxRecDepth 100000 in
theorem ptsPre_row (nodes : List Int) (V a : Nat) (h : a < nodes.length) : ptsPre nodes V (a + 1) 0 = ptsPre nodes V a V := by
  unfold ptsPre ptsOf
  rw [List.take_succ_eq_append_getElem h, List.flatMap_append]
  simp [List.getD, h]

set_option maxRecDepth 100000 in
theorem ptsPre_zero (nodes : List Int) (V : Nat) : ptsPre nodes V 0 0 = [] := by simp [ptsPre, ptsOf]

set_option maxRecDepth 100000 in
theorem ptsPre_all (nodes : List Int) (V a : Nat) (h : nodes.length ≤ a) : ptsPre nodes V a 0 = ptsOf nodes V := by
  unfold ptsPre
  rw [List.take_of_length_le h]
  simp

set_option maxRecDepth 100000 in
theorem ptsOf_len : ∀ (nodes : List Int) (V : Nat), (ptsOf nodes V).length = nodes.length * V
  | [], _ => by simp [ptsOf]
  | x :: r, V => by
    have ih := ptsOf_len r V
    unfold ptsOf at ih ⊢
    rw [List.flatMap_cons, List.length_append, ih]
    simp [Nat.succ_mul]
    omega

set_option maxRecDepth 100000 in
theorem ptsPre_len {nodes : List Int} {V a b : Nat} (h8 : nodes.length ≤ 8) (hV : V ≤ 6) (hb : b ≤ V) : (ptsPre nodes V a b).length ≤ 54 := by
  unfold ptsPre
  rw [List.length_append, ptsOf_len, List.length_map, List.length_range, List.length_take]
  have h1 : min a nodes.length ≤ 8 := by omega
  have h2 : min a nodes.length * V ≤ 8 * 6 := Nat.mul_le_mul h1 hV
  omega

def ringL (pts : List Pt) : List Pt := pts.foldl insP []

set_option maxRecDepth 100000 in
theorem ringL_snoc (pts : List Pt) (p : Pt) : ringL (pts ++ [p]) = insP (ringL pts) p := by
  unfold ringL
  rw [List.foldl_append]
  rfl

set_option maxRecDepth 100000 in
theorem ins_run : ∀ (pts out : List Pt), (pts.foldl insP out).length = out.length + pts.length
  | [], _ => by simp
  | p :: pts, out => by
    rw [List.foldl_cons, ins_run pts, insP_len]
    simp
    omega

set_option maxRecDepth 100000 in
theorem ringL_len (pts : List Pt) : (ringL pts).length = pts.length := by
  unfold ringL
  rw [ins_run]
  simp

def ringB (nodes : List Int) (v : Int) : List Pt := if nodesOkB nodes = true ∧ btw v 1 6 = true then ringL (ptsOf nodes v.toNat) else []

set_option maxRecDepth 100000 in
theorem ringB_yes {nodes : List Int} {v : Int} (h : nodesOkB nodes = true) (h' : btw v 1 6 = true) : ringB nodes v = ringL (ptsOf nodes v.toNat) := by
  unfold ringB
  rw [if_pos ⟨h, h'⟩]

set_option maxRecDepth 100000 in
theorem ringB_no {nodes : List Int} {v : Int} (h : nodesOkB nodes = false) : ringB nodes v = [] := by
  unfold ringB
  rw [if_neg (fun h' => by rw [h] at h'; cases h'.1)]

set_option maxRecDepth 100000 in
theorem ringB_no' {nodes : List Int} {v : Int} (h : btw v 1 6 = false) : ringB nodes v = [] := by
  unfold ringB
  rw [if_neg (fun h' => by rw [h] at h'; cases h'.2)]

set_option maxRecDepth 100000 in
theorem nodesOk_len {nodes : List Int} (h : nodesOkB nodes = true) : nodes.length ≤ 8 := by
  unfold nodesOkB at h
  simp only [Bool.and_eq_true, decide_eq_true_eq] at h
  exact h.1

set_option maxRecDepth 100000 in
theorem nodesOk_at {nodes : List Int} (h : nodesOkB nodes = true) {i : Nat} (hi : i < nodes.length) : 0 ≤ nodes.getD i 0 ∧ nodes.getD i 0 ≤ 99 := by
  unfold nodesOkB at h
  simp only [Bool.and_eq_true, List.all_eq_true] at h
  have h1 := h.2 i (List.mem_range.2 hi)
  unfold nodeGood at h1
  simp only [Bool.and_eq_true] at h1
  have h2 := h1.1
  unfold btw at h2
  exact of_decide_eq_true h2

end Go.Proofs.YtofejfmfbifphacDoor
