/- Plain facts on the ring: where a key begins, the nodes from there on, each once. -/
import Derived.Test.YtofejfmfbifphacDoorPts
import Derived.Test.YtofejfmfbifphacDoorHash
namespace Go.Proofs.YtofejfmfbifphacDoor

def firstS (ps : List Pt) (h : Int) : Nat := ps.findIdx (fun p => decide (h ≤ p.t))

set_option maxRecDepth 100000 in
theorem firstS_is : ∀ (ps : List Pt) (h : Int) (k : Nat), k ≤ ps.length → (∀ j, j < k → (ps.getD j pz).t < h) → (k < ps.length → h ≤ (ps.getD k pz).t) → firstS ps h = k
  | [], h, k, hk, _, _ => by
    have : k = 0 := by simpa using hk
    subst this
    rfl
  | p :: ps, h, 0, _, _, hat => by
    have h0 : h ≤ p.t := hat (by simp)
    unfold firstS
    rw [List.findIdx_cons, decide_eq_true h0]
    rfl
  | p :: ps, h, k + 1, hk, hlt, hat => by
    have h0 : p.t < h := hlt 0 (by omega)
    have ih := firstS_is ps h k (by simpa using hk) (fun j hj => by simpa using hlt (j + 1) (by omega)) (fun hk' => by simpa using hat (by simpa using hk'))
    unfold firstS at ih ⊢
    rw [List.findIdx_cons, decide_eq_false (by omega), ih]
    rfl

set_option maxRecDepth 100000 in
theorem firstS_le (ps : List Pt) (h : Int) : firstS ps h ≤ ps.length := List.findIdx_le_length

def placeI (ps : List Pt) (h : Int) : Nat := if firstS ps h < ps.length then firstS ps h else 0

def seqN (ps : List Pt) (st : Nat) : List Int := (List.range ps.length).map fun i => (ps.getD ((st + i) % ps.length) pz).n

set_option maxRecDepth 100000 in
theorem seqN_len (ps : List Pt) (st : Nat) : (seqN ps st).length = ps.length := by simp [seqN]

set_option maxRecDepth 100000 in
theorem seqN_at {ps : List Pt} {st i : Nat} (h : i < ps.length) : (seqN ps st).getD i 0 = (ps.getD ((st + i) % ps.length) pz).n := by
  simp [seqN, List.getD, h]

set_option maxRecDepth 100000 in
theorem seqN_place (ps : List Pt) (h : Int) : seqN ps (placeI ps h) = seqN ps (firstS ps h) := by
  unfold placeI
  split
  · rfl
  · have e : firstS ps h = ps.length := by
      have := firstS_le ps h
      omega
    unfold seqN
    refine List.map_congr_left fun i hi => ?_
    rw [e, Nat.zero_add, Nat.add_mod_left]

def prefStep (m : Int) (out : List Int) (x : Int) : List Int := if (out.length : Int) < m ∧ x ∉ out then out ++ [x] else out

def preferL (xs : List Int) (m : Int) : List Int := xs.foldl (prefStep m) []

set_option maxRecDepth 100000 in
theorem prefer_full {m : Int} : ∀ (xs out : List Int), m ≤ (out.length : Int) → xs.foldl (prefStep m) out = out
  | [], _, _ => rfl
  | x :: xs, out, h => by
    rw [List.foldl_cons, show prefStep m out x = out by unfold prefStep; rw [if_neg (fun h' => by omega)]]
    exact prefer_full xs out h

set_option maxRecDepth 100000 in
theorem prefer_next (xs : List Int) (m : Int) {k : Nat} (h : k < xs.length) : preferL (xs.take (k + 1)) m = prefStep m (preferL (xs.take k) m) (xs.getD k 0) := by
  unfold preferL
  rw [List.take_succ_eq_append_getElem h, List.foldl_append]
  simp [List.getD, h]

set_option maxRecDepth 100000 in
theorem prefer_stop (xs : List Int) (m : Int) (k : Nat) (h : m ≤ ((preferL (xs.take k) m).length : Int)) : preferL xs m = preferL (xs.take k) m := by
  have e : preferL xs m = (xs.drop k).foldl (prefStep m) (preferL (xs.take k) m) := by
    unfold preferL
    rw [← List.foldl_append, List.take_append_drop]
  rw [e]
  exact prefer_full _ _ h

set_option maxRecDepth 100000 in
theorem prefStep_len (m : Int) (out : List Int) (x : Int) : (prefStep m out x).length ≤ out.length + 1 := by
  unfold prefStep
  split <;> simp

set_option maxRecDepth 100000 in
theorem prefer_len (xs : List Int) (m : Int) : ∀ k, (preferL (xs.take k) m).length ≤ k
  | 0 => by simp [preferL]
  | k + 1 => by
    by_cases h : k < xs.length
    · rw [prefer_next xs m h]
      have h1 := prefStep_len m (preferL (xs.take k) m) (xs.getD k 0)
      have h2 := prefer_len xs m k
      omega
    · have e : xs.take (k + 1) = xs.take k := by rw [List.take_of_length_le (by omega), List.take_of_length_le (by omega)]
      rw [e]
      have := prefer_len xs m k
      omega

set_option maxRecDepth 100000 in
theorem prefStep_in {m : Int} {out : List Int} {x : Int} (h : x ∈ out) : prefStep m out x = out := by
  unfold prefStep
  rw [if_neg (fun h' => h'.2 h)]

set_option maxRecDepth 100000 in
theorem prefStep_out {m : Int} {out : List Int} {x : Int} (h0 : (out.length : Int) < m) (h : x ∉ out) : prefStep m out x = out ++ [x] := by
  unfold prefStep
  rw [if_pos ⟨h0, h⟩]

set_option maxRecDepth 100000 in
theorem mem_take_next {zs : List Int} {q : Nat} (h : q < zs.length) (x : Int) : x ∈ zs.take (q + 1) ↔ x ∈ zs.take q ∨ zs.getD q 0 = x := by
  rw [List.take_succ_eq_append_getElem h, List.mem_append, List.mem_singleton]
  simp [List.getD, h, eq_comm]

set_option maxRecDepth 100000 in
theorem tmod_nat (a b : Nat) : Int.tmod ((a : Nat) : Int) (b : Int) = ((a % b : Nat) : Int) := rfl

end Go.Proofs.YtofejfmfbifphacDoor
