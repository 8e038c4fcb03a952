/- Plain facts on rings and preferred nodes: the points lie in order; without a node the others come in the same order. -/
import Derived.Test.YtofejfmfbifphacDoorRingP
import Derived.Test.YtofejfmfbifphacDoorPreferP
namespace Go.Proofs.YtofejfmfbifphacDoor

def SortedP (ps : List Pt) : Prop := ps.Pairwise fun a b => gtP a b = false

set_option maxRecDepth 100000 in
theorem gtP_iff (a b : Pt) : gtP a b = true ↔ (b.t < a.t ∨ a.t = b.t ∧ b.n < a.n) := by
  unfold gtP
  exact decide_eq_true_iff

set_option maxRecDepth 100000 in
theorem gtP_not (a b : Pt) : gtP a b = false ↔ ¬ (b.t < a.t ∨ a.t = b.t ∧ b.n < a.n) := by
  unfold gtP
  exact decide_eq_false_iff_not

set_option maxRecDepth 100000 in
theorem gtP_trans {a b p : Pt} (h1 : gtP a p = true) (h2 : gtP a b = false) : gtP b p = true := by
  rw [gtP_iff] at h1 ⊢
  rw [gtP_not] at h2
  omega

set_option maxRecDepth 100000 in
theorem gtP_le {a p b : Pt} (h1 : gtP a p = false) (h2 : gtP b p = true) : gtP a b = false := by
  rw [gtP_not] at h1 ⊢
  rw [gtP_iff] at h2
  omega

set_option maxRecDepth 100000 in
theorem gtP_other {b p : Pt} (h : gtP b p = true) : gtP p b = false := by
  rw [gtP_iff] at h
  rw [gtP_not]
  omega

set_option maxRecDepth 100000 in
theorem place_split {A B : List Pt} {p : Pt} (hA : ∀ a ∈ A, gtP a p = false) (hB : ∀ b ∈ B, gtP b p = true) : ∀ j, j ≤ B.length → placeP (A ++ B) p (A.length + j) = A.length
  | 0, _ => by
    cases hl : A.length with
    | zero => rfl
    | succ m =>
      have hm : m < A.length := by omega
      have e : (A ++ B).getD m pz = A[m] := by simp [List.getD, List.getElem?_append_left hm, hm]
      exact placeP_not (by rw [e]; exact hA _ (List.getElem_mem hm))
  | j + 1, hj => by
    have hjb : j < B.length := by omega
    have e : (A ++ B).getD (A.length + j) pz = B[j] := by simp [List.getD, hjb]
    rw [← Nat.add_assoc, placeP_gt (by rw [e]; exact hB _ (List.getElem_mem hjb))]
    exact place_split hA hB j (by omega)

set_option maxRecDepth 100000 in
theorem insP_split {A B : List Pt} {p : Pt} (hA : ∀ a ∈ A, gtP a p = false) (hB : ∀ b ∈ B, gtP b p = true) : insP (A ++ B) p = A ++ p :: B := by
  unfold insP
  rw [List.length_append, place_split hA hB B.length (Nat.le_refl _)]
  unfold putAt
  simp

set_option maxRecDepth 100000 in
theorem sorted_split (p : Pt) : ∀ out : List Pt, SortedP out → ∃ A B, out = A ++ B ∧ (∀ a ∈ A, gtP a p = false) ∧ ∀ b ∈ B, gtP b p = true
  | [], _ => ⟨[], [], rfl, by simp, by simp⟩
  | a :: r, h => by
    have h' := List.pairwise_cons.1 h
    cases hg : gtP a p with
    | true =>
      refine ⟨[], a :: r, rfl, by simp, fun b hb => ?_⟩
      rcases List.mem_cons.1 hb with rfl | hb
      · exact hg
      · exact gtP_trans hg (h'.1 b hb)
    | false =>
      obtain ⟨A, B, e, h1, h2⟩ := sorted_split p r h'.2
      refine ⟨a :: A, B, by rw [e]; rfl, fun x hx => ?_, h2⟩
      rcases List.mem_cons.1 hx with rfl | hx
      · exact hg
      · exact h1 x hx

set_option maxRecDepth 100000 in
theorem insP_sorted {out : List Pt} (h : SortedP out) (p : Pt) : SortedP (insP out p) := by
  obtain ⟨A, B, rfl, hA, hB⟩ := sorted_split p out h
  rw [insP_split hA hB]
  have h' := List.pairwise_append.1 h
  refine List.pairwise_append.2 ⟨h'.1, List.pairwise_cons.2 ⟨fun b hb => gtP_other (hB b hb), h'.2.1⟩, fun a ha b hb => ?_⟩
  rcases List.mem_cons.1 hb with rfl | hb
  · exact hA a ha
  · exact gtP_le (hA a ha) (hB b hb)

set_option maxRecDepth 100000 in
theorem run_sorted : ∀ (pts out : List Pt), SortedP out → SortedP (pts.foldl insP out)
  | [], _, h => h
  | p :: pts, out, h => by
    rw [List.foldl_cons]
    exact run_sorted pts _ (insP_sorted h p)

set_option maxRecDepth 100000 in
theorem ring_sorted (pts : List Pt) : SortedP (ringL pts) := run_sorted pts [] List.Pairwise.nil

set_option maxRecDepth 100000 in
theorem run_filter (q : Pt → Bool) : ∀ (pts out : List Pt), SortedP out → (pts.foldl insP out).filter q = (pts.filter q).foldl insP (out.filter q)
  | [], _, _ => rfl
  | p :: pts, out, h => by
    obtain ⟨A, B, rfl, hA, hB⟩ := sorted_split p out h
    rw [List.foldl_cons, run_filter q pts _ (insP_sorted h p), insP_split hA hB]
    cases hq : q p with
    | true =>
      rw [List.filter_cons_of_pos hq, List.foldl_cons, List.filter_append, List.filter_append, List.filter_cons_of_pos hq, insP_split (fun a ha => hA a (List.mem_filter.1 ha).1) (fun b hb => hB b (List.mem_filter.1 hb).1)]
    | false =>
      rw [List.filter_cons_of_neg (by simp [hq]), List.filter_append, List.filter_append, List.filter_cons_of_neg (by simp [hq])]

set_option maxRecDepth 100000 in
theorem ring_filter (q : Pt → Bool) (pts : List Pt) : (ringL pts).filter q = ringL (pts.filter q) := run_filter q pts [] List.Pairwise.nil

set_option maxRecDepth 100000 in
theorem run_mem (x : Pt) : ∀ (pts out : List Pt), x ∈ pts.foldl insP out ↔ x ∈ out ∨ x ∈ pts
  | [], _ => by simp
  | p :: pts, out => by
    rw [List.foldl_cons, run_mem x pts]
    unfold insP putAt
    have e : x ∈ out ↔ x ∈ out.take (placeP out p out.length) ∨ x ∈ out.drop (placeP out p out.length) := by
      rw [← List.mem_append, List.take_append_drop]
    simp only [List.mem_append, List.mem_cons]
    rw [e]
    constructor
    · rintro ((h | h | h) | h)
      · exact .inl (.inl h)
      · exact .inr (.inl h)
      · exact .inl (.inr h)
      · exact .inr (.inr h)
    · rintro ((h | h) | h | h)
      · exact .inl (.inl h)
      · exact .inl (.inr (.inr h))
      · exact .inl (.inr (.inl h))
      · exact .inr h

set_option maxRecDepth 100000 in
theorem ring_mem (x : Pt) (pts : List Pt) : x ∈ ringL pts ↔ x ∈ pts := by
  unfold ringL
  rw [run_mem]
  simp

set_option maxRecDepth 100000 in
theorem pts_filter (x : Int) (V : Nat) : ∀ nodes : List Int, (ptsOf nodes V).filter (fun p => decide (p.n ≠ x)) = ptsOf (nodes.filter fun z => decide (z ≠ x)) V
  | [] => rfl
  | z :: r => by
    have ih := pts_filter x V r
    unfold ptsOf at ih ⊢
    rw [List.flatMap_cons, List.filter_append, ih]
    by_cases hz : z = x
    · rw [List.filter_cons_of_neg (by simp [hz])]
      have e : ((List.range V).map (pointOf z)).filter (fun p => decide (p.n ≠ x)) = [] := by
        rw [List.filter_eq_nil_iff]
        intro p hp
        obtain ⟨i, _, rfl⟩ := List.mem_map.1 hp
        simp [pointOf, hz]
      rw [e, List.nil_append]
    · rw [List.filter_cons_of_pos (by simp [hz]), List.flatMap_cons]
      have e : ((List.range V).map (pointOf z)).filter (fun p => decide (p.n ≠ x)) = (List.range V).map (pointOf z) := by
        rw [List.filter_eq_self]
        intro p hp
        obtain ⟨i, _, rfl⟩ := List.mem_map.1 hp
        simp [pointOf, hz]
      rw [e]

/-- The ring from the first point that is not ahead of h on, once round. -/
def turnP (ps : List Pt) (h : Int) : List Int := ((ps.filter fun p => decide (h ≤ p.t)) ++ ps.filter fun p => !decide (h ≤ p.t)).map (·.n)

set_option maxRecDepth 100000 in
theorem turn_filter (ps : List Pt) (h x : Int) : turnP (ps.filter fun p => decide (p.n ≠ x)) h = (turnP ps h).filter fun z => decide (z ≠ x) := by
  unfold turnP
  rw [List.filter_map, List.filter_append, List.filter_filter, List.filter_filter, List.filter_filter, List.filter_filter]
  congr 1
  congr 1
  · refine List.filter_congr fun p _ => ?_
    simp only [Function.comp]
    rw [Bool.and_comm]
  · refine List.filter_congr fun p _ => ?_
    simp only [Function.comp]
    rw [Bool.and_comm]

set_option maxRecDepth 100000 in
theorem sorted_t : ∀ {ps : List Pt} (_ : SortedP ps) (h : Int), ps.take (firstS ps h) = ps.filter (fun p => !decide (h ≤ p.t)) ∧ ps.drop (firstS ps h) = ps.filter fun p => decide (h ≤ p.t)
  | [], _, h => ⟨rfl, rfl⟩
  | a :: r, hs, h => by
    have h' := List.pairwise_cons.1 hs
    obtain ⟨i1, i2⟩ := sorted_t h'.2 h
    by_cases ha : h ≤ a.t
    · have e : firstS (a :: r) h = 0 := by
        unfold firstS
        rw [List.findIdx_cons, decide_eq_true ha]
        rfl
      have hall : ∀ b ∈ a :: r, h ≤ b.t := fun b hb => by
        rcases List.mem_cons.1 hb with rfl | hb
        · exact ha
        · have := (gtP_not a b).1 (h'.1 b hb)
          omega
      rw [e]
      constructor
      · rw [List.take_zero]
        symm
        rw [List.filter_eq_nil_iff]
        intro b hb
        simp [hall b hb]
      · rw [List.drop_zero]
        symm
        rw [List.filter_eq_self]
        intro b hb
        simp [hall b hb]
    · have e : firstS (a :: r) h = firstS r h + 1 := by
        unfold firstS
        rw [List.findIdx_cons, decide_eq_false ha]
        rfl
      rw [e, List.take_succ_cons, List.drop_succ_cons, List.filter_cons_of_pos (by simp [ha]), List.filter_cons_of_neg (by simp [ha]), i1, i2]
      exact ⟨rfl, rfl⟩

set_option maxRecDepth 100000 in
theorem seqN_split {ps : List Pt} {f : Nat} (h : f ≤ ps.length) : seqN ps f = (ps.drop f ++ ps.take f).map (·.n) := by
  apply List.ext_getElem
  · simp [seqN]
    omega
  · intro i h1 h2
    have hi : i < ps.length := by simpa [seqN] using h1
    simp only [seqN, List.getElem_map, List.getElem_range]
    by_cases hf : f + i < ps.length
    · rw [Nat.mod_eq_of_lt hf]
      simp [List.getD, hf, List.getElem_append_left (show i < (ps.drop f).length by simp; omega)]
    · have e : (f + i) % ps.length = f + i - ps.length := by
        rw [Nat.mod_eq_sub_mod (by omega), Nat.mod_eq_of_lt (by omega)]
      rw [e, List.getElem_append_right (by simp; omega)]
      have hl : f + i - ps.length < ps.length := by omega
      simp [List.getD, hl]
      congr 2
      omega

set_option maxRecDepth 100000 in
theorem seq_turn {ps : List Pt} (hs : SortedP ps) (h : Int) : seqN ps (firstS ps h) = turnP ps h := by
  rw [seqN_split (firstS_le ps h), (sorted_t hs h).1, (sorted_t hs h).2]
  rfl

def ddStep (out : List Int) (x : Int) : List Int := if x ∈ out then out else out ++ [x]

def ddL (xs : List Int) : List Int := xs.foldl ddStep []

set_option maxRecDepth 100000 in
theorem dd_run (m : Int) : ∀ (xs out : List Int), (out.length : Int) + xs.length < m → xs.foldl (prefStep m) out = xs.foldl ddStep out
  | [], _, _ => rfl
  | x :: xs, out, h => by
    simp only [List.length_cons] at h
    have e : prefStep m out x = ddStep out x := by
      unfold prefStep ddStep
      by_cases hx : x ∈ out
      · rw [if_pos hx, if_neg (fun h' => h'.2 hx)]
      · rw [if_neg hx, if_pos ⟨by omega, hx⟩]
    rw [List.foldl_cons, List.foldl_cons, e]
    refine dd_run m xs _ ?_
    unfold ddStep
    split
    · omega
    · rw [List.length_append]
      simp
      omega

set_option maxRecDepth 100000 in
theorem prefer_dd {xs : List Int} {m : Int} (h : (xs.length : Int) < m) : preferL xs m = ddL xs := dd_run m xs [] (by simpa using h)

set_option maxRecDepth 100000 in
theorem dd_filter (r : Int → Bool) : ∀ (xs out : List Int), (xs.foldl ddStep out).filter r = (xs.filter r).foldl ddStep (out.filter r)
  | [], _ => rfl
  | x :: xs, out => by
    rw [List.foldl_cons, dd_filter r xs]
    cases hr : r x with
    | true =>
      rw [List.filter_cons_of_pos hr, List.foldl_cons]
      congr 1
      unfold ddStep
      by_cases hx : x ∈ out
      · rw [if_pos hx, if_pos (List.mem_filter.2 ⟨hx, hr⟩)]
      · rw [if_neg hx, if_neg (fun h => hx (List.mem_filter.1 h).1), List.filter_append, List.filter_cons_of_pos hr]
        rfl
    | false =>
      rw [List.filter_cons_of_neg (by simp [hr])]
      congr 1
      unfold ddStep
      split
      · rfl
      · rw [List.filter_append, List.filter_cons_of_neg (by simp [hr])]
        simp

set_option maxRecDepth 100000 in
theorem dd_nodup : ∀ (xs out : List Int), out.Nodup → (xs.foldl ddStep out).Nodup
  | [], _, h => h
  | x :: xs, out, h => by
    rw [List.foldl_cons]
    refine dd_nodup xs _ ?_
    unfold ddStep
    split
    · exact h
    · rename_i hx
      rw [List.nodup_append]
      refine ⟨h, by simp, fun a ha b hb => ?_⟩
      rw [List.mem_singleton] at hb
      subst hb
      intro e
      exact hx (e ▸ ha)

set_option maxRecDepth 100000 in
theorem dd_mem (z : Int) : ∀ (xs out : List Int), z ∈ xs.foldl ddStep out ↔ z ∈ out ∨ z ∈ xs
  | [], _ => by simp
  | x :: xs, out => by
    rw [List.foldl_cons, dd_mem z xs]
    have e : z ∈ ddStep out x ↔ z ∈ out ∨ z = x := by
      unfold ddStep
      split
      · rename_i hx
        constructor
        · exact .inl
        · rintro (h | rfl)
          · exact h
          · exact hx
      · simp
    rw [e, List.mem_cons, or_assoc]

set_option maxRecDepth 100000 in
theorem nodup_le : ∀ {xs ys : List Int}, xs.Nodup → (∀ z ∈ xs, z ∈ ys) → xs.length ≤ ys.length
  | [], _, _, _ => Nat.zero_le _
  | x :: xs, ys, h, hs => by
    have h' := List.nodup_cons.1 h
    have hx : x ∈ ys := hs x (by simp)
    have ih := nodup_le (ys := ys.erase x) h'.2 (fun z hz => by
      have hne : z ≠ x := fun e => h'.1 (e ▸ hz)
      exact (List.mem_erase_of_ne hne).2 (hs z (by simp [hz])))
    rw [List.length_erase_of_mem hx] at ih
    have : 0 < ys.length := List.length_pos_of_mem hx
    simp
    omega

set_option maxRecDepth 100000 in
theorem prefer_le : ∀ (m : Nat) (xs out : List Int), out.length ≤ m → (xs.foldl (prefStep (m : Int)) out).length ≤ m
  | _, [], _, h => h
  | m, x :: xs, out, h => by
    rw [List.foldl_cons]
    refine prefer_le m xs _ ?_
    unfold prefStep
    split
    · rename_i hc
      have := hc.1
      rw [List.length_append]
      simp
      omega
    · exact h

set_option maxRecDepth 100000 in
theorem prefer_head (m : Int) (x : Int) : ∀ (xs l : List Int), ∃ l', xs.foldl (prefStep m) (x :: l) = x :: l'
  | [], l => ⟨l, rfl⟩
  | y :: xs, l => by
    rw [List.foldl_cons]
    have e : ∃ l', prefStep m (x :: l) y = x :: l' := by
      unfold prefStep
      split
      · exact ⟨l ++ [y], rfl⟩
      · exact ⟨l, rfl⟩
    obtain ⟨l', e⟩ := e
    rw [e]
    exact prefer_head m x xs l'

set_option maxRecDepth 100000 in
theorem prefer_first {x : Int} {xs : List Int} {m : Int} (hm : 0 < m) : ∃ l, preferL (x :: xs) m = x :: l := by
  unfold preferL
  rw [List.foldl_cons]
  have e : prefStep m [] x = [x] := by
    unfold prefStep
    rw [if_pos ⟨by simpa using hm, by simp⟩]
    rfl
  rw [e]
  exact prefer_head m x xs []

end Go.Proofs.YtofejfmfbifphacDoor
