/- Plain facts on the law FnPreferred: what all, less and first are. -/
import Derived.Test.YtofejfmfbifphacDoorPrefPure
namespace Go.Proofs.YtofejfmfbifphacDoor

set_option maxRecDepth 100000 in
theorem getD_at {α : Type} {xs : List α} {i : Nat} (h : i < xs.length) (d : α) : xs.getD i d = xs[i] := by
  rw [List.getD_eq_getElem?_getD, List.getElem?_eq_getElem h]
  rfl

set_option maxRecDepth 100000 in
theorem ok_iff (zs : List Int) : nodesOkB zs = true ↔ zs.length ≤ 8 ∧ (∀ z ∈ zs, btw z 0 99 = true) ∧ zs.Pairwise (· < ·) := by
  unfold nodesOkB nodeGood
  simp only [Bool.and_eq_true, decide_eq_true_eq, List.all_eq_true, List.mem_range]
  constructor
  · rintro ⟨h8, h⟩
    refine ⟨h8, fun z hz => ?_, ?_⟩
    · obtain ⟨i, hi, rfl⟩ := List.getElem_of_mem hz
      have := (h i hi).1
      rwa [getD_at hi] at this
    · rw [List.pairwise_iff_getElem]
      intro i j hi hj hij
      induction j with
      | zero => omega
      | succ j ih =>
        have h1 := (h (j + 1) hj).2
        rcases h1 with h1 | h1
        · omega
        · rw [getD_at hj, getD_at (show j + 1 - 1 < zs.length by omega)] at h1
          simp only [Nat.add_sub_cancel] at h1
          by_cases e : i = j
          · subst e
            exact h1
          · have := ih (by omega) (by omega)
            omega
  · rintro ⟨h8, hm, hp⟩
    refine ⟨h8, fun i hi => ⟨?_, ?_⟩⟩
    · rw [getD_at hi]
      exact hm _ (List.getElem_mem _)
    · by_cases e : i = 0
      · exact .inl e
      · right
        rw [getD_at hi, getD_at (show i - 1 < zs.length by omega)]
        exact (List.pairwise_iff_getElem.1 hp) _ _ _ _ (by omega)

set_option maxRecDepth 100000 in
theorem lt_nodup {zs : List Int} (h : zs.Pairwise (· < ·)) : zs.Nodup := h.imp fun {a b} hab => by omega

set_option maxRecDepth 100000 in
theorem rest_filter {zs : List Int} (hn : zs.Nodup) {k : Nat} (hk : k < zs.length) : zs.take k ++ zs.drop (k + 1) = zs.filter fun z => decide (z ≠ zs.getD k 0) := by
  have e : zs = zs.take k ++ zs[k] :: zs.drop (k + 1) := by simp
  rw [getD_at hk]
  generalize zs[k] = x at *
  generalize zs.take k = A at *
  generalize zs.drop (k + 1) = B at *
  subst e
  rw [List.nodup_append] at hn
  obtain ⟨-, hB, hAB⟩ := hn
  have hB' := (List.nodup_cons.1 hB).1
  rw [List.filter_append, List.filter_cons]
  simp only [ne_eq, not_true_eq_false, decide_false, Bool.false_eq_true, if_false]
  rw [List.filter_eq_self.2, List.filter_eq_self.2]
  · intro b hb
    simp only [decide_eq_true_eq]
    rintro rfl
    exact hB' hb
  · intro a ha
    simp only [decide_eq_true_eq]
    exact hAB a ha x (List.mem_cons_self ..)

set_option maxRecDepth 100000 in
theorem ringB_parts {zs : List Int} {v : Int} (h : 0 < (ringB zs v).length) : nodesOkB zs = true ∧ btw v 1 6 = true ∧ ringB zs v = ringL (ptsOf zs v.toNat) := by
  unfold ringB at h ⊢
  split at h
  · rename_i hh
    exact ⟨hh.1, hh.2, by rw [if_pos hh]⟩
  · simp at h

set_option maxRecDepth 100000 in
theorem ringB_sorted (zs : List Int) (v : Int) : SortedP (ringB zs v) := by
  unfold ringB
  split
  · exact ring_sorted _
  · exact List.Pairwise.nil

set_option maxRecDepth 100000 in
theorem ring_order (zs : List Int) (v : Int) {i : Nat} (h0 : 0 < i) (hi : i < (ringB zs v).length) : ((ringB zs v).getD (i - 1) pz).t ≤ ((ringB zs v).getD i pz).t := by
  have h := (List.pairwise_iff_getElem.1 (ringB_sorted zs v)) (i - 1) i (by omega) hi (by omega)
  rw [getD_at hi, getD_at (show i - 1 < (ringB zs v).length by omega)]
  rw [gtP_not] at h
  omega

set_option maxRecDepth 100000 in
theorem pts_has (zs : List Int) {V : Nat} (hV : 1 ≤ V) (z : Int) : (∃ p ∈ ptsOf zs V, p.n = z) ↔ z ∈ zs := by
  unfold ptsOf
  constructor
  · rintro ⟨p, hp, rfl⟩
    rw [List.mem_flatMap] at hp
    obtain ⟨y, hy, hp⟩ := hp
    rw [List.mem_map] at hp
    obtain ⟨i, -, rfl⟩ := hp
    exact hy
  · intro hz
    exact ⟨pointOf z 0, List.mem_flatMap.2 ⟨z, hz, List.mem_map.2 ⟨0, List.mem_range.2 (by omega), rfl⟩⟩, rfl⟩

set_option maxRecDepth 100000 in
theorem turn_mem (ps : List Pt) (h z : Int) : z ∈ turnP ps h ↔ ∃ p ∈ ps, p.n = z := by
  unfold turnP
  simp only [List.mem_map, List.mem_append, List.mem_filter]
  constructor
  · rintro ⟨p, hp | hp, rfl⟩
    · exact ⟨p, hp.1, rfl⟩
    · exact ⟨p, hp.1, rfl⟩
  · rintro ⟨p, hp, rfl⟩
    by_cases e : h ≤ p.t
    · exact ⟨p, .inl ⟨hp, by simpa using e⟩, rfl⟩
    · exact ⟨p, .inr ⟨hp, by simpa using e⟩, rfl⟩

/-- The nodes that are preferred, m at most. -/
def prefB (ps : List Pt) (h m : Int) : List Int := preferL (seqN ps (firstS ps h)) m

set_option maxRecDepth 100000 in
theorem pref_all {ps : List Pt} (hs : SortedP ps) (hl : ps.length ≤ 48) (h : Int) : prefB ps h 99 = ddL (turnP ps h) := by
  unfold prefB
  rw [prefer_dd (by rw [seqN_len]; omega), seq_turn hs]

set_option maxRecDepth 100000 in
theorem all_mem {zs : List Int} {v : Int} (hr : 0 < (ringB zs v).length) (hl : (ringB zs v).length ≤ 48) (h z : Int) : z ∈ prefB (ringB zs v) h 99 ↔ z ∈ zs := by
  obtain ⟨-, hv, e⟩ := ringB_parts hr
  rw [pref_all (ringB_sorted _ _) hl, ddL, dd_mem, turn_mem, e]
  have hV : 1 ≤ v.toNat := by unfold btw at hv; simp at hv; omega
  rw [← pts_has zs hV z]
  simp [ring_mem]

set_option maxRecDepth 100000 in
theorem all_len {zs : List Int} {v : Int} (hr : 0 < (ringB zs v).length) (hl : (ringB zs v).length ≤ 48) (h : Int) : (prefB (ringB zs v) h 99).length = zs.length := by
  obtain ⟨hok, -, -⟩ := ringB_parts hr
  have hz := lt_nodup ((ok_iff zs).1 hok).2.2
  have hn : (prefB (ringB zs v) h 99).Nodup := by rw [pref_all (ringB_sorted _ _) hl]; exact dd_nodup _ _ List.nodup_nil
  have h1 := nodup_le hn fun z hz => (all_mem hr hl h z).1 hz
  have h2 := nodup_le hz fun z hz => (all_mem hr hl h z).2 hz
  omega

set_option maxRecDepth 100000 in
theorem less_is {zs : List Int} {v : Int} (hr : 0 < (ringB zs v).length) (hl : (ringB zs v).length ≤ 48) (h : Int) {k : Nat} (hk : k < zs.length) (hl' : (ringB (zs.take k ++ zs.drop (k + 1)) v).length ≤ 48) :
    prefB (ringB (zs.take k ++ zs.drop (k + 1)) v) h 99 = (prefB (ringB zs v) h 99).filter fun z => decide (z ≠ zs.getD k 0) := by
  obtain ⟨hok, hv, e⟩ := ringB_parts hr
  obtain ⟨h8, hm, hp⟩ := (ok_iff zs).1 hok
  rw [pref_all (ringB_sorted _ _) hl, pref_all (ringB_sorted _ _) hl']
  rw [rest_filter (lt_nodup hp) hk] at hl' ⊢
  have hok' : nodesOkB (zs.filter fun z => decide (z ≠ zs.getD k 0)) = true :=
    (ok_iff _).2 ⟨by have := List.length_filter_le (fun z => decide (z ≠ zs.getD k 0)) zs; omega, fun z hz => hm z (List.mem_filter.1 hz).1, hp.filter _⟩
  rw [ringB_yes hok' hv, e, ← pts_filter, ← ring_filter, turn_filter]
  unfold ddL
  rw [dd_filter]
  rfl

set_option maxRecDepth 100000 in
theorem first_is {ps : List Pt} (hr : 0 < ps.length) (h : Int) : (prefB ps h 2).length ≤ 2 ∧ 0 < (prefB ps h 2).length ∧ (prefB ps h 2).getD 0 0 = (prefB ps h 99).getD 0 0 := by
  unfold prefB
  have hl : 0 < (seqN ps (firstS ps h)).length := by rw [seqN_len]; exact hr
  refine ⟨prefer_le 2 _ [] (by simp), ?_⟩
  generalize seqN ps (firstS ps h) = xs at *
  cases xs with
  | nil => simp at hl
  | cons x xs =>
    obtain ⟨l, e⟩ := prefer_first (x := x) (xs := xs) (m := 2) (by omega)
    obtain ⟨l', e'⟩ := prefer_first (x := x) (xs := xs) (m := 99) (by omega)
    rw [e, e']
    exact ⟨by simp, rfl⟩

set_option maxRecDepth 100000 in
theorem ring_node {zs : List Int} {v : Int} {p : Pt} (hp : p ∈ ringB zs v) : 0 ≤ p.n ∧ p.n ≤ 99 ∧ p.n ∈ zs := by
  have hpos : 0 < (ringB zs v).length := List.length_pos_of_mem hp
  obtain ⟨hok, hv, e⟩ := ringB_parts hpos
  have hV : 1 ≤ v.toNat := by unfold btw at hv; simp at hv; omega
  rw [e, ring_mem] at hp
  have hz := (pts_has zs hV p.n).1 ⟨p, hp, rfl⟩
  have hb := ((ok_iff zs).1 hok).2.1 _ hz
  unfold btw at hb
  simp at hb
  exact ⟨hb.1, hb.2, hz⟩

set_option maxRecDepth 100000 in
theorem ring_at {zs : List Int} {v : Int} {i : Nat} (hi : i < (ringB zs v).length) : 0 ≤ ((ringB zs v).getD i pz).n ∧ ((ringB zs v).getD i pz).n ≤ 99 ∧ ((ringB zs v).getD i pz).n ∈ zs := by
  rw [getD_at hi]
  exact ring_node (List.getElem_mem _)

set_option maxRecDepth 100000 in
theorem pref_none {ps : List Pt} (h : ps.length = 0) (x m : Int) : prefB ps x m = [] := by
  obtain rfl := List.length_eq_zero_iff.1 h
  rfl

/-- How many of the first i are not x. -/
def cnt (x : Int) (xs : List Int) (i : Nat) : Nat := ((xs.take i).filter fun z => decide (z ≠ x)).length

set_option maxRecDepth 100000 in
theorem cnt_zero (x : Int) (xs : List Int) : cnt x xs 0 = 0 := by simp [cnt]

set_option maxRecDepth 100000 in
theorem cnt_le (x : Int) (xs : List Int) (i : Nat) : cnt x xs i ≤ i := by
  have h1 := List.length_filter_le (fun z => decide (z ≠ x)) (xs.take i)
  have h2 := List.length_take_le i xs
  unfold cnt
  omega

set_option maxRecDepth 100000 in
theorem cnt_skip {x : Int} {xs : List Int} {i : Nat} (hi : i < xs.length) (h : xs.getD i 0 = x) : cnt x xs (i + 1) = cnt x xs i := by
  rw [getD_at hi] at h
  unfold cnt
  rw [List.take_succ_eq_append_getElem hi, List.filter_append]
  simp [h]

set_option maxRecDepth 100000 in
theorem cnt_next {x : Int} {xs : List Int} {i : Nat} (hi : i < xs.length) (h : xs.getD i 0 ≠ x) : cnt x xs (i + 1) = cnt x xs i + 1 ∧ cnt x xs i < (xs.filter fun z => decide (z ≠ x)).length ∧ (xs.filter fun z => decide (z ≠ x)).getD (cnt x xs i) 0 = xs.getD i 0 := by
  rw [getD_at hi] at h ⊢
  have e : xs = xs.take i ++ xs[i] :: xs.drop (i + 1) := by simp
  have hf : xs.filter (fun z => decide (z ≠ x)) = (xs.take i).filter (fun z => decide (z ≠ x)) ++ xs[i] :: (xs.drop (i + 1)).filter fun z => decide (z ≠ x) := by
    conv => lhs; rw [e]
    rw [List.filter_append, List.filter_cons, if_pos (by simpa using h)]
  refine ⟨?_, ?_, ?_⟩
  · unfold cnt
    rw [List.take_succ_eq_append_getElem hi, List.filter_append]
    simp [h]
  · rw [hf]
    simp [cnt]
  · rw [hf]
    simp [cnt]

set_option maxRecDepth 100000 in
theorem cnt_all (x : Int) (xs : List Int) : cnt x xs xs.length = (xs.filter fun z => decide (z ≠ x)).length := by simp [cnt]

end Go.Proofs.YtofejfmfbifphacDoor
