import Derived.Test.YtpejdhbajejmoaaPack7
import Derived.Deep.DeepCutAuto
import Derived.Lib.Hide
import Derived.Test.YtpejdhbajejmoaaPack2
import Derived.Test.YtpejdhbajejmoaaPack6
import Derived.Test.YtpejdhbajejmoaaPack5
import Derived.Test.YtpejdhbajejmoaaPack1
import Derived.Laws.Append
/- The draw of the law on posts. -/
namespace Go.Proofs.Ytpejdhbajejmoaa
open Go.ChangeShapes Go.WideShapes Go.ChangeAt Go.RowKit Go.Joins
attribute [local go_sem ↓] Go.wp_at_zero Go.wp_at_succ

set_option maxRecDepth 100000 in
set_option maxHeartbeats 2000000 in
theorem drawInOrder_any (a : Option Addr) (len cap : Nat) (w : World) (h : Bytes w a len) (hl : len ≤ 1048576) :
    Calls Try.prog 5 #[.slice a len cap] w fun e w' => ∃ x cp ps, e = .returned (.slice x ps.length cp) ∧ ps.length ≤ 12 ∧ ps.length ≤ cp ∧ (∀ i, i < ps.length → (ps.getD i pz).xs.length ≤ 5) ∧ IsPs w' x ps ∧ Below w.heap.size w w' := by
  have HY := Lib.hid h
  clear h
  go_enter Try.func5, Try.ntmps5
  go_wp2_with fail
  refine (open_any a len cap w HY.out hl).mono ?_
  rintro e w1 ⟨rfl, hc1, hb1⟩
  have HC1 := Lib.hid hc1
  have HB1 := Lib.hid hb1
  have hle : w.heap.size ≤ w1.heap.size := hb1.size
  clear hc1 hb1 HY
  go_wp2_with fail
  refine (posts_any _ a len cap 0 _ (by omega) HC1.out).mono ?_
  rintro e w2 ⟨x, cp, ps, rfl, h1, h0, h2, h3, h4, h5⟩
  have HB2 := Lib.hid (Hole.below HB1.out h5 (Nat.le_refl _) hle)
  have H3 := Lib.hid h3
  clear h3 h4 h5 HB1 HC1
  go_wp2
  go_ret
  exact ⟨x, cp, ps, rfl, h1, h0, h2, H3.out, HB2.out⟩

end Go.Proofs.Ytpejdhbajejmoaa

/- InOrder as plain facts: the course of the posts. -/
namespace Go.Proofs.Ytpejdhbajejmoaa
open Go.ChangeShapes Go.WideShapes Go.ChangeAt Go.RowKit Go.Joins

/-- Whether the post may come to one who has seen v. -/
def comesB (v : List Int) (p : Pst) : Bool := mayB v p.xs p.f

/-- The first place that may come. -/
def firstC (v : List Int) (ps : List Pst) : Nat := ps.findIdx (comesB v)

def z4 : List Int := [0, 0, 0, 0]

/-- The places that came in n rounds, and the vector behind them. -/
def runC (ps : List Pst) : Nat → List Nat × List Int
  | 0 => ([], z4)
  | n + 1 => ((runC ps n).1 ++ [firstC (runC ps n).2 ps], joinV (runC ps n).2 (ps.getD (firstC (runC ps n).2 ps) pz).xs)

/-- In each of the first n rounds one came. -/
def GoC (ps : List Pst) (n : Nat) : Prop := ∀ m, m < n → firstC (runC ps m).2 ps < ps.length

theorem goC_zero (ps : List Pst) : GoC ps 0 := fun m h => absurd h (Nat.not_lt_zero m)

theorem GoC.more {ps : List Pst} {n : Nat} (h : GoC ps n) (hf : firstC (runC ps n).2 ps < ps.length) : GoC ps (n + 1) := fun m hm => by
  by_cases e : m = n
  · rw [e]
    exact hf
  · exact h m (by omega)

theorem GoC.less {ps : List Pst} {n m : Nat} (h : GoC ps n) (hm : m ≤ n) : GoC ps m := fun k hk => h k (by omega)

theorem firstC_comes {v : List Int} {ps : List Pst} (h : firstC v ps < ps.length) : comesB v (ps.getD (firstC v ps) pz) = true := by
  have := List.findIdx_getElem (p := comesB v) (xs := ps) (w := h)
  rw [show ps.getD (firstC v ps) pz = ps[firstC v ps] by simp [List.getD, h]]
  exact this

theorem firstC_before {v : List Int} {ps : List Pst} {i : Nat} (h : i < firstC v ps) (hi : i < ps.length) : comesB v (ps.getD i pz) = false := by
  have := List.not_of_lt_findIdx (p := comesB v) (xs := ps) h
  rw [show ps.getD i pz = ps[i] by simp [List.getD, hi]]
  simpa using this

theorem firstC_le (v : List Int) (ps : List Pst) : firstC v ps ≤ ps.length := List.findIdx_le_length

theorem firstC_is {v : List Int} {ps : List Pst} {k : Nat} (hk : k < ps.length) (hc : comesB v (ps.getD k pz) = true) (hb : ∀ i, i < k → comesB v (ps.getD i pz) = false) : firstC v ps = k := by
  have hle : firstC v ps ≤ k := by
    by_cases h : firstC v ps ≤ k
    · exact h
    · have := firstC_before (v := v) (ps := ps) (i := k) (by omega) hk
      rw [hc] at this
      cases this
  by_cases h : firstC v ps < k
  · have := hb _ h
    rw [firstC_comes (by omega)] at this
    cases this
  · omega

theorem firstC_none {v : List Int} {ps : List Pst} (hb : ∀ i, i < ps.length → comesB v (ps.getD i pz) = false) : firstC v ps = ps.length := by
  by_cases h : firstC v ps < ps.length
  · have := hb _ h
    rw [firstC_comes h] at this
    cases this
  · have := firstC_le v ps
    omega

/-- Two courses that are at their end are one. -/
theorem goC_end {ps : List Pst} {n m : Nat} (h : GoC ps n) (h' : GoC ps m) (e : firstC (runC ps n).2 ps = ps.length) (e' : firstC (runC ps m).2 ps = ps.length) : n = m := by
  by_cases h1 : n < m
  · have := h' n h1
    omega
  · by_cases h2 : m < n
    · have := h m h2
      omega
    · omega

theorem mayAt_four (xs ys : List Int) (q : Nat) : mayAt xs ys q 4 = (mayOne xs ys q 0 && mayOne xs ys q 1 && mayOne xs ys q 2 && mayOne xs ys q 3) := by
  simp only [mayAt_next, show mayAt xs ys q 0 = true from rfl, Bool.true_and]

def sum4 (v : List Int) : Int := v.getD 0 0 + v.getD 1 0 + v.getD 2 0 + v.getD 3 0

/-- What one coming does to the vector. -/
theorem comes_join {v : List Int} {p : Pst} (h : comesB v p = true) :
    vecB v = true ∧ vecB p.xs = true ∧ vecB (joinV v p.xs) = true ∧ (joinV v p.xs).length = 4 ∧ sum4 (joinV v p.xs) = sum4 v + 1 ∧ (0 ≤ p.f ∧ p.f ≤ 3) ∧
      p.xs.getD p.f.toNat 0 = v.getD p.f.toNat 0 + 1 ∧ (joinV v p.xs).getD p.f.toNat 0 = p.xs.getD p.f.toNat 0 ∧ ∀ j, j < 4 → v.getD j 0 ≤ (joinV v p.xs).getD j 0 := by
  unfold comesB mayB at h
  simp only [Bool.and_eq_true] at h
  obtain ⟨hv, hx, hs, hm⟩ := h
  obtain ⟨x0, x1, x2, x3, e, hx0, hx1, hx2, hx3⟩ := vecB_four hv
  obtain ⟨y0, y1, y2, y3, e', hy0, hy1, hy2, hy3⟩ := vecB_four hx
  have hj := joinV_good hv hx
  rw [e'] at hm hj ⊢
  rw [e] at hm hj ⊢
  have hf : 0 ≤ p.f ∧ p.f ≤ 3 := by
    unfold btw at hs
    simpa using hs
  have hq : p.f.toNat = 0 ∨ p.f.toNat = 1 ∨ p.f.toNat = 2 ∨ p.f.toNat = 3 := by omega
  rw [hj]
  rw [mayAt_four] at hm
  simp only [Bool.and_eq_true, mayOne] at hm
  obtain ⟨⟨⟨m0, m1⟩, m2⟩, m3⟩ := hm
  refine ⟨(vecB_is _ _ _ _).2 ⟨hx0, hx1, hx2, hx3⟩, (vecB_is _ _ _ _).2 ⟨hy0, hy1, hy2, hy3⟩, (vecB_is _ _ _ _).2 ⟨by omega, by omega, by omega, by omega⟩, rfl, ?_, hf, ?_, ?_, ?_⟩
  · rcases hq with q | q | q | q <;> rw [q] at m0 m1 m2 m3 <;> simp at m0 m1 m2 m3 <;> simp [sum4] <;> omega
  · rcases hq with q | q | q | q <;> rw [q] at m0 m1 m2 m3 ⊢ <;> simp at m0 m1 m2 m3 <;> simp <;> omega
  · rcases hq with q | q | q | q <;> rw [q] at m0 m1 m2 m3 ⊢ <;> simp at m0 m1 m2 m3 <;> simp <;> omega
  · intro j hj'
    have : j = 0 ∨ j = 1 ∨ j = 2 ∨ j = 3 := by omega
    rcases this with rfl | rfl | rfl | rfl <;> simp <;> omega

theorem runC_vec {ps : List Pst} : ∀ {n : Nat}, GoC ps n → vecB (runC ps n).2 = true ∧ sum4 (runC ps n).2 = (n : Int) ∧ (runC ps n).1.length = n
  | 0, _ => ⟨rfl, rfl, rfl⟩
  | n + 1, h => by
    obtain ⟨h1, h2, h3⟩ := runC_vec (h.less (Nat.le_succ n))
    obtain ⟨-, -, c3, -, c5, -⟩ := comes_join (firstC_comes (h n (Nat.lt_succ_self n)))
    refine ⟨c3, ?_, by simp [runC, h3]⟩
    show sum4 (joinV _ _) = _
    rw [c5, h2]
    omega

theorem runC_four {ps : List Pst} {n : Nat} (h : GoC ps n) : (runC ps n).2.length = 4 := by
  obtain ⟨x0, x1, x2, x3, e, -⟩ := vecB_four (runC_vec h).1
  rw [e]
  rfl

theorem GoC.bound {ps : List Pst} {n : Nat} (h : GoC ps n) : n ≤ 4000000 := by
  obtain ⟨h1, h2, -⟩ := runC_vec h
  obtain ⟨x0, x1, x2, x3, e, hx0, hx1, hx2, hx3⟩ := vecB_four h1
  rw [e] at h2
  simp [sum4] at h2
  omega

/-- A place that came: a post of range whose tick is past. -/
theorem came_past {ps : List Pst} : ∀ {n : Nat}, GoC ps n → ∀ i, i ∈ (runC ps n).1 → i < ps.length ∧ vecB (ps.getD i pz).xs = true ∧ (0 ≤ (ps.getD i pz).f ∧ (ps.getD i pz).f ≤ 3) ∧ (ps.getD i pz).xs.getD (ps.getD i pz).f.toNat 0 ≤ (runC ps n).2.getD (ps.getD i pz).f.toNat 0
  | 0, _, i, h => by simp [runC] at h
  | n + 1, hg, i, h => by
    have hc := comes_join (firstC_comes (hg n (Nat.lt_succ_self n)))
    have h' : i ∈ (runC ps n).1 ∨ i = firstC (runC ps n).2 ps := by simpa [runC] using h
    rcases h' with h' | h'
    · obtain ⟨h1, h2, h3, h4⟩ := came_past (hg.less (Nat.le_succ n)) i h'
      refine ⟨h1, h2, h3, Int.le_trans h4 ?_⟩
      exact hc.2.2.2.2.2.2.2.2 _ (by omega)
    · subst h'
      refine ⟨hg n (Nat.lt_succ_self n), hc.2.1, hc.2.2.2.2.2.1, ?_⟩
      show _ ≤ (joinV _ _).getD _ 0
      rw [hc.2.2.2.2.2.2.2.1]
      exact Int.le_refl _

/-- Who came doesn't come again. -/
theorem came_not {ps : List Pst} {n : Nat} (h : GoC ps n) {i : Nat} (hi : i ∈ (runC ps n).1) : comesB (runC ps n).2 (ps.getD i pz) = false := by
  cases hc : comesB (runC ps n).2 (ps.getD i pz)
  · rfl
  · have h1 := (came_past h i hi).2.2.2
    have h2 := (comes_join hc).2.2.2.2.2.2.1
    omega

theorem runC_nodup {ps : List Pst} : ∀ {n : Nat}, GoC ps n → (runC ps n).1.Nodup
  | 0, _ => by simp [runC]
  | n + 1, h => by
    have hn := h.less (Nat.le_succ n)
    show ((runC ps n).1 ++ [_]).Nodup
    rw [List.nodup_append]
    refine ⟨runC_nodup hn, by simp, fun a ha b hb e => ?_⟩
    have hb' : b = firstC (runC ps n).2 ps := by simpa using hb
    have := came_not hn ha
    rw [e, hb', firstC_comes (h n (Nat.lt_succ_self n))] at this
    cases this

/-- The posts that came, in their order. -/
def outC (ps : List Pst) (n : Nat) : List Pst := (runC ps n).1.map fun i => ps.getD i pz

theorem outC_len {ps : List Pst} {n : Nat} (h : GoC ps n) : (outC ps n).length = n := by
  unfold outC
  rw [List.length_map]
  exact (runC_vec h).2.2

theorem outC_next (ps : List Pst) (n : Nat) : outC ps (n + 1) = outC ps n ++ [ps.getD (firstC (runC ps n).2 ps) pz] := by
  simp [outC, runC]

theorem outC_four {ps : List Pst} {n : Nat} (h : GoC ps n) : ∀ x ∈ outC ps n, x.xs.length = 4 := by
  intro x hx
  obtain ⟨i, hi, rfl⟩ := List.mem_map.1 hx
  obtain ⟨x0, x1, x2, x3, e, -⟩ := vecB_four (came_past h i hi).2.1
  rw [e]
  rfl

theorem bulkP_append (xs ys : List Pst) : bulkP (xs ++ ys) = bulkP xs + bulkP ys := by
  induction xs with
  | nil => simp [bulkP]
  | cons x r ih => simp [bulkP, ih]; omega

theorem bulk_places (ps : List Pst) : ∀ (tr : List Nat) (rs : List Nat), tr.Nodup → (∀ i ∈ tr, i ∈ rs) → bulkP (tr.map fun i => ps.getD i pz) ≤ bulkP (rs.map fun i => ps.getD i pz) ∧ tr.length ≤ rs.length
  | [], rs, _, _ => ⟨by simp [bulkP], by simp⟩
  | i :: tr, rs, hn, hm => by
    obtain ⟨l1, l2, e⟩ := List.append_of_mem (hm i (by simp))
    subst e
    have hn' := List.nodup_cons.1 hn
    have h := bulk_places ps tr (l1 ++ l2) hn'.2 fun j hj => by
      have hj1 := hm j (by simp [hj])
      have hne : j ≠ i := fun e => hn'.1 (e ▸ hj)
      simp [hne] at hj1
      simpa using hj1
    simp only [List.map_append, List.map_cons, bulkP_append, bulkP, List.length_append, List.length_cons] at h ⊢
    omega

theorem range_posts (ps : List Pst) : (List.range ps.length).map (fun i => ps.getD i pz) = ps := by
  apply List.ext_getElem (by simp)
  intro i h1 h2
  simp [List.getD, h2]

theorem outC_bulk {ps : List Pst} {n : Nat} (h : GoC ps n) : bulkP (outC ps n) ≤ bulkP ps ∧ n ≤ ps.length := by
  have := bulk_places ps (runC ps n).1 (List.range ps.length) (runC_nodup h) fun i hi => List.mem_range.2 (came_past h i hi).1
  rw [range_posts, List.length_range, (runC_vec h).2.2] at this
  exact this

/-- Looking from the end: the least place from j on that comes. -/
def FromC (v : List Int) (ps : List Pst) (j : Nat) (k : Int) : Prop :=
  (k = -1 ∧ ∀ i, j ≤ i → i < ps.length → comesB v (ps.getD i pz) = false) ∨ (∃ q : Nat, k = (q : Int) ∧ j ≤ q ∧ q < ps.length ∧ comesB v (ps.getD q pz) = true ∧ ∀ i, j ≤ i → i < q → comesB v (ps.getD i pz) = false)

theorem fromC_start (v : List Int) (ps : List Pst) : FromC v ps ps.length (-1) := .inl ⟨rfl, fun i h1 h2 => by omega⟩

theorem FromC.yes {v : List Int} {ps : List Pst} {j : Nat} (hj : j < ps.length) (hc : comesB v (ps.getD j pz) = true) : FromC v ps j (j : Int) := .inr ⟨j, rfl, Nat.le_refl _, hj, hc, fun i h1 h2 => by omega⟩

theorem FromC.no {v : List Int} {ps : List Pst} {j : Nat} {k : Int} (h : FromC v ps (j + 1) k) (hc : comesB v (ps.getD j pz) = false) : FromC v ps j k := by
  have step : ∀ {i : Nat}, j ≤ i → ¬ j + 1 ≤ i → comesB v (ps.getD i pz) = false := fun {i} h1 h2 => by
    rw [show i = j by omega]
    exact hc
  rcases h with ⟨h1, h2⟩ | ⟨q, h1, h2, h3, h4, h5⟩
  · exact .inl ⟨h1, fun i a b => if e : j + 1 ≤ i then h2 i e b else step a e⟩
  · exact .inr ⟨q, h1, by omega, h3, h4, fun i a b => if e : j + 1 ≤ i then h5 i e b else step a e⟩

theorem FromC.end_ {v : List Int} {ps : List Pst} {k : Int} (h : FromC v ps 0 k) : (k = -1 ∧ firstC v ps = ps.length) ∨ (k = (firstC v ps : Int) ∧ firstC v ps < ps.length) := by
  rcases h with ⟨h1, h2⟩ | ⟨q, h1, -, h3, h4, h5⟩
  · exact .inl ⟨h1, firstC_none fun i hi => h2 i (Nat.zero_le _) hi⟩
  · have := firstC_is h3 h4 fun i hi => h5 i (Nat.zero_le _) hi
    rw [this]
    exact .inr ⟨h1, h3⟩

end Go.Proofs.Ytpejdhbajejmoaa

/- Posts, in whatever order they are there: the same ones come, as plain facts. -/
namespace Go.Proofs.Ytpejdhbajejmoaa

theorem comes_iff {v : List Int} {p : Pst} (hv : vecB v = true) (hx : vecB p.xs = true) (hf : 0 ≤ p.f ∧ p.f ≤ 3) :
    comesB v p = true ↔ p.xs.getD p.f.toNat 0 = v.getD p.f.toNat 0 + 1 ∧ ∀ j, j < 4 → j ≠ p.f.toNat → p.xs.getD j 0 ≤ v.getD j 0 := by
  have hs : btw p.f 0 3 = true := by
    unfold btw
    simp
    omega
  unfold comesB
  rw [mayB_at hv hx hs, mayAt_four]
  have hq : p.f.toNat = 0 ∨ p.f.toNat = 1 ∨ p.f.toNat = 2 ∨ p.f.toNat = 3 := by omega
  simp only [Bool.and_eq_true, mayOne]
  constructor
  · rintro ⟨⟨⟨m0, m1⟩, m2⟩, m3⟩
    refine ⟨?_, fun j hj hn => ?_⟩
    · rcases hq with q | q | q | q <;> rw [q] at m0 m1 m2 m3 ⊢ <;> simp at m0 m1 m2 m3 ⊢ <;> omega
    · have hj4 : j = 0 ∨ j = 1 ∨ j = 2 ∨ j = 3 := by omega
      rcases hq with q | q | q | q <;> rw [q] at m0 m1 m2 m3 hn <;> rcases hj4 with rfl | rfl | rfl | rfl <;> first | omega | (simp at m0 m1 m2 m3 ⊢; omega)
  · rintro ⟨h1, h2⟩
    have h20 := h2 0 (by omega)
    have h21 := h2 1 (by omega)
    have h22 := h2 2 (by omega)
    have h23 := h2 3 (by omega)
    rcases hq with q | q | q | q <;> rw [q] at h1 h20 h21 h22 h23 ⊢ <;> simp at h1 h20 h21 h22 h23 ⊢ <;> omega

theorem comes_range {v : List Int} {p : Pst} (h : comesB v p = true) : vecB v = true ∧ vecB p.xs = true ∧ (0 ≤ p.f ∧ p.f ≤ 3) := by
  obtain ⟨h1, h2, -, -, -, h3, -⟩ := comes_join h
  exact ⟨h1, h2, h3⟩

/-- Elsewhere one that comes changes nothing. -/
theorem comes_off {v : List Int} {p : Pst} (h : comesB v p = true) {j : Nat} (hj : j < 4) (hn : j ≠ p.f.toNat) : (joinV v p.xs).getD j 0 = v.getD j 0 := by
  obtain ⟨h1, h2, h3, h4, h5, h6, h7, h8, h9⟩ := comes_join h
  have a0 := h9 0 (by omega)
  have a1 := h9 1 (by omega)
  have a2 := h9 2 (by omega)
  have a3 := h9 3 (by omega)
  unfold sum4 at h5
  have hq : p.f.toNat = 0 ∨ p.f.toNat = 1 ∨ p.f.toNat = 2 ∨ p.f.toNat = 3 := by omega
  have hj4 : j = 0 ∨ j = 1 ∨ j = 2 ∨ j = 3 := by omega
  rcases hq with q | q | q | q <;> rw [q] at h7 h8 hn <;> rcases hj4 with rfl | rfl | rfl | rfl <;> omega

theorem vec_zero {v : List Int} (h : vecB v = true) {j : Nat} (hj : j < 4) : 0 ≤ v.getD j 0 := by
  obtain ⟨x0, x1, x2, x3, rfl, h0, h1, h2, h3⟩ := vecB_four h
  have hj4 : j = 0 ∨ j = 1 ∨ j = 2 ∨ j = 3 := by omega
  rcases hj4 with rfl | rfl | rfl | rfl <;> simp <;> omega

theorem outC_mem {ps : List Pst} {n : Nat} (h : GoC ps n) : ∀ x ∈ outC ps n, x ∈ ps ∧ vecB x.xs = true ∧ (0 ≤ x.f ∧ x.f ≤ 3) ∧ x.xs.getD x.f.toNat 0 ≤ (runC ps n).2.getD x.f.toNat 0 := by
  intro x hx
  obtain ⟨i, hi, rfl⟩ := List.mem_map.1 hx
  obtain ⟨h1, h2, h3, h4⟩ := came_past h i hi
  exact ⟨by simp [List.getD, h1], h2, h3, h4⟩

/-- Of each site each tick so far came. -/
theorem tick_came {ps : List Pst} : ∀ {n : Nat}, GoC ps n → ∀ (q : Nat), q < 4 → ∀ t : Int, 1 ≤ t → t ≤ (runC ps n).2.getD q 0 → ∃ x ∈ outC ps n, x.f = (q : Int) ∧ x.xs.getD q 0 = t
  | 0, _, q, hq, t, h1, h2 => by
    exfalso
    have : (runC ps 0).2.getD q 0 = 0 := by
      have hq4 : q = 0 ∨ q = 1 ∨ q = 2 ∨ q = 3 := by omega
      rcases hq4 with rfl | rfl | rfl | rfl <;> rfl
    omega
  | n + 1, h, q, hq, t, h1, h2 => by
    have hn := h.less (Nat.le_succ n)
    have hc := firstC_comes (h n (Nat.lt_succ_self n))
    have hj := comes_join hc
    rw [outC_next]
    have h2' : t ≤ (joinV (runC ps n).2 (ps.getD (firstC (runC ps n).2 ps) pz).xs).getD q 0 := h2
    generalize ps.getD (firstC (runC ps n).2 ps) pz = x at *
    by_cases hle : t ≤ (runC ps n).2.getD q 0
    · obtain ⟨y, hy, y1, y2⟩ := tick_came hn q hq t h1 hle
      exact ⟨y, List.mem_append.2 (.inl hy), y1, y2⟩
    · have hf : q = x.f.toNat := by
        by_cases e : q = x.f.toNat
        · exact e
        · rw [comes_off hc hq e] at h2'
          omega
      obtain ⟨-, -, -, -, -, j6, j7, j8, -⟩ := hj
      rw [hf, j8, j7] at h2'
      rw [hf] at hle
      exact ⟨x, by simp, by omega, by rw [hf, j7]; omega⟩

/-- No two that may come have one turn. -/
def OneT (ps : List Pst) : Prop := ∀ x ∈ ps, ∀ y ∈ ps, vecB x.xs = true → vecB y.xs = true → (0 ≤ x.f ∧ x.f ≤ 3) → x.f = y.f → x.xs.getD x.f.toNat 0 = y.xs.getD x.f.toNat 0 → x = y

theorem came_all {ps qs : List Pst} (hm : ∀ x, x ∈ qs → x ∈ ps) (hu : OneT ps) {N : Nat} (hN : GoC ps N) (hE : firstC (runC ps N).2 ps = ps.length) : ∀ {m : Nat}, GoC qs m → (∀ x ∈ outC qs m, x ∈ outC ps N) ∧ ∀ j, j < 4 → (runC qs m).2.getD j 0 ≤ (runC ps N).2.getD j 0
  | 0, _ => ⟨fun x hx => by simp [outC, runC] at hx, fun j hj => by
      have : (runC qs 0).2.getD j 0 = 0 := by
        have hj4 : j = 0 ∨ j = 1 ∨ j = 2 ∨ j = 3 := by omega
        rcases hj4 with rfl | rfl | rfl | rfl <;> rfl
      rw [this]
      exact vec_zero (runC_vec hN).1 hj⟩
  | m + 1, h => by
    obtain ⟨ih1, ih2⟩ := came_all hm hu hN hE (h.less (Nat.le_succ m))
    have hlt := h m (Nat.lt_succ_self m)
    have hc := firstC_comes hlt
    have hxq : qs.getD (firstC (runC qs m).2 qs) pz ∈ qs := by simp [List.getD, hlt]
    have e2 : (runC qs (m + 1)).2 = joinV (runC qs m).2 (qs.getD (firstC (runC qs m).2 qs) pz).xs := rfl
    rw [e2, outC_next]
    generalize qs.getD (firstC (runC qs m).2 qs) pz = x at *
    obtain ⟨r1, r2, r3⟩ := comes_range hc
    obtain ⟨c1, c2⟩ := (comes_iff r1 r2 r3).1 hc
    obtain ⟨-, -, -, -, -, -, -, j8, -⟩ := comes_join hc
    have hq4 : x.f.toNat < 4 := by omega
    have hvq := vec_zero r1 hq4
    have hle := ih2 _ hq4
    have hin : x ∈ outC ps N := by
      by_cases hb : x.xs.getD x.f.toNat 0 ≤ (runC ps N).2.getD x.f.toNat 0
      · obtain ⟨y, hy, y1, y2⟩ := tick_came hN x.f.toNat hq4 _ (by omega) hb
        obtain ⟨y3, y4, y5, -⟩ := outC_mem hN y hy
        have : x = y := hu x (hm x hxq) y y3 r2 y4 r3 (by omega) y2.symm
        rw [this]
        exact hy
      · exfalso
        have hco : comesB (runC ps N).2 x = true := (comes_iff (runC_vec hN).1 r2 r3).2 ⟨by omega, fun j hj hn => Int.le_trans (c2 j hj hn) (ih2 j hj)⟩
        obtain ⟨i, hi, hix⟩ := List.getElem_of_mem (hm x hxq)
        have := firstC_before (v := (runC ps N).2) (ps := ps) (i := i) (by rw [hE]; exact hi) hi
        rw [show ps.getD i pz = x by simp [List.getD, hi, hix], hco] at this
        cases this
    refine ⟨fun y hy => ?_, fun j hj => ?_⟩
    · rcases List.mem_append.1 hy with hy | hy
      · exact ih1 y hy
      · obtain rfl : y = x := by simpa using hy
        exact hin
    · by_cases e : j = x.f.toNat
      · rw [e, j8]
        exact (outC_mem hN x hin).2.2.2
      · rw [comes_off hc hj e]
        exact ih2 j hj

/-- In whatever order they are there. -/
theorem came_same {ps qs : List Pst} (hm : ∀ x, x ∈ ps ↔ x ∈ qs) (hu : OneT ps) {N M : Nat} (hN : GoC ps N) (hE : firstC (runC ps N).2 ps = ps.length) (hM : GoC qs M) (hF : firstC (runC qs M).2 qs = qs.length) :
    (runC qs M).2 = (runC ps N).2 ∧ M = N ∧ ∀ x ∈ outC ps N, x ∈ outC qs M := by
  have hu' : OneT qs := fun x hx y hy => hu x ((hm x).2 hx) y ((hm y).2 hy)
  obtain ⟨a1, a2⟩ := came_all (fun x hx => (hm x).2 hx) hu hN hE hM
  obtain ⟨b1, b2⟩ := came_all (fun x hx => (hm x).1 hx) hu' hM hF hN
  obtain ⟨v1, v2, -⟩ := runC_vec hN
  obtain ⟨w1, w2, -⟩ := runC_vec hM
  have e : (runC qs M).2 = (runC ps N).2 := by
    obtain ⟨x0, x1, x2, x3, hx, -⟩ := vecB_four v1
    obtain ⟨y0, y1, y2, y3, hy, -⟩ := vecB_four w1
    rw [hx, hy] at a2 b2
    rw [hx, hy]
    have p0 := a2 0 (by omega)
    have p1 := a2 1 (by omega)
    have p2 := a2 2 (by omega)
    have p3 := a2 3 (by omega)
    have q0 := b2 0 (by omega)
    have q1 := b2 1 (by omega)
    have q2 := b2 2 (by omega)
    have q3 := b2 3 (by omega)
    simp at p0 p1 p2 p3 q0 q1 q2 q3
    simp only [List.cons.injEq, and_true]
    omega
  refine ⟨e, ?_, b1⟩
  rw [e, v2] at w2
  omega

/-- Which one came i-th. -/
theorem outC_at {ps : List Pst} : ∀ {n : Nat}, GoC ps n → ∀ i, i < n → (outC ps n).getD i pz = ps.getD (firstC (runC ps i).2 ps) pz
  | 0, _, i, hi => absurd hi (Nat.not_lt_zero i)
  | n + 1, h, i, hi => by
    have hn := h.less (Nat.le_succ n)
    have hl := outC_len hn
    rw [outC_next]
    by_cases e : i = n
    · subst e
      simp [List.getD, hl]
    · have hi' : i < (outC ps n).length := by omega
      have := outC_at hn i (by omega)
      rw [← this]
      simp [List.getD, List.getElem?_append_left hi']

end Go.Proofs.Ytpejdhbajejmoaa

/- Marks: what markPostS writes, heldPostS finds. -/
namespace Go.Proofs.Ytpejdhbajejmoaa
open Go.ChangeShapes Go.WideShapes Go.ChangeAt Go.RowKit Go.Joins
attribute [local go_sem ↓] Go.wp_at_zero Go.wp_at_succ

/-- The number that post i's marks begin with. -/
def markP (ps : List Pst) (k : Int) (i : Nat) : Int := k + 2 * i + bulkP (ps.take i)

theorem markP_zero (ps : List Pst) (k : Int) : markP ps k 0 = k := by simp [markP, bulkP]

theorem markP_next (ps : List Pst) (k : Int) (i : Nat) (h : i < ps.length) : markP ps k (i + 1) = markP ps k i + 2 + (ps.getD i pz).xs.length := by
  unfold markP
  rw [bulkP_take ps i h]
  push_cast
  omega

theorem bulkP_take_le (ps : List Pst) (i : Nat) : bulkP (ps.take i) ≤ bulkP ps := by
  induction ps generalizing i with
  | nil => simp
  | cons x r ih =>
    cases i with
    | zero => simp [bulkP]
    | succ i =>
      have := ih i
      simp only [List.take_succ_cons, bulkP]
      omega

theorem markP_bounds (ps : List Pst) (k : Int) (i : Nat) (h0 : 0 ≤ k) (h1 : k ≤ 1073741824) (hi : i ≤ 1048576) (hb : bulkP ps ≤ 1048576) : 0 ≤ markP ps k i ∧ markP ps k i ≤ 1099511627000 := by
  have := bulkP_take_le ps i
  unfold markP
  omega

/-- Cell o of a marked row; f: what was there. -/
def mkCellP (ps : List Pst) (k : Int) (f : Nat → Value) (o : Nat) : Value :=
  if o % 3 = 0 then .int .i64 (markP ps k (o / 3)) else if o % 3 = 2 then .int .i64 (markP ps k (o / 3) + 1 + (ps.getD (o / 3) pz).xs.length) else f o

theorem mkP_step (ps : List Pst) (k : Int) (f : Nat → Value) (j o : Nat) :
    (if o = j * 3 + 2 then Value.int .i64 (markP ps k j + 1 + (ps.getD j pz).xs.length) else if o = j * 3 then Value.int .i64 (markP ps k j) else if o < j * 3 then mkCellP ps k f o else f o) = (if o < (j + 1) * 3 then mkCellP ps k f o else f o) := by
  by_cases h2 : o = j * 3 + 2
  · rw [if_pos h2, if_pos (by omega), h2]
    unfold mkCellP
    rw [if_neg (by omega), if_pos (by omega), show (j * 3 + 2) / 3 = j by omega]
  rw [if_neg h2]
  by_cases h0 : o = j * 3
  · rw [if_pos h0, if_pos (by omega), h0]
    unfold mkCellP
    rw [if_pos (by omega), show j * 3 / 3 = j by omega]
  rw [if_neg h0]
  by_cases hl : o < j * 3
  · rw [if_pos hl, if_pos (by omega)]
  · rw [if_neg hl]
    by_cases h6 : o < (j + 1) * 3
    · rw [if_pos h6]
      unfold mkCellP
      rw [if_neg (by omega), if_neg (by omega)]
    · rw [if_neg h6]

/-- The blocks that a row of posts takes up. -/
def TakenP (b : Nat) (ps : List Pst) (γ : Nat → Nat) (x : Nat) : Prop := x = b ∨ ∃ i, i < ps.length ∧ 0 < (ps.getD i pz).xs.length ∧ x = γ i

/-- While a row is being marked: of its posts the first j are. -/
structure MarkQ (w wr : World) (b : Nat) (ps : List Pst) (γ : Nat → Nat) (k : Int) (f : Nat → Value) (j : Nat) : Prop where
  row : CellsAre wr b (ps.length * 3) (fun o => if o < j * 3 then mkCellP ps k f o else f o)
  nums : ∀ i, i < ps.length → 0 < (ps.getD i pz).xs.length → CellsAre wr (γ i) (ps.getD i pz).xs.length (fun o => if i < j then markFn (markP ps k i + 1) o else .int .i64 ((ps.getD i pz).xs.getD o 0))
  only : Only (TakenP b ps γ) w wr

theorem markQ_round {w wr w2 : World} {base b : Nat} {ps : List Pst} {γ : Nat → Nat} {k : Int} {f : Nat → Value} {j : Nat} (hO : OwnP w base b ps γ) (hj : j < ps.length) (h : MarkQ w wr b ps γ k f j)
    (h2 : 0 < (ps.getD j pz).xs.length → CellsAre w2 (γ j) (ps.getD j pz).xs.length (markFn (markP ps k j + 1))) (h3 : Only (fun x => 0 < (ps.getD j pz).xs.length ∧ x = γ j) (wr.setCell ⟨b, j * 3, none⟩ (.int .i64 (markP ps k j))) w2) :
    MarkQ w (w2.setCell ⟨b, j * 3 + 2, none⟩ (.int .i64 (markP ps k j + 1 + (ps.getD j pz).xs.length))) b ps γ k f (j + 1) where
  row := by
    have h4 : CellsAre (wr.setCell ⟨b, j * 3, none⟩ (.int .i64 (markP ps k j))) b (ps.length * 3) (fun o => if o = j * 3 then .int .i64 (markP ps k j) else if o < j * 3 then mkCellP ps k f o else f o) := h.row.set (by omega) _
    have h5 := h4.of_block (h3.block b (fun e => (hO.nums j hj e.1).2.1 e.2.symm))
    exact (h5.set (by omega) _).congr (fun o _ => mkP_step ps k f j o)
  nums := by
    intro i hi hp
    have hb := (hO.nums i hi hp).2.1
    by_cases hij : i = j
    · subst hij
      exact ((h2 hp).of_block (Below.heap_setCell _ _ _ _ hb)).congr (fun o _ => by rw [if_pos (by omega)])
    · have e : ¬ (0 < (ps.getD j pz).xs.length ∧ γ i = γ j) := fun e => hij (hO.inj i j hi hj hp e.1 e.2)
      refine ((h.nums i hi hp).of_block ((Below.heap_setCell _ _ _ _ hb).trans ((h3.block (γ i) e).trans (Below.heap_setCell _ _ _ _ hb)))).congr (fun o _ => ?_)
      by_cases hl : i < j
      · rw [if_pos hl, if_pos (by omega)]
      · rw [if_neg hl, if_neg (by omega)]
  only := (Only.trans (h.only.set (.inl rfl) _ _) h3 fun x hx => .inr ⟨j, hj, hx.1, hx.2⟩).set (.inl rfl) _ _

theorem markQ_start {w : World} {base b : Nat} {ps : List Pst} {γ : Nat → Nat} (k : Int) (hO : OwnP w base b ps γ) : MarkQ w w b ps γ k (fun o => (w.cell? ⟨b, o, none⟩).getD undef) 0 where
  row := by
    intro o ho
    dsimp only
    rw [if_neg (by omega)]
    obtain ⟨a, cap, ⟨h0, h1, h2⟩, _⟩ := hO.at_ (o / 3) (by omega)
    have h7 : o % 3 = 0 ∨ o % 3 = 1 ∨ o % 3 = 2 := by omega
    have hx : ∃ v, w.cell? ⟨b, o, none⟩ = some v := by
      rcases h7 with e | e | e
      · exact ⟨_, by rw [show o = o / 3 * 3 by omega]; exact h0⟩
      · exact ⟨_, by rw [show o = o / 3 * 3 + 1 by omega]; exact h1⟩
      · exact ⟨_, by rw [show o = o / 3 * 3 + 2 by omega]; exact h2⟩
    obtain ⟨v, hv⟩ := hx
    simp [hv]
  nums := by
    intro i hi hp o ho
    dsimp only
    rw [if_neg (by omega)]
    exact (hO.nums i hi hp).2.2.2.1 o ho
  only := Only.refl _ _

theorem markQ_slice {w wr : World} {base b : Nat} {ps : List Pst} {γ : Nat → Nat} {k : Int} {j i : Nat} (hO : OwnP w base b ps γ) (h : MarkQ w wr b ps γ k (fun o => (w.cell? ⟨b, o, none⟩).getD undef) j) (hi : i < ps.length) :
    ∃ a cp, wr.cell? ⟨b, i * 3 + 1, none⟩ = some (.slice a (ps.getD i pz).xs.length cp) ∧ (0 < (ps.getD i pz).xs.length → a = some ⟨γ i, 0, none⟩) := by
  obtain ⟨a, cap, ⟨_, h6, _⟩, ha⟩ := hO.at_ i hi
  refine ⟨a, cap, ?_, ha⟩
  rw [h.row (i * 3 + 1) (by omega)]
  have e : mkCellP ps k (fun o => (w.cell? ⟨b, o, none⟩).getD undef) (i * 3 + 1) = (w.cell? ⟨b, i * 3 + 1, none⟩).getD undef := by
    unfold mkCellP
    rw [if_neg (by omega), if_neg (by omega)]
  simp only [e, ite_self, h6]
  rfl

/-- A row of posts that is marked, from k on. -/
def MarkedP (w : World) (b : Nat) (ps : List Pst) (γ : Nat → Nat) (k : Int) : Prop :=
  ∀ i, i < ps.length → (w.cell? ⟨b, i * 3, none⟩ = some (.int .i64 (markP ps k i)) ∧ (∃ a cp, w.cell? ⟨b, i * 3 + 1, none⟩ = some (.slice a (ps.getD i pz).xs.length cp) ∧ (0 < (ps.getD i pz).xs.length → a = some ⟨γ i, 0, none⟩)) ∧ w.cell? ⟨b, i * 3 + 2, none⟩ = some (.int .i64 (markP ps k i + 1 + (ps.getD i pz).xs.length))) ∧
    (0 < (ps.getD i pz).xs.length → γ i < w.heap.size ∧ CellsAre w (γ i) (ps.getD i pz).xs.length (markFn (markP ps k i + 1)))

theorem MarkedP.below {w w' : World} {b : Nat} {ps : List Pst} {γ : Nat → Nat} {k : Int} {B : Nat} (h : MarkedP w b ps γ k) (hb : Below B w w') (h1 : b < B) (h2 : ∀ i, i < ps.length → 0 < (ps.getD i pz).xs.length → γ i < B) : MarkedP w' b ps γ k := by
  intro i hi
  obtain ⟨⟨e0, ⟨a, cp, e1, e3⟩, e2⟩, hd⟩ := h i hi
  have c : ∀ o, w'.cell? ⟨b, o, none⟩ = w.cell? ⟨b, o, none⟩ := fun o => hb.cell (p := ⟨b, o, none⟩) h1
  exact ⟨⟨(c _).trans e0, ⟨a, cp, (c _).trans e1, e3⟩, (c _).trans e2⟩, fun hp => ⟨Nat.lt_of_lt_of_le (hd hp).1 hb.size, (hd hp).2.of_block (hb.block _ (h2 i hi hp))⟩⟩

theorem markQ_end {w wr : World} {base b : Nat} {ps : List Pst} {γ : Nat → Nat} {k : Int} (hO : OwnP w base b ps γ) (h : MarkQ w wr b ps γ k (fun o => (w.cell? ⟨b, o, none⟩).getD undef) ps.length) : MarkedP wr b ps γ k := by
  intro i hi
  have r : ∀ c, c < 3 → wr.cell? ⟨b, i * 3 + c, none⟩ = some (mkCellP ps k (fun o => (w.cell? ⟨b, o, none⟩).getD undef) (i * 3 + c)) := fun c hc => by
    rw [h.row _ (by omega)]
    dsimp only
    rw [if_pos (by omega)]
  refine ⟨⟨?_, markQ_slice hO h hi, ?_⟩, fun hp => ⟨by rw [h.only.size]; exact (hO.nums i hi hp).2.2.1, (h.nums i hi hp).congr (fun o _ => by rw [if_pos hi])⟩⟩
  · rw [show i * 3 = i * 3 + 0 from rfl, r 0 (by omega)]
    unfold mkCellP
    rw [if_pos (by omega), show (i * 3 + 0) / 3 = i by omega]
  · rw [r 2 (by omega)]
    unfold mkCellP
    rw [if_neg (by omega), if_pos (by omega), show (i * 3 + 2) / 3 = i by omega]

theorem numsOwn {w : World} {g : Nat} {xs : List Int} {a : Option Addr} (h : 0 < xs.length → NumsAt w g xs) (ha : 0 < xs.length → a = some ⟨g, 0, none⟩) : ∃ lo hi, OwnI w lo hi a xs ∧ ∀ x, lo ≤ x ∧ x < hi → 0 < xs.length ∧ x = g := by
  by_cases hp : 0 < xs.length
  · obtain ⟨h1, h2, h3⟩ := h hp
    exact ⟨g, g + 1, .inr ⟨g, ha hp, Nat.le_refl _, Nat.lt_succ_self _, h1, h2, h3⟩, fun x hx => ⟨hp, by omega⟩⟩
  · exact ⟨0, 0, .inl (List.length_eq_zero_iff.1 (by omega)), fun x hx => by omega⟩

end Go.Proofs.Ytpejdhbajejmoaa

/- A row of posts of one's own that grows. -/
namespace Go.Proofs.Ytpejdhbajejmoaa
open Go.ChangeShapes Go.WideShapes Go.ChangeAt Go.RowKit Go.Joins

/-- A post, the block of its numbers, their room. -/
structure EnP where
  x : Pst
  g : Nat
  cp : Nat

def ezP : EnP := ⟨pz, 0, 0⟩

def psVals (e : EnP) : List Value := [.int .i64 e.x.f, .slice (some ⟨e.g, 0, none⟩) e.x.xs.length e.cp, .int .i64 e.x.y]

theorem psVals_len : ∀ es : List EnP, (es.flatMap psVals).length = es.length * 3
  | [] => rfl
  | e :: r => by
    rw [List.flatMap_cons, List.length_append, psVals_len r]
    simp [psVals]
    omega

theorem psVals_at : ∀ (es : List EnP) (i c : Nat), i < es.length → c < 3 → (es.flatMap psVals)[i * 3 + c]? = (psVals (es.getD i ezP))[c]?
  | [], i, c, hi, _ => by simp at hi
  | e :: r, 0, c, _, hc => by
    rw [List.flatMap_cons, List.getElem?_append_left (by simp [psVals]; omega)]
    simp
  | e :: r, i + 1, c, hi, hc => by
    rw [List.flatMap_cons, List.getElem?_append_right (by simp [psVals]; omega)]
    have := psVals_at r i c (by simpa using hi) hc
    rw [show (i + 1) * 3 + c - (psVals e).length = i * 3 + c by simp [psVals]; omega, this]
    simp

theorem psVals_one (es : List EnP) : ∀ u ∈ es.flatMap psVals, u.oneCell' = true := by
  intro u hu
  obtain ⟨e, _, h⟩ := List.mem_flatMap.1 hu
  simp only [psVals, List.mem_cons, List.not_mem_nil, or_false] at h
  rcases h with rfl | rfl | rfl <;> rfl

/-- A row of posts of one's own, from block number base on; it may be nil. -/
structure RowP (w : World) (base : Nat) (v : Value) (es : List EnP) : Prop where
  own : w.ownsRow base 33 3 v es.length (es.flatMap psVals)
  nums : ∀ e ∈ es, base ≤ e.g ∧ v.ownBlock ≠ some e.g ∧ NumsAt w e.g e.x.xs
  apart : es.Pairwise fun e e' => e.g ≠ e'.g

theorem rowP_nil (w : World) (base : Nat) : RowP w base (.slice none 0 0) [] where
  own := World.ownsRow_nil w base _ _
  nums := fun e he => by simp at he
  apart := List.Pairwise.nil

theorem rowP_start (w : World) (base : Nat) (hb : base ≤ w.heap.size) : RowP (w.alloc (.cells #[] 33)) base (.slice (some ⟨w.heap.size, 0, none⟩) 0 0) [] where
  own := World.ownsRow_made w #[] 0 hb (by simp [maxLen]) (by simp)
  nums := fun e he => by simp at he
  apart := List.Pairwise.nil

theorem NumsAt.below {w w' : World} {g : Nat} {xs : List Int} (h : NumsAt w g xs) (hb : Below w.heap.size w w') : NumsAt w' g xs :=
  h.of_block (hb.block _ h.1) (Nat.lt_of_lt_of_le h.1 hb.size)

theorem RowP.below {w w' : World} {base : Nat} {v : Value} {es : List EnP} (h : RowP w base v es) (hb : Below w.heap.size w w') : RowP w' base v es where
  own := h.own.kept (row := none) ⟨hb.os, hb.tape, hb.output, hb.size, fun k hk _ => hb.block k hk⟩ (by
    by_cases e : v.ownBlock = none
    · exact .inl e
    · exact .inr e)
  nums := fun e he => ⟨(h.nums e he).1, (h.nums e he).2.1, (h.nums e he).2.2.below hb⟩
  apart := h.apart

/-- A store into a block below the row's. -/
theorem RowP.set {w : World} {base : Nat} {v : Value} {es : List EnP} (h : RowP w base v es) {p : Addr} (hp : p.block < base) (u : Value) : RowP (w.setCell p u) base v es where
  own := ownsRow_setCell_below h.own hp u
  nums := fun e he => ⟨(h.nums e he).1, (h.nums e he).2.1, (h.nums e he).2.2.of_block (Below.heap_setCell _ _ _ _ (by have := (h.nums e he).1; omega)) (by simpa using (h.nums e he).2.2.1)⟩
  apart := h.apart

/-- One post more. -/
theorem RowP.more {w w5 : World} {base g5 cap5 : Nat} {v : Value} {es : List EnP} {e : EnP} (h : RowP w base v es) (he : base ≤ e.g ∧ v.ownBlock ≠ some e.g ∧ NumsAt w e.g e.x.xs) (hap : ∀ d ∈ es, d.g ≠ e.g)
    (hown : w5.ownsRow base 33 3 (.slice (some ⟨g5, 0, none⟩) (es.length + 1) cap5) (es.length + 1) (es.flatMap psVals ++ psVals e)) (hgrow : w.grownBy w5 v.ownBlock) (hg : v.ownBlock = some g5 ∨ g5 = w.heap.size) : RowP w5 base (.slice (some ⟨g5, 0, none⟩) (es.length + 1) cap5) (es ++ [e]) where
  own := by
    rw [List.length_append, List.flatMap_append]
    simpa using hown
  nums := by
    have : ∀ d : EnP, base ≤ d.g → v.ownBlock ≠ some d.g → NumsAt w d.g d.x.xs → base ≤ d.g ∧ (Value.slice (some ⟨g5, 0, none⟩) (es.length + 1) cap5).ownBlock ≠ some d.g ∧ NumsAt w5 d.g d.x.xs := fun d h0 h1 h2 => by
      refine ⟨h0, fun e => ?_, h2.of_block (hgrow.block d.g h2.1 (fun e => h1 e.symm)) (Nat.lt_of_lt_of_le h2.1 hgrow.size)⟩
      have e5 : g5 = d.g := by
        simp only [Value.ownBlock, Option.some.injEq] at e
        exact e
      rcases hg with hg | hg
      · exact h1 (by rw [hg, e5])
      · have := h2.1
        omega
    intro d hd
    rcases List.mem_append.1 hd with hd | hd
    · obtain ⟨h0, h1, h2⟩ := h.nums d hd
      exact this d h0 h1 h2
    · have hd : d = e := by simpa using hd
      subst hd
      exact this d he.1 he.2.1 he.2.2
  apart := by
    rw [List.pairwise_append]
    exact ⟨h.apart, by simp, fun d hd e' he' => by
      have : e' = e := by simpa using he'
      subst this
      exact hap d hd⟩

def gammaP (es : List EnP) (i : Nat) : Nat := (es.getD i ezP).g

theorem pairP_getD {r : EnP → EnP → Prop} : ∀ {es : List EnP}, es.Pairwise r → ∀ i j, i < j → j < es.length → r (es.getD i ezP) (es.getD j ezP)
  | [], _, _, _, _, h => by simp at h
  | e :: es, hp, 0, j + 1, _, h => by
    have hj : j < es.length := by simpa using h
    have := (List.pairwise_cons.1 hp).1 (es.getD j ezP) (by simp [List.getD, hj])
    simpa using this
  | e :: es, hp, i + 1, j + 1, hij, h => by
    have := pairP_getD (List.pairwise_cons.1 hp).2 i j (by omega) (by simpa using h)
    simpa using this

/-- The row as a slice that is the call's own. -/
theorem RowP.form {w : World} {base : Nat} {v : Value} {es : List EnP} (h : RowP w base v es) :
    ∃ a cap, v = .slice a es.length cap ∧ (es = [] ∨ ∃ b, a = some ⟨b, 0, none⟩ ∧ OwnP w base b (es.map (·.x)) (gammaP es)) := by
  rcases h.own.2 with ⟨h1, h2⟩ | ⟨g, cap, cur, h1, h2, h3, _⟩
  · exact ⟨none, 0, by rw [h1, h2], .inl (List.length_eq_zero_iff.1 h2)⟩
  · refine ⟨_, cap, h1, .inr ⟨g, rfl, ?_⟩⟩
    subst h1
    have hlt : g < w.heap.size := (h.own.lt g rfl).2
    have hm : ∀ i, i < es.length → es.getD i ezP ∈ es := fun i hi => by simp [List.getD, hi]
    have hx : ∀ i, i < es.length → (es.map (·.x)).getD i pz = (es.getD i ezP).x := fun i hi => by simp [List.getD, hi]
    have hl : (es.map (·.x)).length = es.length := by simp
    refine ⟨hlt, h2, fun o => h.own.frozenAt o, fun i hi => ?_, fun i hi hp => ?_, fun i j hi hj hp hq e => ?_⟩
    · rw [hl] at hi
      rw [hx i hi]
      have c : ∀ c, c < 3 → w.cell? ⟨g, i * 3 + c, none⟩ = (psVals (es.getD i ezP))[c]? := fun c hc => by rw [h.own.cellAt _ (by omega), psVals_at es i c hi hc]
      exact ⟨some ⟨(es.getD i ezP).g, 0, none⟩, (es.getD i ezP).cp, ⟨c 0 (by omega), c 1 (by omega), c 2 (by omega)⟩, fun hp => rfl⟩
    · rw [hl] at hi
      rw [hx i hi]
      obtain ⟨h5, h6, h7⟩ := h.nums _ (hm i hi)
      exact ⟨h5, fun e => h6 (by rw [← e]; rfl), h7⟩
    · rw [hl] at hi hj
      by_cases h1 : i < j
      · exact absurd e (pairP_getD h.apart i j h1 hj)
      · by_cases h2 : j < i
        · exact absurd e.symm (pairP_getD h.apart j i h2 hi)
        · omega

theorem oneP_cells (w : World) (t : Nat) (e : EnP) : ∀ j u, (psVals e)[j]? = some u → (w.alloc (.cells #[.int .i64 e.x.f, .slice (some ⟨e.g, 0, none⟩) e.x.xs.length e.cp, .int .i64 e.x.y] t)).cell? ((⟨w.heap.size, 0, none⟩ : Addr).add j) = some u := by
  intro j u hu
  have e1 : (⟨w.heap.size, 0, none⟩ : Addr).add j = ⟨w.heap.size, j, none⟩ := by
    unfold Addr.add
    split
    · rename_i h
      rw [h]
    · simp
  rw [e1, cell_of_row _ _ j _ t (0, 0) (heap_alloc_new w _), ← hu]
  simp [psVals]

end Go.Proofs.Ytpejdhbajejmoaa

/- InOrder, the specification's side: what lies where. -/
namespace Go.Proofs.Ytpejdhbajejmoaa
open Go.ChangeShapes Go.WideShapes Go.ChangeAt Go.RowKit Go.Joins
attribute [local go_sem ↓] Go.wp_at_zero Go.wp_at_succ

/-- What InOrder answers. -/
def OrdAns (w : World) (ps : List Pst) (e : Ending) (w' : World) : Prop := ∃ n v4 es gv cpv, GoC ps n ∧ firstC (runC ps n).2 ps = ps.length ∧ e = .returned (.tuple #[v4, vecV (some ⟨gv, 0, none⟩) 4 cpv]) ∧
  RowP w' w.heap.size v4 es ∧ es.map (·.x) = outC ps n ∧ NumsAt w' gv (runC ps n).2 ∧ w.heap.size ≤ gv ∧ v4.ownBlock ≠ some gv ∧ (∀ e ∈ es, e.g ≠ gv) ∧ Below w.heap.size w w'

/-- What lies where: who came, the vector, the posts told. -/
structure OrdX (w wr : World) (N : Nat) (cm : List Nat) (vv : List Int) (out : List Pst) (v4 : Value) (es : List EnP) (gv cpv : Nat) : Prop where
  low : Below w.heap.size w wr
  b0 : wr.heap[w.heap.size]? = some (.cells #[.slice none 0 0] 28 (0, 0))
  bv : wr.heap[w.heap.size + 3]? = some (.cells #[.slice (some ⟨gv, 0, none⟩) 4 cpv] 28 (0, 0))
  bc : wr.rowIs (w.heap.size + 4) 4 N (fun i => .bool (decide (i ∈ cm)))
  row : RowP wr (w.heap.size + 1) v4 es
  ours : es.map (·.x) = out
  away : ∀ g, v4.ownBlock = some g → g = w.heap.size + 1 ∨ w.heap.size + 5 ≤ g
  far : ∀ e ∈ es, w.heap.size + 5 ≤ e.g
  nums : NumsAt wr gv vv
  gle : w.heap.size + 2 ≤ gv
  g3 : gv ≠ w.heap.size + 3
  g4 : gv ≠ w.heap.size + 4
  goff : v4.ownBlock ≠ some gv
  goffs : ∀ e ∈ es, e.g ≠ gv

/-- Round n, in memory. -/
structure OrdW (w wr : World) (ps : List Pst) (n : Nat) (v4 : Value) (es : List EnP) (gv cpv : Nat) : Prop extends OrdX w wr ps.length (runC ps n).1 (runC ps n).2 (outC ps n) v4 es gv cpv where
  go : GoC ps n

theorem rowIs_below {w w' : World} {b t n : Nat} {f : Nat → Value} (h : w.rowIs b t n f) (hb : Below w.heap.size w w') : w'.rowIs b t n f := by
  obtain ⟨cs, h1, h2, h3⟩ := h
  exact ⟨cs, (hb.block b (Array.getElem?_eq_some_iff.1 h1).1).trans h1, h2, h3⟩

theorem OrdX.lt {w wr : World} {N : Nat} {cm : List Nat} {vv : List Int} {out : List Pst} {v4 : Value} {es : List EnP} {gv cpv : Nat} (h : OrdX w wr N cm vv out v4 es gv cpv) : w.heap.size + 4 < wr.heap.size := by
  obtain ⟨cs, h1, -, -⟩ := h.bc
  exact (Array.getElem?_eq_some_iff.1 h1).1

theorem OrdX.below {w wr w' : World} {N : Nat} {cm : List Nat} {vv : List Int} {out : List Pst} {v4 : Value} {es : List EnP} {gv cpv : Nat} (h : OrdX w wr N cm vv out v4 es gv cpv) (hb : Below wr.heap.size wr w') : OrdX w w' N cm vv out v4 es gv cpv where
  low := below_step h.low h.low.size hb
  b0 := (hb.block _ (Array.getElem?_eq_some_iff.1 h.b0).1).trans h.b0
  bv := (hb.block _ (Array.getElem?_eq_some_iff.1 h.bv).1).trans h.bv
  bc := rowIs_below h.bc hb
  row := h.row.below hb
  ours := h.ours
  away := h.away
  far := h.far
  nums := h.nums.below hb
  gle := h.gle
  g3 := h.g3
  g4 := h.g4
  goff := h.goff
  goffs := h.goffs

theorem RowP.setOff {w : World} {base : Nat} {v : Value} {es : List EnP} (h : RowP w base v es) {p : Addr} (hp : v.ownBlock ≠ some p.block) (hq : ∀ e ∈ es, e.g ≠ p.block) (u : Value) : RowP (w.setCell p u) base v es where
  own := by
    refine ⟨h.own.1, ?_⟩
    rcases h.own.2 with h1 | ⟨g, cap, cur, h1, h2, h3, h4⟩
    · exact .inl h1
    · refine .inr ⟨g, cap, cur, h1, h2, (Below.heap_setCell _ _ _ _ fun e => hp ?_).trans h3, h4⟩
      rw [h1, ← e]
      rfl
  nums := fun e he => ⟨(h.nums e he).1, (h.nums e he).2.1, (h.nums e he).2.2.of_block (Below.heap_setCell _ _ _ _ (hq e he)) (by simpa using (h.nums e he).2.2.1)⟩
  apart := h.apart

theorem RowP.mono {w : World} {base base' : Nat} {v : Value} {es : List EnP} (h : RowP w base v es) (hb : base' ≤ base) : RowP w base' v es where
  own := by
    refine ⟨h.own.1, ?_⟩
    rcases h.own.2 with h1 | ⟨g, cap, cur, h1, h2, h3⟩
    · exact .inl h1
    · exact .inr ⟨g, cap, cur, h1, Nat.le_trans hb h2, h3⟩
  nums := fun e he => ⟨Nat.le_trans hb (h.nums e he).1, (h.nums e he).2⟩
  apart := h.apart

/-- Who came is marked. -/
theorem OrdX.mark {w wr : World} {N : Nat} {cm : List Nat} {vv : List Int} {out : List Pst} {v4 : Value} {es : List EnP} {gv cpv : Nat} (h : OrdX w wr N cm vv out v4 es gv cpv) (q : Nat) : OrdX w (wr.setCell ⟨w.heap.size + 4, q, none⟩ (.bool true)) N (cm ++ [q]) vv out v4 es gv cpv where
  low := h.low.setCell (p := ⟨w.heap.size + 4, q, none⟩) (by show w.heap.size ≤ w.heap.size + 4; omega) _
  b0 := (Below.heap_setCell _ _ _ _ (by show w.heap.size ≠ w.heap.size + 4; omega)).trans h.b0
  bv := (Below.heap_setCell _ _ _ _ (by show w.heap.size + 3 ≠ w.heap.size + 4; omega)).trans h.bv
  bc := (h.bc.set q (.bool true)).congr fun i _ => by
    by_cases e : i = q
    · subst e
      simp
    · simp [e]
  row := h.row.setOff (fun e => by have := h.away _ e; simp at this) (fun e he => by have := h.far e he; show e.g ≠ w.heap.size + 4; omega) _
  ours := h.ours
  away := h.away
  far := h.far
  nums := h.nums.of_block (Below.heap_setCell _ _ _ _ h.g4) (by simpa using h.nums.1)
  gle := h.gle
  g3 := h.g3
  g4 := h.g4
  goff := h.goff
  goffs := h.goffs

/-- A store elsewhere. -/
theorem OrdX.setT {w wr : World} {N : Nat} {cm : List Nat} {vv : List Int} {out : List Pst} {v4 : Value} {es : List EnP} {gv cpv : Nat} (h : OrdX w wr N cm vv out v4 es gv cpv) {p : Addr} (hp : w.heap.size + 5 ≤ p.block) (h1 : v4.ownBlock ≠ some p.block) (h2 : ∀ e ∈ es, e.g ≠ p.block) (h3 : gv ≠ p.block) (u : Value) : OrdX w (wr.setCell p u) N cm vv out v4 es gv cpv where
  low := h.low.setCell (by omega) _
  b0 := (Below.heap_setCell _ _ _ _ (by omega)).trans h.b0
  bv := (Below.heap_setCell _ _ _ _ (by omega)).trans h.bv
  bc := h.bc.of_block (Below.heap_setCell _ _ _ _ (by omega))
  row := h.row.setOff h1 h2 _
  ours := h.ours
  away := h.away
  far := h.far
  nums := h.nums.of_block (Below.heap_setCell _ _ _ _ h3) (by simpa using h.nums.1)
  gle := h.gle
  g3 := h.g3
  g4 := h.g4
  goff := h.goff
  goffs := h.goffs

theorem RowP.old {w : World} {base : Nat} {v : Value} {es : List EnP} (h : RowP w base v es) {g : Nat} (hg : w.heap.size ≤ g) : v.ownBlock ≠ some g ∧ ∀ e ∈ es, e.g ≠ g :=
  ⟨fun e => by have := (World.ownsRow.lt h.own g e).2; omega, fun e he => by have := (h.nums e he).2.2.1; omega⟩

/-- The vector is another. -/
theorem OrdX.turn {w wr w' : World} {N : Nat} {cm : List Nat} {vv nv : List Int} {out : List Pst} {v4 : Value} {es : List EnP} {gv cpv g : Nat} (h : OrdX w wr N cm vv out v4 es gv cpv) (hb : Below wr.heap.size wr w') (hn : NumsAt w' g nv) (hg : wr.heap.size ≤ g) (cp : Nat) : OrdX w (w'.setCell ⟨w.heap.size + 3, 0, none⟩ (.slice (some ⟨g, 0, none⟩) 4 cp)) N cm nv out v4 es g cp := by
  have h' := h.below hb
  have hl := h.lt
  obtain ⟨o1, o2⟩ := h.row.old hg
  refine ⟨h'.low.setCell (p := ⟨w.heap.size + 3, 0, none⟩) (by show w.heap.size ≤ w.heap.size + 3; omega) _, ?_, one_setCell h'.bv, ?_, ?_, h.ours, h.away, h.far, ?_, by omega, by omega, by omega, o1, o2⟩
  · exact (Below.heap_setCell _ _ _ _ (by show w.heap.size ≠ w.heap.size + 3; omega)).trans h'.b0
  · exact h'.bc.of_block (Below.heap_setCell _ _ _ _ (by show w.heap.size + 4 ≠ w.heap.size + 3; omega))
  · exact h'.row.setOff (fun e => by have := h.away _ e; simp at this) (fun e he => by have := h.far e he; show e.g ≠ w.heap.size + 3; omega) _
  · exact hn.of_block (Below.heap_setCell _ _ _ _ (by show g ≠ w.heap.size + 3; omega)) (by simpa using hn.1)

/-- One post more. -/
theorem OrdX.more {w wr w5 : World} {N : Nat} {cm : List Nat} {vv : List Int} {out : List Pst} {v4 : Value} {es : List EnP} {gv cpv g5 cap5 : Nat} {e : EnP} (h : OrdX w wr N cm vv out v4 es gv cpv) (he : w.heap.size + 5 ≤ e.g ∧ v4.ownBlock ≠ some e.g ∧ NumsAt wr e.g e.x.xs) (hap : ∀ d ∈ es, d.g ≠ e.g) (hgv : e.g ≠ gv)
    (hown : w5.ownsRow (w.heap.size + 1) 33 3 (.slice (some ⟨g5, 0, none⟩) (es.length + 1) cap5) (es.length + 1) (es.flatMap psVals ++ psVals e)) (hgrow : wr.grownBy w5 v4.ownBlock) (hg : v4.ownBlock = some g5 ∨ g5 = wr.heap.size) : OrdX w w5 N cm vv (out ++ [e.x]) (.slice (some ⟨g5, 0, none⟩) (es.length + 1) cap5) (es ++ [e]) gv cpv := by
  have hl := h.lt
  have hlow := h.low.size
  have hblk : ∀ j, j < wr.heap.size → v4.ownBlock ≠ some j → w5.heap[j]? = wr.heap[j]? := fun j h1 h2 => hgrow.block j h1 fun e => h2 e.symm
  have ha : ∀ j, w.heap.size + 2 ≤ j → j < w.heap.size + 5 → v4.ownBlock ≠ some j := fun j h1 h2 e => by
    have := h.away j e
    omega
  have ha0 : v4.ownBlock ≠ some w.heap.size := fun e => by
    have := h.away _ e
    omega
  refine ⟨h.low.grown hgrow hlow fun j hj => ?_, (hblk _ (by omega) ha0).trans h.b0, (hblk _ (by omega) (ha _ (by omega) (by omega))).trans h.bv, h.bc.of_block (hblk _ (by omega) (ha _ (by omega) (by omega))), h.row.more ⟨by omega, he.2.1, he.2.2⟩ hap hown hgrow hg, ?_, fun g hg' => ?_, ?_, ?_, h.gle, h.g3, h.g4, fun e' => ?_, ?_⟩
  · have := h.away j hj
    omega
  · rw [List.map_append, h.ours]
    rfl
  · have e5 : g5 = g := by
      simp only [Value.ownBlock, Option.some.injEq] at hg'
      exact hg'
    rcases hg with hg | hg
    · exact h.away g (by rw [hg, e5])
    · omega
  · intro d hd
    rcases List.mem_append.1 hd with hd | hd
    · exact h.far d hd
    · have hd : d = e := by simpa using hd
      subst hd
      exact he.1
  · exact h.nums.of_block (hblk _ h.nums.1 h.goff) (Nat.lt_of_lt_of_le h.nums.1 hgrow.size)
  · have e5 : g5 = gv := by
      simp only [Value.ownBlock, Option.some.injEq] at e'
      exact e'
    rcases hg with hg | hg
    · exact h.goff (by rw [hg, e5])
    · have := h.nums.1
      omega
  · intro d hd
    rcases List.mem_append.1 hd with hd | hd
    · exact h.goffs d hd
    · have hd : d = e := by simpa using hd
      subst hd
      exact hgv

theorem OrdW.below {w wr w' : World} {ps : List Pst} {n : Nat} {v4 : Value} {es : List EnP} {gv cpv : Nat} (h : OrdW w wr ps n v4 es gv cpv) (hb : Below wr.heap.size wr w') : OrdW w w' ps n v4 es gv cpv := ⟨h.toOrdX.below hb, h.go⟩

theorem OrdW.len {w wr : World} {ps : List Pst} {n : Nat} {v4 : Value} {es : List EnP} {gv cpv : Nat} (h : OrdW w wr ps n v4 es gv cpv) : es.length = n := by
  have := congrArg List.length h.ours
  rw [List.length_map, outC_len h.go] at this
  exact this

/-- At the end. -/
theorem OrdW.ends {w wr : World} {ps : List Pst} {n : Nat} {v4 : Value} {es : List EnP} {gv cpv : Nat} (h : OrdW w wr ps n v4 es gv cpv) (he : firstC (runC ps n).2 ps = ps.length) (u : Value) : OrdAns w ps (.returned (.tuple #[v4, vecV (some ⟨gv, 0, none⟩) 4 cpv])) (wr.setCell ⟨w.heap.size, 0, none⟩ u) := by
  have hg := h.gle
  exact ⟨n, v4, es, gv, cpv, h.go, he, rfl, (h.row.set (p := ⟨w.heap.size, 0, none⟩) (Nat.lt_succ_self _) u).mono (Nat.le_succ _), h.ours, h.nums.of_block (Below.heap_setCell _ _ _ _ (by show gv ≠ w.heap.size; omega)) (by simpa using h.nums.1), by omega, h.goff, h.goffs, h.low.setCell (p := ⟨w.heap.size, 0, none⟩) (Nat.le_refl _) u⟩

theorem madeBools (w : World) (n : Nat) : (w.alloc (.cells (madeCells #[.bool false] n) 4)).rowIs w.heap.size 4 n (fun _ => .bool false) := by
  refine ⟨_, Go.Deep.blk_alloc_new _ _, size_madeCells _ _, fun i hi => ?_⟩
  simp [madeCells, hi, Nat.mod_one]

theorem infoBool : (Try.prog.info? 4).map (fun i => (i.zero, i.size, i.bytes)) = some (some (.bool false), 1, 1) := by kernel_rfl

theorem run_make_bools (n : Nat) (hn : n ≤ 1048576) (w : World) :
    (Instr.makeSlice 49 (.int .i64 (n : Int)) (.int .i64 (n : Int))).run Try.prog w = .ok (.slice (some ⟨w.heap.size, 0, none⟩) n n) (w.alloc (.cells (madeCells #[.bool false] n) 4)) := by
  obtain ⟨i, hi, hzz⟩ := Option.map_eq_some_iff.1 infoBool
  simp only [Prod.mk.injEq] at hzz
  obtain ⟨hz, hs, hb⟩ := hzz
  have hr := run_make (P := Try.prog) w 49 4 i _ Try.underlying49 hi hz .i64 .i64 n n (by omega) (Int.le_refl _) (by rw [hb]; omega) (by omega)
  simp only [Int.toNat_natCast, hs, Nat.mul_one] at hr
  exact hr

end Go.Proofs.Ytpejdhbajejmoaa

/- What the law on posts asks: the answers of InOrder as lists that may be looked at; plain facts. -/
namespace Go.Proofs.Ytpejdhbajejmoaa
open Go.ChangeShapes Go.WideShapes Go.ChangeAt Go.RowKit Go.Joins

theorem NumsAt.isIs {w : World} {g : Nat} {xs : List Int} (h : NumsAt w g xs) : IsIs w (some ⟨g, 0, none⟩) xs :=
  .inr ⟨g, 0, rfl, h.1, fun i hi => by rw [Nat.zero_add]; exact h.2.1 i hi⟩

theorem RowP.isPs {w : World} {base : Nat} {v : Value} {es : List EnP} (h : RowP w base v es) (hx : ∀ e ∈ es, e.x.xs.length ≤ maxLen) : ∃ a cap, v = .slice a es.length cap ∧ IsPs w a (es.map (·.x)) := by
  rcases h.own.2 with ⟨h1, h2⟩ | ⟨g, cap, cur, h1, h2, h3, _⟩
  · exact ⟨none, 0, by rw [h1, h2], .inl (by rw [List.length_eq_zero_iff.1 h2]; rfl)⟩
  · refine ⟨_, cap, h1, .inr ⟨g, 0, rfl, ?_, fun i hi => ?_⟩⟩
    · subst h1
      exact (h.own.lt g rfl).2
    · subst h1
      have hi' : i < es.length := by simpa using hi
      have hm : es.getD i ezP ∈ es := by simp [List.getD, hi']
      have e1 : (es.map (·.x)).getD i pz = (es.getD i ezP).x := by simp [List.getD, hi']
      rw [e1, Nat.zero_add]
      have c : ∀ c, c < 3 → w.cell? ⟨g, i * 3 + c, none⟩ = (psVals (es.getD i ezP))[c]? := fun c hc => by rw [h.own.cellAt _ (by omega), psVals_at es i c hi' hc]
      exact ⟨some ⟨(es.getD i ezP).g, 0, none⟩, (es.getD i ezP).cp, ⟨c 0 (by omega), c 1 (by omega), c 2 (by omega)⟩, hx _ hm, (h.nums _ hm).2.2.isIs⟩

/-- What InOrder answers, as the law looks at it. -/
def CameAns (w : World) (ps : List Pst) (N : Nat) (e : Ending) (w' : World) : Prop :=
  ∃ x cp gv cv, e = .returned (.tuple #[.slice x N cp, vecV (some ⟨gv, 0, none⟩) 4 cv]) ∧ IsPs w' x (outC ps N) ∧ IsIs w' (some ⟨gv, 0, none⟩) (runC ps N).2 ∧ Below w.heap.size w w'

theorem came_of {w w' : World} {ps : List Pst} {N : Nat} {e : Ending} (hg : GoC ps N) (hf : firstC (runC ps N).2 ps = ps.length) (h : OrdAns w ps e w') : CameAns w ps N e w' := by
  obtain ⟨m, v4, es, gv, cpv, h1, h2, h3, h4, h5, h6, h7, h8, h9, h10⟩ := h
  have e' : m = N := goC_end h1 hg h2 hf
  subst e'
  have hx : ∀ e ∈ es, e.x.xs.length ≤ maxLen := fun e he => by
    have := outC_four h1 e.x (by rw [← h5]; exact List.mem_map.2 ⟨e, he, rfl⟩)
    unfold maxLen
    omega
  obtain ⟨a, cap, rfl, hr⟩ := h4.isPs hx
  have hl : es.length = m := by rw [← outC_len h1, ← h5, List.length_map]
  rw [h5] at hr
  exact ⟨a, cap, gv, cpv, by rw [h3, hl], hr, h6.isIs, h10⟩

/-- How far it goes. -/
theorem came_some {w w' : World} {ps : List Pst} {e : Ending} (h : OrdAns w ps e w') : ∃ N, GoC ps N ∧ firstC (runC ps N).2 ps = ps.length ∧ CameAns w ps N e w' := by
  obtain ⟨m, v4, es, gv, cpv, h1, h2, h3⟩ := id h
  exact ⟨m, h1, h2, came_of h1 h2 h⟩

theorem came_step {ps : List Pst} {N i : Nat} (hg : GoC ps N) (hi : i < N) : mayB (runC ps i).2 ((outC ps N).getD i pz).xs ((outC ps N).getD i pz).f = true ∧ (runC ps (i + 1)).2 = joinV (runC ps i).2 ((outC ps N).getD i pz).xs ∧ ((outC ps N).getD i pz).xs.length = 4 := by
  rw [outC_at hg i hi]
  have h := firstC_comes (hg i hi)
  refine ⟨h, rfl, ?_⟩
  have hm : ps.getD (firstC (runC ps i).2 ps) pz ∈ outC ps N := by
    rw [← outC_at hg i hi]
    have := outC_len hg
    simp [List.getD, show i < (outC ps N).length by omega]
  exact outC_four hg _ hm

/-- Two that are asked of in turn. -/
def apartT (x y : Pst) : Prop := x.f = y.f → 0 ≤ x.f ∧ x.f < x.xs.length ∧ x.f < y.xs.length ∧ x.xs.getD x.f.toNat 0 ≠ y.xs.getD y.f.toNat 0

def UpT (ps : List Pst) (i : Nat) : Prop := ∀ a b, b < a → a < i → apartT (ps.getD a pz) (ps.getD b pz)

def UpK (ps : List Pst) (i k : Nat) : Prop := UpT ps i ∧ ∀ b, b < k → apartT (ps.getD i pz) (ps.getD b pz)

theorem upT_zero (ps : List Pst) : UpT ps 0 := fun a b _ h => by omega

theorem UpT.start {ps : List Pst} {i : Nat} (h : UpT ps i) : UpK ps i 0 := ⟨h, fun b hb => by omega⟩

theorem UpK.next {ps : List Pst} {i k : Nat} (h : UpK ps i k) (ha : apartT (ps.getD i pz) (ps.getD k pz)) : UpK ps i (k + 1) :=
  ⟨h.1, fun b hb => by
    by_cases e : b = k
    · subst e
      exact ha
    · exact h.2 b (by omega)⟩

theorem UpK.done {ps : List Pst} {i : Nat} (h : UpK ps i i) : UpT ps (i + 1) := fun a b hb ha => by
  by_cases e : a = i
  · subst e
    exact h.2 b hb
  · exact h.1 a b hb (by omega)

theorem oneT_of {ps : List Pst} (h : UpT ps ps.length) : OneT ps := by
  intro x hx y hy hvx hvy hf e ht
  obtain ⟨a, ha, rfl⟩ := List.getElem_of_mem hx
  obtain ⟨b, hb, rfl⟩ := List.getElem_of_mem hy
  have ga : ps.getD a pz = ps[a] := by simp [List.getD, ha]
  have gb : ps.getD b pz = ps[b] := by simp [List.getD, hb]
  by_cases h1 : b < a
  · have := h a b h1 ha
    rw [ga, gb] at this
    have := (this e).2.2.2
    rw [← e] at this
    exact absurd ht this
  · by_cases h2 : a < b
    · have := h b a h2 hb
      rw [ga, gb] at this
      have := (this e.symm).2.2.2
      rw [← e] at this
      exact absurd ht.symm this
    · obtain rfl : a = b := by omega
      rfl

theorem turned_mem (ps : List Pst) (n : Nat) : ∀ x, x ∈ ps ↔ x ∈ ps.drop n ++ ps.take n := by
  intro x
  constructor
  · intro h
    rw [← List.take_append_drop n ps] at h
    rcases List.mem_append.1 h with h | h
    · exact List.mem_append.2 (.inr h)
    · exact List.mem_append.2 (.inl h)
  · intro h
    rcases List.mem_append.1 h with h | h
    · exact List.mem_of_mem_drop h
    · exact List.mem_of_mem_take h

theorem small_turned {ps : List Pst} (h : ∀ i, i < ps.length → (ps.getD i pz).xs.length ≤ 5) (n : Nat) : ∀ i, i < (ps.drop n ++ ps.take n).length → ((ps.drop n ++ ps.take n).getD i pz).xs.length ≤ 5 := by
  have ha : ∀ x ∈ ps, x.xs.length ≤ 5 := fun x hx => by
    obtain ⟨a, ha, rfl⟩ := List.getElem_of_mem hx
    have := h a ha
    simpa [List.getD, ha] using this
  intro i hi
  have hm : (ps.drop n ++ ps.take n).getD i pz ∈ ps.drop n ++ ps.take n := by
    rw [List.getD, List.getElem?_eq_getElem hi]
    exact List.getElem_mem hi
  exact ha _ ((turned_mem ps n _).2 hm)

/-- Found. -/
def hitT (x p : Pst) : Bool := (p.f == x.f) && decide (p.xs = x.xs)

theorem hit_next (qs : List Pst) (x : Pst) (k : Nat) (hk : k < qs.length) : (qs.take (k + 1)).any (hitT x) = ((qs.take k).any (hitT x) || hitT x (qs.getD k pz)) := by
  rw [List.take_succ_eq_append_getElem hk, List.any_append]
  simp [List.getD, hk]

theorem hit_all {qs : List Pst} {x : Pst} (h : x ∈ qs) (M : Nat) (hM : qs.length = M) : (qs.take M).any (hitT x) = true := by
  rw [← hM, List.take_length]
  exact List.any_eq_true.2 ⟨x, h, by simp [hitT]⟩

theorem ps_cells {w : World} {a : Option Addr} {ps : List Pst} (h : IsPs w a ps) {k : Nat} (hk : k < ps.length) : ∃ b o a' cap, a = some ⟨b, o, none⟩ ∧ b < w.heap.size ∧ w.cell? ⟨b, o + k * 3, none⟩ = some (.int .i64 (ps.getD k pz).f) ∧ w.cell? ⟨b, o + k * 3 + 1, none⟩ = some (.slice a' (ps.getD k pz).xs.length cap) ∧ w.cell? ⟨b, o + k * 3 + 2, none⟩ = some (.int .i64 (ps.getD k pz).y) ∧ IsIs w a' (ps.getD k pz).xs := by
  obtain ⟨b, o, a', cap, h1, h2, ⟨h3, h4, h5⟩, -, h7⟩ := ps_at h (Below.refl _ _) rfl hk
  exact ⟨b, o, a', cap, h1, h2, h3, h4, h5, h7⟩

end Go.Proofs.Ytpejdhbajejmoaa
