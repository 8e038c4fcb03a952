import Derived.Test.YtojgahcogpediaaPack10
import Derived.Test.YtojgahcogpediaaPack7
import Derived.Test.YtojgahcogpediaaPack8
import Derived.Test.YtojgahcogpediaaPack9
import Derived.Test.YtojgahcogpediaaPack5
import Derived.Test.YtojgahcogpediaaPack1
import Derived.Test.YtojgahcogpediaaPack6
/- The specification's l03Stay: which of some writes fit. -/
namespace Go.Proofs.Ytojgahcogpediaa
open Go.ChangeShapes Go.WideShapes Go.ChangeAt Go.RowKit Go.Joins
attribute [local go_sem ↓] Go.wp_at_zero Go.wp_at_succ

/-- The map with those of the first k writes that are marked. -/
def allTo (us vs : List Wr) (st : Nat → Bool) : Nat → List Wr
  | 0 => us
  | k + 1 => match st k with
    | true => putW (allTo us vs st k) (vs.getD k wz)
    | false => allTo us vs st k

theorem allTo_yes {us vs : List Wr} {st : Nat → Bool} {k : Nat} (h : st k = true) : allTo us vs st (k + 1) = putW (allTo us vs st k) (vs.getD k wz) := by
  unfold allTo
  rw [h]
  cases k <;> rfl

theorem allTo_no {us vs : List Wr} {st : Nat → Bool} {k : Nat} (h : st k = false) : allTo us vs st (k + 1) = allTo us vs st k := by
  rw [allTo, h]

def allOf (us vs : List Wr) (st : Nat → Bool) : List Wr := allTo us vs st vs.length

/-- One round: who stays. -/
def nextS (us vs : List Wr) (st : Nat → Bool) (j : Nat) : Bool := st j && covB (allOf us vs st) (vs.getD j wz).xs

def stayAt (us vs : List Wr) : Nat → (Nat → Bool)
  | 0 => fun _ => true
  | n + 1 => nextS us vs (stayAt us vs n)

def midS (us vs : List Wr) (st : Nat → Bool) (k j : Nat) : Bool := if j < k then nextS us vs st j else st j

theorem allTo_len (us vs : List Wr) (st : Nat → Bool) : ∀ k, (allTo us vs st k).length ≤ us.length + k
  | 0 => Nat.le_refl _
  | k + 1 => by
    have h := allTo_len us vs st k
    cases hb : st k
    · rw [allTo_no hb]
      omega
    · rw [allTo_yes hb]
      have := put_len (allTo us vs st k) (vs.getD k wz)
      omega

theorem allTo_few {us vs : List Wr} (st : Nat → Bool) (hu : Few us) (hv : Few vs) : ∀ k, k ≤ vs.length → Few (allTo us vs st k)
  | 0, _ => hu
  | k + 1, hk => by
    have h := allTo_few st hu hv k (by omega)
    cases hb : st k
    · rw [allTo_no hb]
      exact h
    · rw [allTo_yes hb]
      exact put_few h (hv k (by omega))

def cnt (st : Nat → Bool) : Nat → Nat
  | 0 => 0
  | k + 1 => cnt st k + (st k).toNat

theorem cnt_congr {s t : Nat → Bool} : ∀ {m}, (∀ j, j < m → s j = t j) → cnt s m = cnt t m
  | 0, _ => rfl
  | m + 1, h => by
    unfold cnt
    rw [cnt_congr (fun j hj => h j (by omega)), h m (by omega)]

theorem cnt_le {s t : Nat → Bool} : ∀ {m}, (∀ j, j < m → s j = true → t j = true) → cnt s m ≤ cnt t m
  | 0, _ => Nat.le_refl _
  | m + 1, h => by
    unfold cnt
    have h1 := cnt_le (m := m) (s := s) (t := t) (fun j hj => h j (by omega))
    have h2 := h m (by omega)
    cases e : s m <;> cases e' : t m <;> simp [e, e'] at h2 ⊢ <;> omega

theorem cnt_lt {s t : Nat → Bool} : ∀ {m}, (∀ j, j < m → s j = true → t j = true) → (∃ j, j < m ∧ t j = true ∧ s j = false) → cnt s m < cnt t m
  | 0, _, h => by obtain ⟨j, hj, _⟩ := h; omega
  | m + 1, h, h' => by
    obtain ⟨j, hj, h3, h4⟩ := h'
    unfold cnt
    by_cases hm : j = m
    · subst hm
      have h1 := cnt_le (m := j) (s := s) (t := t) (fun i hi => h i (by omega))
      rw [h3, h4]
      simp
      omega
    · have h1 := cnt_lt (m := m) (s := s) (t := t) (fun i hi => h i (by omega)) ⟨j, by omega, h3, h4⟩
      have h2 := h m (by omega)
      cases e : s m <;> cases e' : t m <;> simp [e, e'] at h2 ⊢ <;> omega

def boolAt (w : World) (g j : Nat) : Bool := match w.cell? ⟨g, j, none⟩ with
  | some (.bool b) => b
  | _ => false

def cntW (w : World) (g m : Nat) : Nat := cnt (boolAt w g) m

def bfill (st : Nat → Bool) (j : Nat) : Value := .bool (st j)

theorem cntW_row {w : World} {g t m : Nat} {st : Nat → Bool} (h : w.rowIs g t m (bfill st)) : cntW w g m = cnt st m :=
  cnt_congr fun j hj => by
    unfold boolAt
    rw [h.cell hj]
    rfl

theorem next_le {us vs : List Wr} {st : Nat → Bool} {j : Nat} (h : nextS us vs st j = true) : st j = true := by
  unfold nextS at h
  rw [Bool.and_eq_true] at h
  exact h.1

/-- What the second loop knows of the first k: whether all stay. -/
def Sames (us vs : List Wr) (st : Nat → Bool) (sb : Bool) (k : Nat) : Prop :=
  (sb = true → ∀ j, j < k → nextS us vs st j = st j) ∧ (sb = false → ∃ j, j < k ∧ st j = true ∧ nextS us vs st j = false)

theorem sames_start (us vs : List Wr) (st : Nat → Bool) : Sames us vs st true 0 := ⟨fun _ j hj => by omega, fun h => by simp at h⟩

theorem sames_stay {us vs : List Wr} {st : Nat → Bool} {sb : Bool} {k : Nat} (h : Sames us vs st sb k) (hk : nextS us vs st k = st k) : Sames us vs st sb (k + 1) :=
  ⟨fun hs j hj => by
    by_cases h' : j < k
    · exact h.1 hs j h'
    · have : j = k := by omega
      rw [this, hk], fun hs => by
    obtain ⟨j, hj, h1⟩ := h.2 hs
    exact ⟨j, by omega, h1⟩⟩

theorem sames_go {us vs : List Wr} {st : Nat → Bool} {k : Nat} (h1 : st k = true) (h2 : nextS us vs st k = false) : Sames us vs st false (k + 1) :=
  ⟨fun hs => by simp at hs, fun _ => ⟨k, by omega, h1, h2⟩⟩

theorem mid_stay {us vs : List Wr} {st : Nat → Bool} {k : Nat} (hk : nextS us vs st k = st k) (j : Nat) : midS us vs st (k + 1) j = midS us vs st k j := by
  unfold midS
  by_cases h : j < k
  · rw [if_pos h, if_pos (by omega)]
  · rw [if_neg h]
    by_cases h' : j = k
    · rw [if_pos (by omega), h', hk]
    · rw [if_neg (by omega)]

theorem mid_go {us vs : List Wr} {st : Nat → Bool} {k : Nat} (hk : nextS us vs st k = false) (j : Nat) : (if j = k then Value.bool false else bfill (midS us vs st k) j) = bfill (midS us vs st (k + 1)) j := by
  unfold bfill midS
  by_cases h' : j = k
  · rw [if_pos h', if_pos (by omega), h', hk]
  · rw [if_neg h']
    by_cases h : j < k
    · rw [if_pos h, if_pos (by omega)]
    · rw [if_neg h, if_neg (by omega)]

theorem mid_end {us vs : List Wr} {st : Nat → Bool} {m : Nat} {j : Nat} (hj : j < m) : bfill (midS us vs st m) j = bfill (nextS us vs st) j := by
  unfold bfill midS
  rw [if_pos hj]

theorem bstart_go (k j : Nat) : (if j = k then Value.bool true else bfill (fun j => decide (j < k)) j) = bfill (fun j => decide (j < k + 1)) j := by
  unfold bfill
  by_cases h' : j = k
  · rw [if_pos h', h']
    simp
  · rw [if_neg h']
    congr 1
    simp only [decide_eq_decide]
    omega

theorem infoBool : (Try.prog.info? 4).map (fun i => (i.zero, i.size, i.bytes)) = some (some (.bool false), 1, 1) := by kernel_rfl

theorem brow_start (w : World) (t n : Nat) : (w.alloc (.cells (madeCells #[.bool false] n) t)).rowIs w.heap.size t n (bfill fun j => decide (j < 0)) := by
  refine ⟨_, Go.Deep.blk_alloc_new _ _, size_madeCells _ _, fun i hi => ?_⟩
  simp [madeCells, hi, bfill, Nat.mod_one]

end Go.Proofs.Ytojgahcogpediaa

/- What fits together, with no program in sight: the rounds end at the greatest that fits. -/
namespace Go.Proofs.Ytojgahcogpediaa
open Go.ChangeShapes Go.WideShapes Go.ChangeAt Go.RowKit Go.Joins

theorem tcmp_ge_trans {c s q c' s' q' c2 s2 q2 : Int} (h : 0 ≤ tcmp c s q c' s' q') (h' : 0 ≤ tcmp c' s' q' c2 s2 q2) : 0 ≤ tcmp c s q c2 s2 q2 := by
  have t := tcmp_three c2 s2 q2 c' s' q' c s q
  rw [tcmp_neg c' s' q' c2 s2 q2, tcmp_neg c s q c' s' q', tcmp_neg c s q c2 s2 q2] at t
  rcases t.on (by omega) (by omega) with h1 | h1 <;> omega

theorem cmpW_neg_t {x y : Wr} (h : cmpW y x < 0) : 0 ≤ tcmp x.c x.s x.q y.c y.s y.q := by
  rw [tcmp_neg y.c y.s y.q x.c x.s x.q]
  unfold cmpW wcmp at h
  by_cases ht : tcmp y.c y.s y.q x.c x.s x.q = 0
  · omega
  · rw [if_pos ht] at h
    omega

theorem cmpW_ge_t {x y : Wr} (h : ¬ cmpW y x < 0) : 0 ≤ tcmp y.c y.s y.q x.c x.s x.q := by
  unfold cmpW wcmp at h
  by_cases ht : tcmp y.c y.s y.q x.c x.s x.q = 0
  · omega
  · rw [if_pos ht] at h
    omega

theorem has_put {ws : List Wr} (h : Rise ws) (x : Wr) (key c s q : Int) : hasB (putW ws x) key c s q = true ↔ hasB ws key c s q = true ∨ (x.k = key ∧ 0 ≤ tcmp x.c x.s x.q c s q) := by
  unfold hasB
  rw [find_putW h]
  by_cases hk : key = x.k
  · subst hk
    rw [if_pos rfl]
    cases hf : findW ws x.k with
    | none =>
      show decide (0 ≤ tcmp x.c x.s x.q c s q) = true ↔ false = true ∨ (x.k = x.k ∧ 0 ≤ tcmp x.c x.s x.q c s q)
      rw [decide_eq_true_eq]
      exact ⟨fun h => .inr ⟨rfl, h⟩, fun h => by
        rcases h with h | h
        · simp at h
        · exact h.2⟩
    | some y =>
      by_cases hc : cmpW y x < 0
      · have e : laterO (some y) x = x := by
          unfold laterO
          exact if_pos hc
        rw [e]
        show decide (0 ≤ tcmp x.c x.s x.q c s q) = true ↔ decide (0 ≤ tcmp y.c y.s y.q c s q) = true ∨ (x.k = x.k ∧ 0 ≤ tcmp x.c x.s x.q c s q)
        rw [decide_eq_true_eq, decide_eq_true_eq]
        exact ⟨fun h => .inr ⟨rfl, h⟩, fun h => by
          rcases h with h | h
          · exact tcmp_ge_trans (cmpW_neg_t hc) h
          · exact h.2⟩
      · have e : laterO (some y) x = y := by
          unfold laterO
          exact if_neg hc
        rw [e]
        show decide (0 ≤ tcmp y.c y.s y.q c s q) = true ↔ decide (0 ≤ tcmp y.c y.s y.q c s q) = true ∨ (x.k = x.k ∧ 0 ≤ tcmp x.c x.s x.q c s q)
        rw [decide_eq_true_eq]
        exact ⟨.inl, fun h => by
          rcases h with h | h
          · exact h
          · exact tcmp_ge_trans (cmpW_ge_t hc) h.2⟩
  · rw [if_neg hk]
    constructor
    · exact .inl
    · rintro (h1 | h1)
      · exact h1
      · exact absurd h1.1.symm hk

theorem rise_allTo {us : List Wr} (vs : List Wr) (st : Nat → Bool) (h : Rise us) : ∀ k, Rise (allTo us vs st k)
  | 0 => h
  | k + 1 => by
    cases hb : st k
    · rw [allTo_no hb]
      exact rise_allTo vs st h k
    · rw [allTo_yes hb]
      exact rise_putW (rise_allTo vs st h k) _

theorem has_allTo {us : List Wr} (vs : List Wr) (st : Nat → Bool) (h : Rise us) (key c s q : Int) : ∀ k, hasB (allTo us vs st k) key c s q = true ↔ hasB us key c s q = true ∨ ∃ j, j < k ∧ st j = true ∧ (vs.getD j wz).k = key ∧ 0 ≤ tcmp (vs.getD j wz).c (vs.getD j wz).s (vs.getD j wz).q c s q
  | 0 => by
    constructor
    · exact .inl
    · rintro (h1 | ⟨j, hj, _⟩)
      · exact h1
      · omega
  | k + 1 => by
    have ih := has_allTo vs st h key c s q k
    cases hb : st k
    · rw [allTo_no hb, ih]
      constructor
      · rintro (h1 | ⟨j, hj, h2⟩)
        · exact .inl h1
        · exact .inr ⟨j, by omega, h2⟩
      · rintro (h1 | ⟨j, hj, h2, h3⟩)
        · exact .inl h1
        · refine .inr ⟨j, ?_, h2, h3⟩
          have : j ≠ k := fun e => by rw [e, hb] at h2; simp at h2
          omega
    · rw [allTo_yes hb, has_put (rise_allTo vs st h k), ih]
      constructor
      · rintro ((h1 | ⟨j, hj, h2⟩) | h1)
        · exact .inl h1
        · exact .inr ⟨j, by omega, h2⟩
        · exact .inr ⟨k, by omega, hb, h1⟩
      · rintro (h1 | ⟨j, hj, h2, h3⟩)
        · exact .inl (.inl h1)
        · by_cases e : j = k
          · rw [e] at h3
            exact .inr h3
          · exact .inl (.inr ⟨j, by omega, h2, h3⟩)

theorem cov_iff (ws : List Wr) (ds : List Dp) : covB ws ds = true ↔ ∀ d ∈ ds, hasB ws d.k d.c d.s d.q = true := by
  unfold covB lacksL
  rw [beq_iff_eq, List.length_eq_zero_iff, List.filter_eq_nil_iff]
  constructor
  · intro h d hd
    have := h d hd
    unfold lacking at this
    simpa using this
  · intro h d hd
    unfold lacking
    rw [h d hd]
    simp

theorem cov_mono {us : List Wr} {vs : List Wr} {s t : Nat → Bool} (h : Rise us) (hst : ∀ j, j < vs.length → s j = true → t j = true) {ds : List Dp} (hc : covB (allOf us vs s) ds = true) : covB (allOf us vs t) ds = true := by
  rw [cov_iff] at *
  intro d hd
  have h1 := hc d hd
  unfold allOf at *
  rw [has_allTo vs _ h] at *
  rcases h1 with h1 | ⟨j, hj, h2, h3⟩
  · exact .inl h1
  · exact .inr ⟨j, hj, hst j hj h2, h3⟩

theorem allTo_congr {us vs : List Wr} {s t : Nat → Bool} : ∀ {k}, (∀ j, j < k → s j = t j) → allTo us vs s k = allTo us vs t k
  | 0, _ => rfl
  | k + 1, h => by
    have ih := allTo_congr (us := us) (vs := vs) (k := k) (fun j hj => h j (by omega))
    have hk := h k (by omega)
    cases hb : t k
    · rw [allTo_no hb, allTo_no (hk.trans hb), ih]
    · rw [allTo_yes hb, allTo_yes (hk.trans hb), ih]

theorem next_congr {us vs : List Wr} {s t : Nat → Bool} (h : ∀ j, j < vs.length → s j = t j) {j : Nat} (hj : j < vs.length) : nextS us vs s j = nextS us vs t j := by
  unfold nextS allOf
  rw [h j hj, allTo_congr h]

/-- Who fits. -/
def fixS (us vs : List Wr) : Nat → Bool := stayAt us vs vs.length

def Fixed (us vs : List Wr) (st : Nat → Bool) : Prop := ∀ j, j < vs.length → nextS us vs st j = st j

theorem fixed_on {us vs : List Wr} {r : Nat} (h : Fixed us vs (stayAt us vs r)) : ∀ s, ∀ j, j < vs.length → stayAt us vs (r + s) j = stayAt us vs r j
  | 0, j, _ => rfl
  | s + 1, j, hj => by
    show nextS us vs (stayAt us vs (r + s)) j = _
    rw [next_congr (fixed_on h s) hj]
    exact h j hj

theorem stay_rounds (us vs : List Wr) : ∀ r, (∃ s, s ≤ r ∧ Fixed us vs (stayAt us vs s)) ∨ cnt (stayAt us vs r) vs.length + r ≤ vs.length
  | 0 => by
    right
    have h : ∀ (st : Nat → Bool) m, cnt st m ≤ m := by
      intro st m
      induction m with
      | zero => exact Nat.le_refl _
      | succ m ih =>
        unfold cnt
        cases st m <;> simp <;> omega
    have := h (stayAt us vs 0) vs.length
    omega
  | r + 1 => by
    rcases stay_rounds us vs r with ⟨s, hs, hf⟩ | h
    · exact .inl ⟨s, by omega, hf⟩
    · by_cases hf : Fixed us vs (stayAt us vs r)
      · exact .inl ⟨r, by omega, hf⟩
      · right
        unfold Fixed at hf
        simp only [Classical.not_forall] at hf
        obtain ⟨j, hj, hne⟩ := hf
        have hlt : cnt (nextS us vs (stayAt us vs r)) vs.length < cnt (stayAt us vs r) vs.length := by
          refine cnt_lt (fun j _ h => next_le h) ⟨j, hj, ?_⟩
          cases h1 : stayAt us vs r j <;> cases h2 : nextS us vs (stayAt us vs r) j
          · rw [h1, h2] at hne; exact absurd rfl hne
          · have := next_le h2; rw [h1] at this; simp at this
          · exact ⟨rfl, rfl⟩
          · rw [h1, h2] at hne; exact absurd rfl hne
        show cnt (nextS us vs (stayAt us vs r)) vs.length + (r + 1) ≤ vs.length
        omega

theorem cnt_zero {s : Nat → Bool} : ∀ {m}, cnt s m = 0 → ∀ j, j < m → s j = false
  | 0, _, j, hj => by omega
  | m + 1, h, j, hj => by
    unfold cnt at h
    by_cases e : j = m
    · rw [e]
      cases hb : s m
      · rfl
      · rw [hb] at h; simp at h
    · exact cnt_zero (m := m) (by omega) j (by omega)

theorem fix_fixed (us vs : List Wr) : Fixed us vs (fixS us vs) := by
  rcases stay_rounds us vs vs.length with ⟨s, hs, hf⟩ | h
  · have h1 := fixed_on hf (vs.length - s)
    rw [show s + (vs.length - s) = vs.length by omega] at h1
    intro j hj
    unfold fixS
    rw [next_congr h1 hj, hf j hj, h1 j hj]
  · have h0 := cnt_zero (m := vs.length) (s := stayAt us vs vs.length) (by omega)
    intro j hj
    have h1 := h0 j hj
    unfold fixS
    rw [h1]
    cases h2 : nextS us vs (stayAt us vs vs.length) j
    · rfl
    · have := next_le h2
      rw [h1] at this
      simp at this

theorem stay_is_fix {us vs : List Wr} {r : Nat} (h : Fixed us vs (stayAt us vs r)) : ∀ j, j < vs.length → stayAt us vs r j = fixS us vs j := by
  intro j hj
  by_cases hr : r ≤ vs.length
  · have h1 := fixed_on h (vs.length - r) j hj
    rw [show r + (vs.length - r) = vs.length by omega] at h1
    exact h1.symm
  · have h1 := fixed_on (fix_fixed us vs) (r - vs.length) j hj
    rw [show vs.length + (r - vs.length) = r by omega] at h1
    exact h1

theorem fix_great {us vs : List Wr} (h : Rise us) {T : Nat → Bool} (hT : ∀ j, j < vs.length → T j = true → covB (allOf us vs T) (vs.getD j wz).xs = true) : ∀ r, ∀ j, j < vs.length → T j = true → stayAt us vs r j = true
  | 0, j, _, _ => rfl
  | r + 1, j, hj, h1 => by
    show nextS us vs (stayAt us vs r) j = true
    unfold nextS
    rw [fix_great h hT r j hj h1, Bool.true_and]
    exact cov_mono h (fun i hi h2 => fix_great h hT r i hi h2) (hT j hj h1)

/-- What strikes out only what is not covered strikes out nothing that fits. -/
theorem fix_kept {us vs : List Wr} (h : Rise us) {S : Nat → Bool} (hS : ∀ j, j < vs.length → fixS us vs j = true → S j = true) {p : Nat} (hp : p < vs.length) (hc : covB (allOf us vs S) (vs.getD p wz).xs = false) : fixS us vs p = false := by
  cases hb : fixS us vs p
  · rfl
  · have h1 := fix_fixed us vs p hp
    rw [hb] at h1
    unfold nextS at h1
    rw [Bool.and_eq_true] at h1
    have h2 := cov_mono h hS h1.2
    rw [hc] at h2
    simp at h2

/-- What keeps all that fits, and is covered by itself, is what fits. -/
theorem fix_is {us vs : List Wr} (h : Rise us) {S : Nat → Bool} (hS : ∀ j, j < vs.length → fixS us vs j = true → S j = true) (hc : ∀ j, j < vs.length → S j = true → covB (allOf us vs S) (vs.getD j wz).xs = true) : ∀ j, j < vs.length → S j = fixS us vs j := by
  intro j hj
  cases hb : S j
  · cases hf : fixS us vs j
    · rfl
    · rw [hS j hj hf] at hb
      simp at hb
  · exact (fix_great h hc vs.length j hj hb).symm

/-- Those of the first k that are marked so. -/
def thoseTo (vs : List Wr) (st : Nat → Bool) (fit : Bool) : Nat → List Wr
  | 0 => []
  | k + 1 => if st k = fit then thoseTo vs st fit k ++ [vs.getD k wz] else thoseTo vs st fit k

theorem those_congr {vs : List Wr} {s t : Nat → Bool} {fit : Bool} : ∀ {k}, (∀ j, j < k → s j = t j) → thoseTo vs s fit k = thoseTo vs t fit k
  | 0, _ => rfl
  | k + 1, h => by
    unfold thoseTo
    rw [h k (by omega), those_congr (k := k) (fun j hj => h j (by omega))]

theorem those_len (vs : List Wr) (st : Nat → Bool) (fit : Bool) : ∀ k, (thoseTo vs st fit k).length ≤ k
  | 0 => Nat.le_refl _
  | k + 1 => by
    have := those_len vs st fit k
    unfold thoseTo
    split
    · simp
      omega
    · omega

theorem allTo_join (us vs : List Wr) (st : Nat → Bool) : ∀ k, allTo us vs st k = joinW us (thoseTo vs st true k)
  | 0 => rfl
  | k + 1 => by
    have ih := allTo_join us vs st k
    unfold thoseTo
    cases hb : st k
    · rw [allTo_no hb, ih, if_neg (by simp)]
    · rw [allTo_yes hb, ih, if_pos rfl]
      unfold joinW
      rw [List.foldl_append]
      rfl

/-- What fits, what is held. -/
def fitL (us vs : List Wr) (fit : Bool) : List Wr := match rightB us vs with
  | true => thoseTo vs (fixS us vs) fit vs.length
  | false => []

end Go.Proofs.Ytojgahcogpediaa

/- The specification's l03Those, Held, Fitting. -/
namespace Go.Proofs.Ytojgahcogpediaa
open Go.ChangeShapes Go.WideShapes Go.ChangeAt Go.RowKit Go.Joins
attribute [local go_sem ↓] Go.wp_at_zero Go.wp_at_succ

theorem those_yes {vs : List Wr} {st : Nat → Bool} {fit : Bool} {k : Nat} (h : st k = fit) : thoseTo vs st fit (k + 1) = thoseTo vs st fit k ++ [vs.getD k wz] := by
  rw [thoseTo, if_pos h]

theorem those_no {vs : List Wr} {st : Nat → Bool} {fit : Bool} {k : Nat} (h : st k ≠ fit) : thoseTo vs st fit (k + 1) = thoseTo vs st fit k := by
  rw [thoseTo, if_neg h]

end Go.Proofs.Ytojgahcogpediaa

/- Lists of writes that a call answers, or that are handed to one: marks on them, and what marks leave alone. -/
namespace Go.Proofs.Ytojgahcogpediaa
open Go.ChangeShapes Go.WideShapes Go.ChangeAt Go.RowKit Go.Joins
attribute [local go_sem ↓] Go.wp_at_zero Go.wp_at_succ

/-- What was written lies in these blocks. -/
abbrev Span (lo hi : Nat) (x : Nat) : Prop := lo ≤ x ∧ x < hi

/-- A list of writes of one's own, between two block numbers; it may be nil where it is empty. -/
def OwnA (w : World) (lo hi : Nat) (a : Option Addr) (ws : List Wr) (γ : Nat → Nat) : Prop :=
  ws = [] ∨ ∃ b, a = some ⟨b, 0, none⟩ ∧ OwnG w lo b ws γ ∧ b < hi ∧ ∀ i, i < ws.length → 0 < (ws.getD i wz).xs.length → γ i < hi

theorem OwnG.ownA {w : World} {lo b : Nat} {ws : List Wr} {γ : Nat → Nat} (h : OwnG w lo b ws γ) : OwnA w lo w.heap.size (some ⟨b, 0, none⟩) ws γ :=
  .inr ⟨b, rfl, h, h.lt, fun i hi hp => (h.deps i hi hp).2.1⟩

theorem RowG.ownA {w : World} {base : Nat} {v : Value} {es : List EnG} (h : RowG w base v es) {ws : List Wr} (hw : es.map (·.x) = ws) : ∃ a cap n, v = .slice a n cap ∧ ws.length = n ∧ OwnA w base w.heap.size a ws (gammaG es) := by
  obtain ⟨a, cap, h1, h2⟩ := h.form
  subst hw
  refine ⟨a, cap, es.length, h1, by simp, ?_⟩
  rcases h2 with h2 | ⟨b, rfl, h2⟩
  · exact .inl (by simp [h2])
  · exact h2.ownA

theorem OwnA.below {w w' : World} {lo hi : Nat} {a : Option Addr} {ws : List Wr} {γ : Nat → Nat} (h : OwnA w lo hi a ws γ) (hb : Below w.heap.size w w') : OwnA w' lo hi a ws γ := by
  rcases h with h | ⟨b, h1, h2, h3⟩
  · exact .inl h
  · exact .inr ⟨b, h1, h2.below hb, h3⟩

theorem OwnG.only {w w' : World} {S : Nat → Prop} {base b : Nat} {ws : List Wr} {γ : Nat → Nat} (h : OwnG w base b ws γ) (ho : Only S w w') (hS : ∀ x, S x → x < base) : OwnG w' base b ws γ where
  lt := by rw [ho.size]; exact h.lt
  le := h.le
  open_ := fun o => (ho.frozen _).trans (h.open_ o)
  at_ := fun i hi => by
    obtain ⟨a, cap, h1, h2⟩ := h.at_ i hi
    exact ⟨a, cap, h1.of_block (ho.block b fun e => by have := hS b e; have := h.le; omega), h2⟩
  deps := fun i hi hp => by
    obtain ⟨h1, h2, h3, h4, h5⟩ := h.deps i hi hp
    have hb : w'.heap[γ i]? = w.heap[γ i]? := ho.block _ fun e => by have := hS _ e; omega
    have e' : ∀ o, w'.cell? ⟨γ i, o, none⟩ = w.cell? ⟨γ i, o, none⟩ := fun o => World.cell?_of_block (a := ⟨γ i, o, none⟩) hb
    exact ⟨h1, by rw [ho.size]; exact h2, h3, fun j hj => ⟨(e' _).trans (h4 j hj).1, (e' _).trans (h4 j hj).2.1, (e' _).trans (h4 j hj).2.2.1, (e' _).trans (h4 j hj).2.2.2⟩, fun o => (ho.frozen _).trans (h5 o)⟩
  inj := h.inj

theorem OwnA.only {w w' : World} {S : Nat → Prop} {lo hi : Nat} {a : Option Addr} {ws : List Wr} {γ : Nat → Nat} (h : OwnA w lo hi a ws γ) (ho : Only S w w') (hS : ∀ x, S x → x < lo) : OwnA w' lo hi a ws γ := by
  rcases h with h | ⟨b, h1, h2, h3⟩
  · exact .inl h
  · exact .inr ⟨b, h1, h2.only ho hS, h3⟩

theorem OwnA.isWs {w : World} {lo hi : Nat} {a : Option Addr} {ws : List Wr} {γ : Nat → Nat} (h : OwnA w lo hi a ws γ) (hx : Few ws) : IsWs w a ws := by
  rcases h with h | ⟨b, h1, h2, _⟩
  · exact .inl h
  · rw [h1]
    exact h2.isWs hx

/-- A list that is marked. -/
def MarkedA (w : World) (a : Option Addr) (ws : List Wr) (γ : Nat → Nat) (k : Int) : Prop :=
  ws = [] ∨ ∃ b, a = some ⟨b, 0, none⟩ ∧ MarkedWs w b ws γ k ∧ b < w.heap.size ∧ ∀ i, i < ws.length → 0 < (ws.getD i wz).xs.length → γ i < w.heap.size

theorem MarkedA.below {w w' : World} {a : Option Addr} {ws : List Wr} {γ : Nat → Nat} {k : Int} (h : MarkedA w a ws γ k) (hb : Below w.heap.size w w') : MarkedA w' a ws γ k := by
  rcases h with h | ⟨b, h1, h2, h3, h4⟩
  · exact .inl h
  · exact .inr ⟨b, h1, h2.below hb h3 h4, Nat.lt_of_lt_of_le h3 hb.size, fun i hi hp => Nat.lt_of_lt_of_le (h4 i hi hp) hb.size⟩

set_option maxHeartbeats 1000000 in
theorem markWriteS_nil (a : Option Addr) (cap : Nat) (k : Int) (w : World) :
    Calls Try.prog 18 #[.slice a 0 cap, .int .i64 k] w fun e w' => e = .returned (.int .i64 k) ∧ w' = w := by
  go_enter Try.func18, Try.ntmps18
  go_wp2
  go_loopw [1, 5] (fun l i wr => i = .int .i64 0 ∧ l = .int .i64 k ∧ wr = w) (fun _ _ _ => 0)
  case atStart => exact ⟨rfl, rfl, rfl⟩
  case round =>
    obtain ⟨rfl, rfl, rfl⟩ := hrel
    go_wp2
    go_ret
    exact ⟨rfl, rfl⟩

set_option maxHeartbeats 1000000 in
theorem heldWriteS_nil (a : Option Addr) (cap : Nat) (k : Int) (w : World) :
    Calls Try.prog 24 #[.slice a 0 cap, .int .i64 k] w fun e w' => e = .returned (.int .i64 k) ∧ w' = w := by
  go_enter Try.func24, Try.ntmps24
  go_wp2
  go_loopw [1, 5] (fun l i wr => i = .int .i64 0 ∧ l = .int .i64 k ∧ wr = w) (fun _ _ _ => 0)
  case atStart => exact ⟨rfl, rfl, rfl⟩
  case round =>
    obtain ⟨rfl, rfl, rfl⟩ := hrel
    go_wp2
    go_ret
    exact ⟨rfl, rfl⟩

theorem markWriteS_all (lo hi n cap : Nat) (a : Option Addr) (k : Int) (ws : List Wr) (γ : Nat → Nat) (w : World) (hn : ws.length = n) (hm : n ≤ 1048576) (hbk : bulk ws ≤ 1048576) (h0 : 0 ≤ k) (h1 : k ≤ 1073741824) (h : OwnA w lo hi a ws γ) :
    Calls Try.prog 18 #[.slice a n cap, .int .i64 k] w fun e w' => e = .returned (.int .i64 (markK ws k n)) ∧ MarkedA w' a ws γ k ∧ Only (Span lo hi) w w' := by
  rcases h with h | ⟨b, rfl, h2, h3, h4⟩
  · subst h
    have hn0 : n = 0 := by rw [← hn]; rfl
    subst hn0
    refine (markWriteS_nil a cap k w).mono ?_
    rintro e w' ⟨rfl, rfl⟩
    exact ⟨by rw [markK_zero], .inl rfl, Only.refl _ _⟩
  · refine (markWriteS_any lo b n cap k ws γ w hn hm hbk h0 h1 h2).mono ?_
    rintro e w' ⟨rfl, h5, h6⟩
    have hS : ∀ x, TakenUp b ws γ x → Span lo hi x := fun x hx => by
      rcases hx with rfl | ⟨i, hi, hp, rfl⟩
      · exact ⟨h2.le, h3⟩
      · exact ⟨(h2.deps i hi hp).1, h4 i hi hp⟩
    refine ⟨rfl, .inr ⟨b, rfl, h5, by rw [h6.size]; exact h2.lt, fun i hi hp => by rw [h6.size]; exact (h2.deps i hi hp).2.1⟩, ?_⟩
    exact ⟨h6.os, h6.tape, h6.output, h6.size, fun x hx => h6.block x fun e => hx (hS x e), h6.frozen⟩

theorem heldWriteS_all (n cap : Nat) (a : Option Addr) (k : Int) (ws : List Wr) (γ : Nat → Nat) (w : World) (hn : ws.length = n) (hm : n ≤ 1048576) (hbk : bulk ws ≤ 1048576) (h0 : 0 ≤ k) (h1 : k ≤ 1073741824) (h : MarkedA w a ws γ k) :
    Calls Try.prog 24 #[.slice a n cap, .int .i64 k] w fun e w' => e = .returned (.int .i64 (markK ws k n)) ∧ w' = w := by
  rcases h with h | ⟨b, rfl, h2, _⟩
  · subst h
    have hn0 : n = 0 := by rw [← hn]; rfl
    subst hn0
    rw [markK_zero]
    exact heldWriteS_nil a cap k w
  · exact heldWriteS_any b n cap k ws γ w hn hm hbk h0 h1 h2

/-- The keys of dependencies that are right rise from 0 on: there are at most six. -/
theorem depsOk_len {xs : List Dp} (h : depsOkB xs = true) : xs.length ≤ 6 := by
  unfold depsOkB at h
  rw [List.all_eq_true] at h
  have hg : ∀ i, i < xs.length → (i : Int) ≤ (xs.getD i dz).k ∧ (xs.getD i dz).k ≤ 5 := by
    intro i
    induction i with
    | zero =>
      intro hi
      have := h 0 (List.mem_range.2 hi)
      unfold depGood btw at this
      simp only [Bool.and_eq_true, decide_eq_true_eq] at this
      exact ⟨by have := this.1.1; omega, this.1.2⟩
    | succ i ih =>
      intro hi
      have h1 := ih (by omega)
      have := h (i + 1) (List.mem_range.2 hi)
      unfold depGood btw at this
      simp only [Bool.and_eq_true, decide_eq_true_eq] at this
      rcases this.2.2 with h2 | h2
      · omega
      · rw [show i + 1 - 1 = i from rfl] at h2
        exact ⟨by omega, this.1.2⟩
  by_cases h7 : xs.length ≤ 6
  · exact h7
  · have := hg 6 (by omega)
    omega

theorem okW_len {x : Wr} (h : okW x = true) : x.xs.length ≤ 6 := by
  unfold okW writeOkB at h
  simp only [Bool.and_eq_true] at h
  exact depsOk_len h.2.2.2.1

theorem bulk_le {ws : List Wr} {m : Nat} (h : ∀ x ∈ ws, x.xs.length ≤ m) : bulk ws ≤ ws.length * m := by
  induction ws with
  | nil => simp [bulk]
  | cons x r ih =>
    have h1 := h x (by simp)
    have h2 := ih fun y hy => h y (by simp [hy])
    simp only [bulk, List.length_cons]
    rw [Nat.add_mul]
    omega

end Go.Proofs.Ytojgahcogpediaa

/- What fits, what is held: plain facts. -/
namespace Go.Proofs.Ytojgahcogpediaa
open Go.ChangeShapes Go.WideShapes Go.ChangeAt Go.RowKit Go.Joins

theorem those_mem (vs : List Wr) (st : Nat → Bool) (fit : Bool) : ∀ k, k ≤ vs.length → ∀ x ∈ thoseTo vs st fit k, x ∈ vs
  | 0, _, x, hx => by simp [thoseTo] at hx
  | k + 1, hk, x, hx => by
    unfold thoseTo at hx
    split at hx
    · rcases List.mem_append.1 hx with h | h
      · exact those_mem vs st fit k (by omega) x h
      · have : x = vs.getD k wz := by simpa using h
        rw [this]
        have e : vs.getD k wz = vs[k] := by simp [List.getD, show k < vs.length by omega]
        rw [e]
        exact List.getElem_mem (by omega)
    · exact those_mem vs st fit k (by omega) x hx

theorem bulk_app : ∀ (xs ys : List Wr), bulk (xs ++ ys) = bulk xs + bulk ys
  | [], ys => by simp [bulk]
  | x :: r, ys => by
    have ih := bulk_app r ys
    show x.xs.length + bulk (r ++ ys) = x.xs.length + bulk r + bulk ys
    omega

theorem those_bulk (vs : List Wr) (st : Nat → Bool) (fit : Bool) : ∀ k, k ≤ vs.length → bulk (thoseTo vs st fit k) ≤ bulk (vs.take k)
  | 0, _ => by simp [thoseTo, bulk]
  | k + 1, hk => by
    have ih := those_bulk vs st fit k (by omega)
    have e := bulk_take vs k (by omega)
    unfold thoseTo
    split
    · rw [bulk_app, e]
      have : bulk [vs.getD k wz] = (vs.getD k wz).xs.length := by simp [bulk]
      omega
    · omega

theorem fitL_mem {us vs : List Wr} {fit : Bool} {x : Wr} (h : x ∈ fitL us vs fit) : x ∈ vs := by
  unfold fitL at h
  cases hr : rightB us vs
  · rw [hr] at h
    simp at h
  · rw [hr] at h
    exact those_mem vs _ fit _ (Nat.le_refl _) x h

theorem fitL_len (us vs : List Wr) (fit : Bool) : (fitL us vs fit).length ≤ vs.length := by
  unfold fitL
  cases rightB us vs
  · exact Nat.zero_le _
  · exact those_len vs _ fit _

theorem fitL_bulk (us vs : List Wr) (fit : Bool) : bulk (fitL us vs fit) ≤ bulk vs := by
  unfold fitL
  cases rightB us vs
  · simp [bulk]
  · have := those_bulk vs (fixS us vs) fit vs.length (Nat.le_refl _)
    rw [List.take_of_length_le (Nat.le_refl _)] at this
    exact this

theorem fitL_few {us vs : List Wr} (hy : Few vs) (fit : Bool) : Few (fitL us vs fit) := fun i hi => by
  have hm : (fitL us vs fit).getD i wz ∈ fitL us vs fit := by
    have e : (fitL us vs fit).getD i wz = (fitL us vs fit)[i] := by simp [List.getD, hi]
    rw [e]
    exact List.getElem_mem hi
  obtain ⟨j, hj, e⟩ := List.mem_iff_getElem.1 (fitL_mem hm)
  have := hy j hj
  rw [← e]
  simpa [List.getD, hj] using this

set_option maxRecDepth 100000 in
theorem right_parts {us vs : List Wr} (h : rightB us vs = true) : Rise us ∧ (∀ x ∈ us, okW x = true) ∧ ∀ x ∈ vs, okW x = true := by
  unfold rightB at h
  rw [Bool.and_eq_true] at h
  exact ⟨((mapOk_iff us).1 h.1).2, ((mapOk_iff us).1 h.1).1, fun x hx => List.all_eq_true.1 h.2 x hx⟩

set_option maxRecDepth 100000 in
theorem fitL_right {us vs : List Wr} (h : rightB us vs = true) (fit : Bool) : fitL us vs fit = thoseTo vs (fixS us vs) fit vs.length := by
  unfold fitL
  rw [h]

set_option maxRecDepth 100000 in
theorem fitL_wrong {us vs : List Wr} (h : rightB us vs = false) (fit : Bool) : fitL us vs fit = [] := by
  unfold fitL
  rw [h]

end Go.Proofs.Ytojgahcogpediaa

/- The contract of spec.Widest. -/
namespace Go.Proofs.Ytojgahcogpediaa
open Go.ChangeShapes Go.WideShapes Go.ChangeAt Go.RowKit Go.Joins
attribute [local go_sem ↓] Go.wp_at_zero Go.wp_at_succ

/-- The map with all that fits put to it. -/
def widL (us vs : List Wr) : List Wr := match rightB us vs with
  | true => joinW us (fitL us vs true)
  | false => []

theorem widL_right {us vs : List Wr} (h : rightB us vs = true) : widL us vs = joinW us (fitL us vs true) := by
  unfold widL
  rw [h]

theorem widL_wrong {us vs : List Wr} (h : rightB us vs = false) : widL us vs = [] := by
  unfold widL
  rw [h]

theorem widL_mapOk (us vs : List Wr) : mapOkB (widL us vs) = true := by
  cases h : rightB us vs
  · rw [widL_wrong h]
    rfl
  · rw [widL_right h]
    obtain ⟨h1, h2, h3⟩ := right_parts h
    obtain ⟨j1, j2, -⟩ := join_spec (fitL us vs true) us h1
    refine (mapOk_iff _).2 ⟨fun x hx => ?_, j1⟩
    rcases j2 x hx with hx | hx
    · exact h2 x hx
    · exact h3 x (fitL_mem hx)

end Go.Proofs.Ytojgahcogpediaa

/- Contracts of impl.MapJoin and impl.MapPut. -/
namespace Go.Proofs.Ytojgahcogpediaa
open Go.ChangeShapes Go.WideShapes Go.ChangeAt Go.RowKit Go.Joins
attribute [local go_sem ↓] Go.wp_at_zero Go.wp_at_succ

def joinB (us vs : List Wr) : List Wr := if mapOkB us = true ∧ mapOkB vs = true then joinW us vs else []

set_option maxRecDepth 100000 in
theorem joinB_not {us vs : List Wr} (h : mapOkB us = false ∨ mapOkB vs = false) : joinB us vs = [] := by
  unfold joinB
  refine if_neg fun h' => ?_
  rcases h with h | h
  · rw [h'.1] at h; cases h
  · rw [h'.2] at h; cases h

set_option maxRecDepth 100000 in
theorem mapOk_keys {ws : List Wr} (h : mapOkB ws = true) : ∀ x ∈ ws, 0 ≤ x.k ∧ x.k ≤ 5 := fun x hx => okW_key (((mapOk_iff ws).1 h).1 x hx)

set_option maxRecDepth 100000 in
theorem mapOk_keys' {ws : List Wr} (h : mapOkB ws = true) : ∀ i, i < ws.length → 0 ≤ (ws.getD i wz).k ∧ (ws.getD i wz).k ≤ 5 := fun i hi => mapOk_keys h _ (by simp [List.getD, hi])

set_option maxRecDepth 100000 in
theorem joinB_told {us vs : List Wr} (ha : mapOkB us = true) (hb : mapOkB vs = true) : toldM (vs.foldl regPut (us.foldl regPut (fun _ => none))) = joinB us vs := by
  unfold joinB
  rw [if_pos ⟨ha, hb⟩]
  exact told_join ((mapOk_iff us).1 ha).2 (mapOk_keys ha) (mapOk_keys hb)

set_option maxRecDepth 100000 in
theorem implMapOk_is (r : Bool) (a : Option Addr) (n cap : Nat) (ws : List Wr) (h : mapOkB ws = r) (w : World) (hn : ws.length = n) (hm : n ≤ 1048576) (hx : Few ws) (hh : IsWs w a ws) :
    Calls Try.prog 38 #[.slice a n cap] w fun e w' => e = .returned (.bool r) ∧ Below w.heap.size w w' := by
  subst h
  exact implMapOk_any a n cap ws w hn hm hx hh

set_option maxRecDepth 100000 in
theorem mapOk_one (x : Wr) : mapOkB [x] = okW x := by
  simp [mapOkB, wrGood, List.range, List.range.loop]

set_option maxRecDepth 100000 in
theorem joinB_one (ws : List Wr) (x : Wr) : joinB ws [x] = if mapOkB ws = true ∧ okW x = true then putW ws x else [] := by
  unfold joinB
  rw [mapOk_one]
  rfl

end Go.Proofs.Ytojgahcogpediaa

/- Contracts of the specification's MapJoin and MapPut. -/
namespace Go.Proofs.Ytojgahcogpediaa
open Go.ChangeShapes Go.WideShapes Go.ChangeAt Go.RowKit Go.Joins
attribute [local go_sem ↓] Go.wp_at_zero Go.wp_at_succ

theorem specMapOk_is (r : Bool) (a : Option Addr) (n cap : Nat) (ws : List Wr) (h : mapOkB ws = r) (w : World) (hn : ws.length = n) (hm : n ≤ 1048576) (hx : Few ws) (hh : IsWs w a ws) :
    Calls Try.prog 33 #[.slice a n cap] w fun e w' => e = .returned (.bool r) ∧ Below w.heap.size w w' := by
  subst h
  exact specMapOk_gen a n cap ws w hn hm hx hh

/-- What the specification answers: a list of writes of its own. -/
def AnsS (w w' : World) (e : Ending) (ws : List Wr) : Prop := ∃ g cp es L, e = .returned (.slice (some ⟨g, 0, none⟩) L cp) ∧ es.length = L ∧ es.map (·.x) = ws ∧ RowEs w' w.heap.size g cp es ∧ Below w.heap.size w w'

theorem specWriteOk_is (x : Wr) (r : Bool) (h : okW x = r) (a : Option Addr) (cap : Nat) (w : World) (hn : x.xs.length ≤ 1048576) (hh : IsDeps w a x.xs) :
    Calls Try.prog 34 #[wrOf x a cap] w fun e w' => e = .returned (.bool r) ∧ Below w.heap.size w w' := by
  subst h
  exact specWriteOk_gen _ _ _ _ _ _ a x.xs _ cap w rfl hn hh

end Go.Proofs.Ytojgahcogpediaa

/- How much a join is. -/
namespace Go.Proofs.Ytojgahcogpediaa
open Go.ChangeShapes Go.WideShapes Go.ChangeAt Go.RowKit Go.Joins

theorem joinB_ok (us vs : List Wr) : ∀ x ∈ joinB us vs, okW x = true := by
  intro x hx
  unfold joinB at hx
  split at hx
  · rename_i h
    obtain ⟨_, h2, _⟩ := join_spec vs us ((mapOk_iff us).1 h.1).2
    rcases h2 x hx with h3 | h3
    · exact ((mapOk_iff us).1 h.1).1 x h3
    · exact ((mapOk_iff vs).1 h.2).1 x h3
  · simp at hx

theorem joinB_rise (us vs : List Wr) : Rise (joinB us vs) := by
  unfold joinB
  split
  · rename_i h
    exact (join_spec vs us ((mapOk_iff us).1 h.1).2).1
  · exact List.Pairwise.nil

theorem joinB_mapOk (us vs : List Wr) : mapOkB (joinB us vs) = true := (mapOk_iff _).2 ⟨joinB_ok us vs, joinB_rise us vs⟩

theorem mapOk_len {ws : List Wr} (h : mapOkB ws = true) : ws.length ≤ 6 := by
  have e := told_find ((mapOk_iff ws).1 h).2 (mapOk_keys h)
  rw [← e, ← toldTo_six]
  exact toldTo_len _ 6

theorem mapOk_bulk {ws : List Wr} (h : mapOkB ws = true) : bulk ws ≤ 36 := by
  have h1 := bulk_le (m := 6) fun x hx => okW_len (((mapOk_iff ws).1 h).1 x hx)
  have h2 := mapOk_len h
  omega

theorem joinB_bulk (us vs : List Wr) : bulk (joinB us vs) ≤ 36 := mapOk_bulk (joinB_mapOk us vs)

theorem joinB_len (us vs : List Wr) : (joinB us vs).length ≤ 6 := mapOk_len (joinB_mapOk us vs)

theorem joinB_few (us vs : List Wr) : Few (joinB us vs) := few_of_bulk (by have := joinB_bulk us vs; omega)

/-- The specification's answer, as a list. -/
theorem RowEs.isWs {w : World} {base g cap : Nat} {es : List En} (h : RowEs w base g cap es) {ws : List Wr} (hw : es.map (·.x) = ws) (hx : Few ws) : IsWs w (some ⟨g, 0, none⟩) ws := (h.holds hw).isWs hx

end Go.Proofs.Ytojgahcogpediaa

/- The contracts of the cursor's some and cut, and of the draws of cuts. -/
namespace Go.Proofs.Ytojgahcogpediaa
open Go.ChangeShapes Go.WideShapes Go.ChangeAt Go.RowKit Go.Joins
attribute [local go_sem ↓] Go.wp_at_zero Go.wp_at_succ

set_option maxRecDepth 100000 in
set_option maxHeartbeats 8000000 in
theorem some_any (B : Nat) (a : Option Addr) (len cap : Nat) (N : Int) (ag : Option Addr) (n cg base : Nat) (es : List EnG) (w : World) (hN : N ≤ 1500) (h : Cur w B a len cap N) (hr : RowG w base (.slice ag n cg) es) (hBb : B < base) (hn : es.length = n) (hn10 : n ≤ 10) (hn0 : 0 < n) (hf : ∀ d ∈ es, d.x.xs.length ≤ 10) :
    Calls Try.prog 58 #[.pointer (some ⟨B, 0, none⟩), .slice ag n cg] w fun e w' => ∃ g cp es2 L, e = .returned (.slice (some ⟨g, 0, none⟩) L cp) ∧ es2.length = L ∧ L ≤ 7 ∧ (∀ d ∈ es2, d.x.xs.length ≤ 10) ∧ RowEs w' w.heap.size g cp es2 ∧ Cur w' B a len cap (N + 100) ∧ Hole B w w' := by
  have hB := h.lt
  have HS : Hid (RowG w base (.slice ag n cg) es) := hr
  have HFS := Lib.hid hf
  have HN := Lib.hid hn
  obtain ⟨i0, hi0, hx0⟩ := Option.map_eq_some_iff.1 infoWr
  simp only [Prod.mk.injEq] at hx0
  have HI0 := Lib.hid hi0
  have HX0 := Lib.hid hx0
  clear hi0 hx0
  have HB0 : Hid (Below w.heap.size w (w.alloc (.cells #[] 41))) := (Below.refl _ _).alloc (Nat.le_refl _) _
  have HR0 : Hid (RowEs (w.alloc (.cells #[] 41)) w.heap.size w.heap.size 0 []) := rowEs_start w _ (Nat.le_refl _)
  have HC0 := Lib.hid (h.below HB0.out)
  have HFX : Hid (Few (es.map (·.x))) := few_iff.2 fun y hy => by
    obtain ⟨d, hd, rfl⟩ := List.mem_map.1 hy
    have := HFS.out d hd
    omega
  clear h hr hf hn
  go_enter Try.func58, Try.ntmps58
  go_wp2_with fail
  refine (size_any B a len cap _ 6 _ (by omega) (by omega) (by omega) HC0.out).mono ?_
  rintro e w1 ⟨r1, rfl, r10, r11, hc1, hh1⟩
  have HC1 : Hid (Cur w1 B a len cap (N + 10 - r1)) := hc1.more (by omega)
  have HH1 := Lib.hid ((Hole.of_below HB0.out).trans hh1)
  have HR1 := Lib.hid (HR0.out.hole hh1 hB)
  clear hc1 hh1 HC0 HR0 HB0
  go_wp2
  go_loopw [5, 6] (fun t i wr => ∃ (L g cp : Nat) (z : Int) (es2 : List En), 0 ≤ z ∧ z ≤ 6 ∧ (L : Int) + z ≤ 6 ∧ i = .int .i64 z ∧ t = .slice (some ⟨g, 0, none⟩) L cp ∧ Hid (es2.length = L) ∧ Hid (∀ d ∈ es2, d.x.xs.length ≤ 10) ∧ Hid (RowEs wr w.heap.size g cp es2) ∧ Hid (Cur wr B a len cap (N + 10 - z)) ∧ Hid (Hole B w wr)) (fun _ i _ => (intOf i).toNat)
  case atStart => exact ⟨0, w.heap.size, 0, r1, [], r10, r11, by omega, rfl, rfl, rfl, fun d hd => by simp at hd, HR1, HC1, HH1⟩
  case round =>
    clear HR1 HC1 HH1 r10 r11
    obtain ⟨L, g, cp, z, es2, hz0, hz6, hLz, rfl, rfl, HL, HF, HR, HC, HH⟩ := hrel
    by_cases hz' : 0 < z
    · go_wp2_with fail
      refine (pick_len B a len cap _ n _ (by omega) (by omega) (by omega) HC.out).mono ?_
      rintro e w5 ⟨r5, rfl, hr5, hc5, hh5⟩
      have HC5 : Hid (Cur w5 B a len cap (N + 10 - (z - 1))) := hc5.more (by omega)
      have HH5 := Lib.hid (HH.out.trans hh5)
      have HR5 := Lib.hid (HR.out.hole hh5 hB)
      clear hc5 hh5 HC HR HH
      obtain ⟨bb, oo, ad, cq, rfl, hz, ⟨e0, e1, e2, e3, e4, e5, e6⟩, hd⟩ := ((HS.out.hole HH5.out hBb).isWs HFX.out).at (Below.refl _ _) (n := n) (by rw [List.length_map, HN.out]) hr5
      have hxl : ((es.map (·.x)).getD r5 wz).xs.length ≤ 10 := by
        obtain ⟨d, hd, h1⟩ := List.mem_map.1 (getD_mem (ws := es.map (·.x)) (p := r5) (by rw [List.length_map, HN.out]; exact hr5))
        rw [← h1]
        exact HFS.out d hd
      have i4 : (0 : Int) ≤ (r5 : Int) := by omega
      have i5 : (r5 : Int) < (n : Int) := by omega
      have HD := Lib.hid hd
      clear hd
      generalize (es.map (·.x)).getD r5 wz = x at *
      obtain ⟨xk, xc, xs', xq, xv, xd, xx⟩ := x
      simp only at e0 e1 e2 e3 e4 e5 e6 hxl HD
      go_wp2_with fail
      refine (copy_any ⟨xk, xc, xs', xq, xv, xd, xx⟩ _ _ _ (by show xx.length ≤ 1048576; omega) HD.out).mono ?_
      rintro e w7 ⟨g7, cp7, rfl, hg7, hg7', hd7, hb⟩
      have HC7 := Lib.hid (HC5.out.below hb)
      have HH7 := Lib.hid (HH5.out.trans (Hole.of_below hb))
      have HR7 := Lib.hid (HR5.out.below hb)
      have HD7 := Lib.hid hd7
      have hgg : g7 ≠ g := by have := HR5.out.lt; omega
      have hgl : w.heap.size ≤ g7 := Nat.le_trans HH5.out.size hg7
      clear hb hd7 HC5 HR5 HH5 HD
      have HBA : Hid (Below w7.heap.size w7 (w7.alloc (.cells #[.int .i64 xk, .int .i64 xc, .int .i64 xs', .int .i64 xq, .int .i64 xv, .bool xd, .slice (some ⟨g7, 0, none⟩) xx.length cp7] 41))) := (Below.refl _ _).alloc (Nat.le_refl _) _
      have HW := Lib.hid (HR7.out.below HBA.out)
      have HOW : Hid ((w7.alloc (.cells #[.int .i64 xk, .int .i64 xc, .int .i64 xs', .int .i64 xq, .int .i64 xv, .bool xd, .slice (some ⟨g7, 0, none⟩) xx.length cp7] 41)).ownsRow w.heap.size 41 7 (.slice (some ⟨g, 0, none⟩) L cp) L (es2.flatMap wrVals)) := by
        have := HW.out.own
        rw [HL.out] at this
        exact this
      have hsz : w.heap.size ≤ w7.heap.size := HH7.out.size
      have HCA := Lib.hid (HC7.out.below HBA.out)
      have HHA := Lib.hid (HH7.out.trans (Hole.of_below HBA.out))
      go_wp2_with (at_builtin; refine wpList_append_lies _ (by rfl) _ _ _ (by rfl) w.heap.size 41 i0 (wrV 0 0 0 0 0 false none 0 0) 7 72 Try.underlying44 HI0.out HX0.out.1 HX0.out.2.1 HX0.out.2.2 (by rfl) (by omega) (.slice (some ⟨g, 0, none⟩) L cp) L (es2.flatMap wrVals) (by rfl) HOW.out ⟨w7.heap.size, 0, none⟩ 1 1 (wrVals ⟨⟨xk, xc, xs', xq, xv, xd, xx⟩, g7, cp7⟩) (by rfl) (by rfl) (one_cells w7 _ ⟨⟨xk, xc, xs', xq, xv, xd, xx⟩, g7, cp7⟩) (by simpa using vals_one [⟨⟨xk, xc, xs', xq, xv, xd, xx⟩, g7, cp7⟩]) (by omega) (by unfold maxLen; omega) (by omega) (by simp; omega) _ rfl ?_; intro g3 cp3 W5 hown hgrow hg3 _; refine Hid.out ?_)
      refine Lib.hid ?_
      have HR8 : Hid (RowEs W5 w.heap.size g3 cp3 (es2 ++ [⟨⟨xk, xc, xs', xq, xv, xd, xx⟩, g7, cp7⟩])) := by
        refine HW.out.more ⟨hgl, by simp; omega, hgg, HD7.out.below HBA.out hg7'⟩ (by rw [HL.out]; exact hown) hgrow hg3
      have hgw : w.heap.size ≤ g := HR7.out.le
      have HC8 : Hid (Cur W5 B a len cap (N + 10 - (z - 1))) := HCA.out.stay hgrow.size fun b hb => hgrow.block b (Nat.lt_of_le_of_lt hb HCA.out.lt) (by simp [Value.ownBlock]; omega)
      have HH8 : Hid (Hole B w W5) := ⟨hgrow.os.trans HHA.out.os, hgrow.tape.trans HHA.out.tape, hgrow.output.trans HHA.out.output, Nat.le_trans HHA.out.size hgrow.size, fun b hb hne => (hgrow.block b (Nat.lt_of_lt_of_le hb HHA.out.size) (by simp [Value.ownBlock]; omega)).trans (HHA.out.block b hb hne)⟩
      have HF8 : Hid (∀ d ∈ es2 ++ [(⟨⟨xk, xc, xs', xq, xv, xd, xx⟩, g7, cp7⟩ : En)], d.x.xs.length ≤ 10) := fun d hd => by
        rcases List.mem_append.1 hd with hd | hd
        · exact HF.out d hd
        · have hd : d = ⟨⟨xk, xc, xs', xq, xv, xd, xx⟩, g7, cp7⟩ := by simpa using hd
          subst hd
          exact hxl
      have HL8 : Hid ((es2 ++ [(⟨⟨xk, xc, xs', xq, xv, xd, xx⟩, g7, cp7⟩ : En)]).length = L + 1) := by
        rw [List.length_append, HL.out]
        exact Lib.hid rfl
      clear hown hgrow HW HOW HCA HHA HBA HL HF
      go_wp2
      exact ⟨⟨L + 1, g3, cp3, z - 1, _, by omega, by omega, by push_cast; omega, rfl, rfl, HL8, HF8, HR8, HC8, HH8⟩, by simp [intOf]; omega⟩
    · have hzz : z = 0 := by omega
      subst hzz
      clear HS HFX HFS
      go_wp2_with fail
      refine (once_any B a len cap _ 14 _ (by omega) (by omega) (by omega) HC.out).mono ?_
      rintro e w5 ⟨r5, rfl, hc5, hh5⟩
      have HC5 := Lib.hid hc5
      have HH5 := Lib.hid (HH.out.trans hh5)
      have HR5 := Lib.hid (HR.out.hole hh5 hB)
      clear hc5 hh5 HC HR HH
      cases r5
      · go_wp2
        go_ret
        exact ⟨g, cp, es2, L, rfl, HL.out, by omega, HF.out, HR5.out, HC5.out.more (by omega), HH5.out⟩
      · go_wp2_with fail
        refine (write_any B a len cap _ _ (by omega) HC5.out).mono ?_
        rintro e w7 ⟨k7, c7, s7, q7, v7, de7, g7, cp7, ds7, rfl, hl7, hg7, hg7', hd7, hc7, hh7⟩
        have HC7 := Lib.hid hc7
        have HH7 := Lib.hid (HH5.out.trans hh7)
        have HR7 := Lib.hid (HR5.out.hole hh7 hB)
        have HD7 := Lib.hid hd7
        have hgg : g7 ≠ g := by have := HR5.out.lt; omega
        have hgl : w.heap.size ≤ g7 := Nat.le_trans HH5.out.size hg7
        clear hc7 hh7 hd7 HC5 HR5 HH5
        have HBA : Hid (Below w7.heap.size w7 (w7.alloc (.cells #[.int .i64 k7, .int .i64 c7, .int .i64 s7, .int .i64 q7, .int .i64 v7, .bool de7, .slice (some ⟨g7, 0, none⟩) ds7.length cp7] 41))) := (Below.refl _ _).alloc (Nat.le_refl _) _
        have HW := Lib.hid (HR7.out.below HBA.out)
        have HOW : Hid ((w7.alloc (.cells #[.int .i64 k7, .int .i64 c7, .int .i64 s7, .int .i64 q7, .int .i64 v7, .bool de7, .slice (some ⟨g7, 0, none⟩) ds7.length cp7] 41)).ownsRow w.heap.size 41 7 (.slice (some ⟨g, 0, none⟩) L cp) L (es2.flatMap wrVals)) := by
          have := HW.out.own
          rw [HL.out] at this
          exact this
        have hsz : w.heap.size ≤ w7.heap.size := HH7.out.size
        have HCA := Lib.hid (HC7.out.below HBA.out)
        have HHA := Lib.hid (HH7.out.trans (Hole.of_below HBA.out))
        go_wp2_with (at_builtin; refine wpList_append_lies _ (by rfl) _ _ _ (by rfl) w.heap.size 41 i0 (wrV 0 0 0 0 0 false none 0 0) 7 72 Try.underlying44 HI0.out HX0.out.1 HX0.out.2.1 HX0.out.2.2 (by rfl) (by omega) (.slice (some ⟨g, 0, none⟩) L cp) L (es2.flatMap wrVals) (by rfl) HOW.out ⟨w7.heap.size, 0, none⟩ 1 1 (wrVals ⟨⟨k7, c7, s7, q7, v7, de7, ds7⟩, g7, cp7⟩) (by rfl) (by rfl) (one_cells w7 _ ⟨⟨k7, c7, s7, q7, v7, de7, ds7⟩, g7, cp7⟩) (by simpa using vals_one [⟨⟨k7, c7, s7, q7, v7, de7, ds7⟩, g7, cp7⟩]) (by omega) (by unfold maxLen; omega) (by omega) (by simp; omega) _ rfl ?_; intro g3 cp3 W5 hown hgrow hg3 _; refine Hid.out ?_)
        refine Lib.hid ?_
        have HR8 : Hid (RowEs W5 w.heap.size g3 cp3 (es2 ++ [⟨⟨k7, c7, s7, q7, v7, de7, ds7⟩, g7, cp7⟩])) := by
          refine HW.out.more ⟨hgl, by simp; omega, hgg, HD7.out.below HBA.out hg7'⟩ (by rw [HL.out]; exact hown) hgrow hg3
        have hgw : w.heap.size ≤ g := HR7.out.le
        have HC8 : Hid (Cur W5 B a len cap (N + 100)) := (HCA.out.stay hgrow.size fun b hb => hgrow.block b (Nat.lt_of_le_of_lt hb HCA.out.lt) (by simp [Value.ownBlock]; omega)).more (by omega)
        have HH8 : Hid (Hole B w W5) := ⟨hgrow.os.trans HHA.out.os, hgrow.tape.trans HHA.out.tape, hgrow.output.trans HHA.out.output, Nat.le_trans HHA.out.size hgrow.size, fun b hb hne => (hgrow.block b (Nat.lt_of_lt_of_le hb HHA.out.size) (by simp [Value.ownBlock]; omega)).trans (HHA.out.block b hb hne)⟩
        have HF8 : Hid (∀ d ∈ es2 ++ [(⟨⟨k7, c7, s7, q7, v7, de7, ds7⟩, g7, cp7⟩ : En)], d.x.xs.length ≤ 10) := fun d hd => by
          rcases List.mem_append.1 hd with hd | hd
          · exact HF.out d hd
          · have hd : d = ⟨⟨k7, c7, s7, q7, v7, de7, ds7⟩, g7, cp7⟩ := by simpa using hd
            subst hd
            show ds7.length ≤ 10
            omega
        clear hown hgrow HW HOW HCA HHA HBA
        go_wp2
        go_ret
        exact ⟨g3, cp3, _, L + 1, rfl, by rw [List.length_append, HL.out]; rfl, by omega, HF8.out, HR8.out, HC8.out, HH8.out⟩

theorem joinW_mem_wid {us vs : List Wr} {x : Wr} (h : x ∈ joinW us (fitL us vs true)) : x ∈ us ∨ x ∈ vs := by
  rcases joinW_mem _ _ _ h with h | h
  · exact .inl h
  · exact .inr (fitL_mem h)

theorem widL_mem {us vs : List Wr} {x : Wr} (h : x ∈ widL us vs) : x ∈ us ∨ x ∈ vs := by
  unfold widL at h
  cases hr : rightB us vs
  · rw [hr] at h
    simp at h
  · rw [hr] at h
    exact joinW_mem_wid h

end Go.Proofs.Ytojgahcogpediaa

/- Drawn writes for the newest: the contract of spec.DrawNewest. -/
namespace Go.Proofs.Ytojgahcogpediaa
open Go.ChangeShapes Go.WideShapes Go.ChangeAt Go.RowKit Go.Joins
attribute [local go_sem ↓] Go.wp_at_zero Go.wp_at_succ

set_option maxRecDepth 100000 in
set_option maxHeartbeats 4000000 in
theorem drawNewest_any (a : Option Addr) (len cap : Nat) (w : World) (h : Bytes w a len) (hl : len ≤ 1048576) :
    Calls Try.prog 26 #[.slice a len cap] w fun e w' => ∃ v es, e = .returned v ∧ DrawnM w' w.heap.size v es ∧ Below w.heap.size w w' := by
  have HO := Lib.hid (open_any a len cap w h hl)
  clear h
  go_enter Try.func26, Try.ntmps26
  go_wp2_with fail
  refine HO.out.mono ?_
  rintro e w1 ⟨rfl, hc1, hb1⟩
  have HC1 := Lib.hid hc1
  have HB1 := Lib.hid hb1
  have hlt1 := hc1.lt
  clear hc1 hb1 HO
  go_wp2_with fail
  refine (story_any w.heap.size a len cap 0 _ (by omega) HC1.out).mono ?_
  rintro e w2 ⟨v, es, rfl, hl1, hl2, hf, hr, hc2, hh2⟩
  obtain ⟨ag, cg, hv, -⟩ := hr.form
  subst hv
  have HF := Lib.hid hf
  have HR2 := Lib.hid hr
  have HC2 := Lib.hid hc2
  have HH2 := Lib.hid hh2
  have hs2 : w1.heap.size ≤ w2.heap.size := HH2.out.size
  clear hf hr hc2 hh2 HC1
  go_wp2_with fail
  refine (some_any w.heap.size a len cap _ ag es.length cg w1.heap.size es _ (by omega) HC2.out HR2.out hlt1 rfl hl1 hl2 HF.out).mono ?_
  rintro e w3 ⟨g3, cp3, es3, L3, rfl, hLe, hL3, hf3, hr3, hc3, hh3⟩
  have HF3 := Lib.hid hf3
  have HL3 := Lib.hid hLe
  have HR3 := Lib.hid hr3
  have HC3 := Lib.hid hc3
  have HH3 := Lib.hid (HH2.out.trans hh3)
  have hs3 : w2.heap.size ≤ w3.heap.size := hh3.size
  clear hf3 hr3 hc3 hh3 HC2 HR2 hLe HH2
  go_wp2_with fail
  refine (pick_any w.heap.size a len cap _ 3 _ (by omega) (by omega) (by omega) HC3.out).mono ?_
  rintro e w4 ⟨r, rfl, hr0, hr1, hc4, hh4⟩
  have HR4 := Lib.hid ((HR3.out.hole hh4 (by omega)).mono (base' := w.heap.size) (by omega))
  have HB4 : Hid (Below w.heap.size w w4) := Hole.below HB1.out (HH3.out.trans hh4) (Nat.le_refl _) HB1.out.size
  clear hc4 hh4 HC3 HR3 HH3
  by_cases hp : 0 < r
  · go_wp2
    go_loopw [5] (fun i wr => ∃ (p : Nat) (es2 : List En), p ≤ L3 ∧ i = .int .i64 p ∧ Hid (es2.length = L3) ∧ Hid (∀ d ∈ es2, d.x.xs.length ≤ 10) ∧ Hid (RowEs wr w.heap.size g3 cp3 es2) ∧ Hid (Below w.heap.size w wr)) (fun i _ => L3 - (intOf i).toNat)
    case atStart => exact ⟨0, es3, Nat.zero_le _, rfl, HL3, HF3, HR4, HB4⟩
    case round =>
      obtain ⟨p, es2, hpl, rfl, HL, HF2, HR, HB⟩ := hrel
      by_cases hp' : p < L3
      · have hrl : p < es2.length := by rw [HL.out]; exact hp'
        have hgw : w.heap.size ≤ g3 := HR.out.le
        have hgl := HR.out.lt
        have c0 : wr.cell? ⟨g3, p * 7, none⟩ = some (.int .i64 (es2.getD p ez).x.k) := (seen_at HR.out hrl).1
        have fz : ∀ o, wr.frozen? ⟨g3, o, none⟩ = false := fun o => HR.out.own.frozenAt o
        have i7 : (0 : Int) ≤ (p : Int) := by omega
        have i8 : (p : Int) < (L3 : Int) := by omega
        have HR9 := Lib.hid (HR.out.setKey hrl 2)
        have HB9 := Lib.hid (HB.out.setCell (p := ⟨g3, p * 7, none⟩) hgw (.int .i64 2))
        have HL9 : Hid ((es2.set p (setK (es2.getD p ez) 2)).length = L3) := by rw [List.length_set]; exact HL.out
        have HF9 : Hid (∀ d ∈ es2.set p (setK (es2.getD p ez) 2), d.x.xs.length ≤ 10) := fun d hd => by
          rcases List.mem_or_eq_of_mem_set hd with h1 | h1
          · exact HF2.out d h1
          · subst h1
            have hm : es2.getD p ez ∈ es2 := by simp [List.getD, hrl]
            exact HF2.out (es2.getD p ez) hm
        clear HR HB HL HF2
        go_wp2
        exact ⟨⟨p + 1, _, by omega, by go_num, HL9, HF9, HR9, HB9⟩, by simp [intOf]; omega⟩
      · have hkk : p = L3 := by omega
        subst hkk
        go_wp2
        go_ret
        exact ⟨.slice (some ⟨g3, 0, none⟩) p cp3, es2, rfl, ⟨g3, cp3, by rw [HL.out], by rw [HL.out]; omega, HF2.out, HR.out⟩, HB.out⟩
  · go_wp2
    go_ret
    exact ⟨.slice (some ⟨g3, 0, none⟩) L3 cp3, es3, rfl, ⟨g3, cp3, by rw [HL3.out], by rw [HL3.out]; omega, HF3.out, HR4.out⟩, HB4.out⟩

end Go.Proofs.Ytojgahcogpediaa

/- The newest of some writes: plain facts, and a box of a write that is stored to. -/
namespace Go.Proofs.Ytojgahcogpediaa
open Go.ChangeShapes Go.WideShapes Go.ChangeAt Go.RowKit Go.Joins

def newStep (b y : Wr) : Wr := if 0 < cmpW y b then y else b

/-- The newest of the first k. -/
def newAt (ws : List Wr) (k : Nat) : Wr := (ws.take k).foldl newStep (ws.getD 0 wz)

/-- All are of one key. -/
def OneKey (ws : List Wr) : Prop := 0 < ws.length ∧ ∀ j, j < ws.length → (ws.getD j wz).k = (ws.getD 0 wz).k

theorem newAt_zero (ws : List Wr) : newAt ws 0 = ws.getD 0 wz := by simp [newAt]

theorem newAt_next (ws : List Wr) (k : Nat) (h : k < ws.length) : newAt ws (k + 1) = newStep (newAt ws k) (ws.getD k wz) := by
  unfold newAt
  rw [List.take_add_one, List.getElem?_eq_getElem h, Option.toList_some, List.foldl_append]
  simp [List.getD, h]

/-- The newest is one of them. -/
theorem newAt_mem (ws : List Wr) (h : 0 < ws.length) : ∀ k, k ≤ ws.length → ∃ j, j < ws.length ∧ newAt ws k = ws.getD j wz
  | 0, _ => ⟨0, h, newAt_zero ws⟩
  | k + 1, hk => by
    obtain ⟨j, hj, e⟩ := newAt_mem ws h k (by omega)
    rw [newAt_next ws k (by omega)]
    unfold newStep
    split
    · exact ⟨k, by omega, rfl⟩
    · exact ⟨j, hj, e⟩

/-- What is told of a row: the newest, or nothing. -/
def NewIs (ws : List Wr) (x : Wr) (ok : Bool) : Prop := (OneKey ws ∧ x = newAt ws ws.length ∧ ok = true) ∨ (¬ OneKey ws ∧ x = wz ∧ ok = false)

theorem new_same {ws : List Wr} {x y : Wr} {p q : Bool} (h : NewIs ws x p) (h' : NewIs ws y q) : x = y ∧ p = q := by
  rcases h with ⟨h1, h2, h3⟩ | ⟨h1, h2, h3⟩ <;> rcases h' with ⟨g1, g2, g3⟩ | ⟨g1, g2, g3⟩
  · exact ⟨h2.trans g2.symm, h3.trans g3.symm⟩
  · exact absurd h1 g1
  · exact absurd g1 h1
  · exact ⟨h2.trans g2.symm, h3.trans g3.symm⟩

theorem new_len {ws : List Wr} {x : Wr} {p : Bool} (hx : Few ws) (h : NewIs ws x p) : x.xs.length ≤ 1048576 := by
  rcases h with ⟨h1, h2, h3⟩ | ⟨h1, h2, h3⟩
  · obtain ⟨j, hj, e⟩ := newAt_mem ws h1.1 ws.length (Nat.le_refl _)
    rw [h2, e]
    exact hx j hj
  · rw [h2]
    simp [wz]

/-- A write in a block of its own that may be stored to. -/
structure NBox (w : World) (b : Nat) (k c s q v : Int) (de : Bool) (x : Option Addr) (len cap : Nat) : Prop where
  lt : b < w.heap.size
  c0 : w.cell? ⟨b, 0, none⟩ = some (.int .i64 k)
  c1 : w.cell? ⟨b, 1, none⟩ = some (.int .i64 c)
  c2 : w.cell? ⟨b, 2, none⟩ = some (.int .i64 s)
  c3 : w.cell? ⟨b, 3, none⟩ = some (.int .i64 q)
  c4 : w.cell? ⟨b, 4, none⟩ = some (.int .i64 v)
  c5 : w.cell? ⟨b, 5, none⟩ = some (.bool de)
  c6 : w.cell? ⟨b, 6, none⟩ = some (.slice x len cap)
  fz : ∀ o, w.frozen? ⟨b, o, none⟩ = false

theorem NBox.start (w : World) (k c s q v : Int) (de : Bool) (x : Option Addr) (len cap : Nat) (t : Nat) : NBox (w.alloc (.cells #[.int .i64 k, .int .i64 c, .int .i64 s, .int .i64 q, .int .i64 v, .bool de, .slice x len cap] t)) w.heap.size k c s q v de x len cap :=
  ⟨by simp, by simp [go_sem], by simp [go_sem], by simp [go_sem], by simp [go_sem], by simp [go_sem], by simp [go_sem], by simp [go_sem], fun o => by simp [go_sem]⟩

theorem NBox.step {w w1 : World} {b : Nat} {k c s q v : Int} {de : Bool} {x : Option Addr} {len cap : Nat} (h : NBox w b k c s q v de x len cap) (hb : Below w.heap.size w w1) : NBox w1 b k c s q v de x len cap :=
  ⟨Nat.lt_of_lt_of_le h.lt hb.size, held_cell hb h.c0 h.lt, held_cell hb h.c1 h.lt, held_cell hb h.c2 h.lt, held_cell hb h.c3 h.lt, held_cell hb h.c4 h.lt, held_cell hb h.c5 h.lt, held_cell hb h.c6 h.lt, fun o => (hb.frozen (p := ⟨b, o, none⟩) h.lt).trans (h.fz o)⟩

theorem NBox.drew {w : World} {b : Nat} {k c s q v : Int} {de : Bool} {x : Option Addr} {len cap : Nat} (h : NBox w b k c s q v de x len cap) : NBox w.drew b k c s q v de x len cap :=
  h.step (Below.refl _ _).drew

/-- A write stored as a whole. -/
def putN (w : World) (b : Nat) (k c s q v : Int) (de : Bool) (x : Option Addr) (len cap : Nat) : World := ((((((w.setCell ⟨b, 0, none⟩ (.int .i64 k)).setCell ⟨b, 1, none⟩ (.int .i64 c)).setCell ⟨b, 2, none⟩ (.int .i64 s)).setCell ⟨b, 3, none⟩ (.int .i64 q)).setCell ⟨b, 4, none⟩ (.int .i64 v)).setCell ⟨b, 5, none⟩ (.bool de)).setCell ⟨b, 6, none⟩ (.slice x len cap)

theorem NBox.put {w : World} {b : Nat} {k c s q v : Int} {de : Bool} {x : Option Addr} {len cap : Nat} (h : NBox w b k c s q v de x len cap) (k' c' s' q' v' : Int) (de' : Bool) (x' : Option Addr) (len' cap' : Nat) : NBox (putN w b k' c' s' q' v' de' x' len' cap') b k' c' s' q' v' de' x' len' cap' := by
  have a0 : ((w.setCell ⟨b, 0, none⟩ (.int .i64 k'))).cell? ⟨b, 0, none⟩ = some (.int .i64 k') := cell_set_same h.c0
  have h1 := (cell_set_off h.c1 (v := .int .i64 k') (o := 0) (by omega))
  have a1 := cell_set_same (v := .int .i64 c') h1
  have h2 := (cell_set_off (cell_set_off h.c2 (v := .int .i64 k') (o := 0) (by omega)) (v := .int .i64 c') (o := 1) (by omega))
  have a2 := cell_set_same (v := .int .i64 s') h2
  have h3 := (cell_set_off (cell_set_off (cell_set_off h.c3 (v := .int .i64 k') (o := 0) (by omega)) (v := .int .i64 c') (o := 1) (by omega)) (v := .int .i64 s') (o := 2) (by omega))
  have a3 := cell_set_same (v := .int .i64 q') h3
  have h4 := (cell_set_off (cell_set_off (cell_set_off (cell_set_off h.c4 (v := .int .i64 k') (o := 0) (by omega)) (v := .int .i64 c') (o := 1) (by omega)) (v := .int .i64 s') (o := 2) (by omega)) (v := .int .i64 q') (o := 3) (by omega))
  have a4 := cell_set_same (v := .int .i64 v') h4
  have h5 := (cell_set_off (cell_set_off (cell_set_off (cell_set_off (cell_set_off h.c5 (v := .int .i64 k') (o := 0) (by omega)) (v := .int .i64 c') (o := 1) (by omega)) (v := .int .i64 s') (o := 2) (by omega)) (v := .int .i64 q') (o := 3) (by omega)) (v := .int .i64 v') (o := 4) (by omega))
  have a5 := cell_set_same (v := .bool de') h5
  have h6 := (cell_set_off (cell_set_off (cell_set_off (cell_set_off (cell_set_off (cell_set_off h.c6 (v := .int .i64 k') (o := 0) (by omega)) (v := .int .i64 c') (o := 1) (by omega)) (v := .int .i64 s') (o := 2) (by omega)) (v := .int .i64 q') (o := 3) (by omega)) (v := .int .i64 v') (o := 4) (by omega)) (v := .bool de') (o := 5) (by omega))
  have a6 := cell_set_same (v := .slice x' len' cap') h6
  unfold putN
  refine ⟨by simpa [World.setCell] using h.lt, ?_, ?_, ?_, ?_, ?_, ?_, ?_, fun o => by simp only [World.frozen?_setCell]; exact h.fz o⟩
  · exact cell_set_off (cell_set_off (cell_set_off (cell_set_off (cell_set_off (cell_set_off a0 (by omega)) (by omega)) (by omega)) (by omega)) (by omega)) (by omega)
  · exact cell_set_off (cell_set_off (cell_set_off (cell_set_off (cell_set_off a1 (by omega)) (by omega)) (by omega)) (by omega)) (by omega)
  · exact cell_set_off (cell_set_off (cell_set_off (cell_set_off a2 (by omega)) (by omega)) (by omega)) (by omega)
  · exact cell_set_off (cell_set_off (cell_set_off a3 (by omega)) (by omega)) (by omega)
  · exact cell_set_off (cell_set_off a4 (by omega)) (by omega)
  · exact cell_set_off a5 (by omega)
  · exact a6

theorem NBox.off1 {w : World} {b R : Nat} {k c s q v : Int} {de : Bool} {x : Option Addr} {len cap : Nat} (h : NBox w b k c s q v de x len cap) (hn : R ≠ b) (o : Nat) (y : Value) : NBox (w.setCell ⟨R, o, none⟩ y) b k c s q v de x len cap := by
  have hne : ∀ o', (Addr.mk R o none) ≠ ⟨b, o', none⟩ := fun o' e => hn (by injection e)
  exact ⟨by simpa [World.setCell] using h.lt, (World.cell?_setCell_other _ _ _ _ (hne _)).trans h.c0, (World.cell?_setCell_other _ _ _ _ (hne _)).trans h.c1, (World.cell?_setCell_other _ _ _ _ (hne _)).trans h.c2, (World.cell?_setCell_other _ _ _ _ (hne _)).trans h.c3, (World.cell?_setCell_other _ _ _ _ (hne _)).trans h.c4, (World.cell?_setCell_other _ _ _ _ (hne _)).trans h.c5, (World.cell?_setCell_other _ _ _ _ (hne _)).trans h.c6, fun o => by rw [World.frozen?_setCell]; exact h.fz o⟩

theorem NBox.off {w : World} {b R : Nat} {k c s q v : Int} {de : Bool} {x : Option Addr} {len cap : Nat} (h : NBox w b k c s q v de x len cap) (hn : R ≠ b) (k' c' s' q' v' : Int) (de' : Bool) (x' : Option Addr) (len' cap' : Nat) : NBox (putN w R k' c' s' q' v' de' x' len' cap') b k c s q v de x len cap :=
  ((((((h.off1 hn 0 _).off1 hn 1 _).off1 hn 2 _).off1 hn 3 _).off1 hn 4 _).off1 hn 5 _).off1 hn 6 _

theorem below_putN {B : Nat} {w w1 : World} (h : Below B w w1) {b : Nat} (hb : B ≤ b) (k c s q v : Int) (de : Bool) (x : Option Addr) (len cap : Nat) : Below B w (putN w1 b k c s q v de x len cap) :=
  ((((((h.setCell hb _).setCell hb _).setCell hb _).setCell hb _).setCell hb _).setCell hb _).setCell hb _

theorem size_putN (w : World) (b : Nat) (k c s q v : Int) (de : Bool) (x : Option Addr) (len cap : Nat) : (putN w b k c s q v de x len cap).heap.size = w.heap.size := by
  simp [putN, World.setCell]

end Go.Proofs.Ytojgahcogpediaa
