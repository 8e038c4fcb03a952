import Derived.Test.YtidpcjcnhklmpacGreatDoorPack18
import Derived.Test.YtidpcjcnhklmpacGreatDoorPack14
import Derived.Test.YtidpcjcnhklmpacGreatDoorPack15
import Derived.Test.YtidpcjcnhklmpacGreatDoorPack17
import Derived.RegionTactic
import Derived.BigRegion
import Derived.Deep.RegionHeld3
import Derived.Deep.DrawnRows
import Derived.WalkSpells
import Derived.Test.YtidpcjcnhklmpacGreatDoorPack4
import Derived.Lib.ConvBytes
import Derived.Laws.BytesArg
import Derived.BigQuiet
import Derived.Test.YtidpcjcnhklmpacGreatDoorPack11
/- The specification's l03Stay: which of some writes fit. -/
namespace Go.Proofs.YtidpcjcnhklmpacGreatDoor
open Go.ChangeShapes Go.WideShapes Go.ChangeAt Go.RowKit Go.Joins
attribute [local go_sem ↓] Go.wp_at_zero Go.wp_at_succ

/-- The map with those of the first k writes that are marked. -/
def allTo (us vs : List Wr) (st : Nat → Bool) : Nat → List Wr
  | 0 => us
  | k + 1 => match st k with
    | true => putW (allTo us vs st k) (vs.getD k wz)
    | false => allTo us vs st k

theorem allTo_yes {us vs : List Wr} {st : Nat → Bool} {k : Nat} (h : st k = true) : allTo us vs st (k + 1) = putW (allTo us vs st k) (vs.getD k wz) := by
  unfold allTo
  rw [h]
  cases k <;> rfl

theorem allTo_no {us vs : List Wr} {st : Nat → Bool} {k : Nat} (h : st k = false) : allTo us vs st (k + 1) = allTo us vs st k := by
  rw [allTo, h]

def allOf (us vs : List Wr) (st : Nat → Bool) : List Wr := allTo us vs st vs.length

/-- One round: who stays. -/
def nextS (us vs : List Wr) (st : Nat → Bool) (j : Nat) : Bool := st j && covB (allOf us vs st) (vs.getD j wz).xs

def stayAt (us vs : List Wr) : Nat → (Nat → Bool)
  | 0 => fun _ => true
  | n + 1 => nextS us vs (stayAt us vs n)

def midS (us vs : List Wr) (st : Nat → Bool) (k j : Nat) : Bool := if j < k then nextS us vs st j else st j

theorem allTo_len (us vs : List Wr) (st : Nat → Bool) : ∀ k, (allTo us vs st k).length ≤ us.length + k
  | 0 => Nat.le_refl _
  | k + 1 => by
    have h := allTo_len us vs st k
    cases hb : st k
    · rw [allTo_no hb]
      omega
    · rw [allTo_yes hb]
      have := put_len (allTo us vs st k) (vs.getD k wz)
      omega

theorem allTo_few {us vs : List Wr} (st : Nat → Bool) (hu : Few us) (hv : Few vs) : ∀ k, k ≤ vs.length → Few (allTo us vs st k)
  | 0, _ => hu
  | k + 1, hk => by
    have h := allTo_few st hu hv k (by omega)
    cases hb : st k
    · rw [allTo_no hb]
      exact h
    · rw [allTo_yes hb]
      exact put_few h (hv k (by omega))

def cnt (st : Nat → Bool) : Nat → Nat
  | 0 => 0
  | k + 1 => cnt st k + (st k).toNat

theorem cnt_congr {s t : Nat → Bool} : ∀ {m}, (∀ j, j < m → s j = t j) → cnt s m = cnt t m
  | 0, _ => rfl
  | m + 1, h => by
    unfold cnt
    rw [cnt_congr (fun j hj => h j (by omega)), h m (by omega)]

theorem cnt_le {s t : Nat → Bool} : ∀ {m}, (∀ j, j < m → s j = true → t j = true) → cnt s m ≤ cnt t m
  | 0, _ => Nat.le_refl _
  | m + 1, h => by
    unfold cnt
    have h1 := cnt_le (m := m) (s := s) (t := t) (fun j hj => h j (by omega))
    have h2 := h m (by omega)
    cases e : s m <;> cases e' : t m <;> simp [e, e'] at h2 ⊢ <;> omega

theorem cnt_lt {s t : Nat → Bool} : ∀ {m}, (∀ j, j < m → s j = true → t j = true) → (∃ j, j < m ∧ t j = true ∧ s j = false) → cnt s m < cnt t m
  | 0, _, h => by obtain ⟨j, hj, _⟩ := h; omega
  | m + 1, h, h' => by
    obtain ⟨j, hj, h3, h4⟩ := h'
    unfold cnt
    by_cases hm : j = m
    · subst hm
      have h1 := cnt_le (m := j) (s := s) (t := t) (fun i hi => h i (by omega))
      rw [h3, h4]
      simp
      omega
    · have h1 := cnt_lt (m := m) (s := s) (t := t) (fun i hi => h i (by omega)) ⟨j, by omega, h3, h4⟩
      have h2 := h m (by omega)
      cases e : s m <;> cases e' : t m <;> simp [e, e'] at h2 ⊢ <;> omega

def boolAt (w : World) (g j : Nat) : Bool := match w.cell? ⟨g, j, none⟩ with
  | some (.bool b) => b
  | _ => false

def cntW (w : World) (g m : Nat) : Nat := cnt (boolAt w g) m

def bfill (st : Nat → Bool) (j : Nat) : Value := .bool (st j)

theorem cntW_row {w : World} {g t m : Nat} {st : Nat → Bool} (h : w.rowIs g t m (bfill st)) : cntW w g m = cnt st m :=
  cnt_congr fun j hj => by
    unfold boolAt
    rw [h.cell hj]
    rfl

theorem next_le {us vs : List Wr} {st : Nat → Bool} {j : Nat} (h : nextS us vs st j = true) : st j = true := by
  unfold nextS at h
  rw [Bool.and_eq_true] at h
  exact h.1

/-- What the second loop knows of the first k: whether all stay. -/
def Sames (us vs : List Wr) (st : Nat → Bool) (sb : Bool) (k : Nat) : Prop :=
  (sb = true → ∀ j, j < k → nextS us vs st j = st j) ∧ (sb = false → ∃ j, j < k ∧ st j = true ∧ nextS us vs st j = false)

theorem sames_start (us vs : List Wr) (st : Nat → Bool) : Sames us vs st true 0 := ⟨fun _ j hj => by omega, fun h => by simp at h⟩

theorem sames_stay {us vs : List Wr} {st : Nat → Bool} {sb : Bool} {k : Nat} (h : Sames us vs st sb k) (hk : nextS us vs st k = st k) : Sames us vs st sb (k + 1) :=
  ⟨fun hs j hj => by
    by_cases h' : j < k
    · exact h.1 hs j h'
    · have : j = k := by omega
      rw [this, hk], fun hs => by
    obtain ⟨j, hj, h1⟩ := h.2 hs
    exact ⟨j, by omega, h1⟩⟩

theorem sames_go {us vs : List Wr} {st : Nat → Bool} {k : Nat} (h1 : st k = true) (h2 : nextS us vs st k = false) : Sames us vs st false (k + 1) :=
  ⟨fun hs => by simp at hs, fun _ => ⟨k, by omega, h1, h2⟩⟩

theorem mid_stay {us vs : List Wr} {st : Nat → Bool} {k : Nat} (hk : nextS us vs st k = st k) (j : Nat) : midS us vs st (k + 1) j = midS us vs st k j := by
  unfold midS
  by_cases h : j < k
  · rw [if_pos h, if_pos (by omega)]
  · rw [if_neg h]
    by_cases h' : j = k
    · rw [if_pos (by omega), h', hk]
    · rw [if_neg (by omega)]

theorem mid_go {us vs : List Wr} {st : Nat → Bool} {k : Nat} (hk : nextS us vs st k = false) (j : Nat) : (if j = k then Value.bool false else bfill (midS us vs st k) j) = bfill (midS us vs st (k + 1)) j := by
  unfold bfill midS
  by_cases h' : j = k
  · rw [if_pos h', if_pos (by omega), h', hk]
  · rw [if_neg h']
    by_cases h : j < k
    · rw [if_pos h, if_pos (by omega)]
    · rw [if_neg h, if_neg (by omega)]

theorem mid_end {us vs : List Wr} {st : Nat → Bool} {m : Nat} {j : Nat} (hj : j < m) : bfill (midS us vs st m) j = bfill (nextS us vs st) j := by
  unfold bfill midS
  rw [if_pos hj]

theorem bstart_go (k j : Nat) : (if j = k then Value.bool true else bfill (fun j => decide (j < k)) j) = bfill (fun j => decide (j < k + 1)) j := by
  unfold bfill
  by_cases h' : j = k
  · rw [if_pos h', h']
    simp
  · rw [if_neg h']
    congr 1
    simp only [decide_eq_decide]
    omega

theorem infoBool : (Tryz.prog.info? 4).map (fun i => (i.zero, i.size, i.bytes)) = some (some (.bool false), 1, 1) := by kernel_rfl

theorem brow_start (w : World) (t n : Nat) : (w.alloc (.cells (madeCells #[.bool false] n) t)).rowIs w.heap.size t n (bfill fun j => decide (j < 0)) := by
  refine ⟨_, Go.Deep.blk_alloc_new _ _, size_madeCells _ _, fun i hi => ?_⟩
  simp [madeCells, hi, bfill, Nat.mod_one]

end Go.Proofs.YtidpcjcnhklmpacGreatDoor

/- What fits together, with no program in sight: the rounds end at the greatest that fits. -/
namespace Go.Proofs.YtidpcjcnhklmpacGreatDoor
open Go.ChangeShapes Go.WideShapes Go.ChangeAt Go.RowKit Go.Joins

theorem tcmp_ge_trans {c s q c' s' q' c2 s2 q2 : Int} (h : 0 ≤ tcmp c s q c' s' q') (h' : 0 ≤ tcmp c' s' q' c2 s2 q2) : 0 ≤ tcmp c s q c2 s2 q2 := by
  have t := tcmp_three c2 s2 q2 c' s' q' c s q
  rw [tcmp_neg c' s' q' c2 s2 q2, tcmp_neg c s q c' s' q', tcmp_neg c s q c2 s2 q2] at t
  rcases t.on (by omega) (by omega) with h1 | h1 <;> omega

theorem cmpW_neg_t {x y : Wr} (h : cmpW y x < 0) : 0 ≤ tcmp x.c x.s x.q y.c y.s y.q := by
  rw [tcmp_neg y.c y.s y.q x.c x.s x.q]
  unfold cmpW wcmp at h
  by_cases ht : tcmp y.c y.s y.q x.c x.s x.q = 0
  · omega
  · rw [if_pos ht] at h
    omega

theorem cmpW_ge_t {x y : Wr} (h : ¬ cmpW y x < 0) : 0 ≤ tcmp y.c y.s y.q x.c x.s x.q := by
  unfold cmpW wcmp at h
  by_cases ht : tcmp y.c y.s y.q x.c x.s x.q = 0
  · omega
  · rw [if_pos ht] at h
    omega

theorem has_put {ws : List Wr} (h : Rise ws) (x : Wr) (key c s q : Int) : hasB (putW ws x) key c s q = true ↔ hasB ws key c s q = true ∨ (x.k = key ∧ 0 ≤ tcmp x.c x.s x.q c s q) := by
  unfold hasB
  rw [find_putW h]
  by_cases hk : key = x.k
  · subst hk
    rw [if_pos rfl]
    cases hf : findW ws x.k with
    | none =>
      show decide (0 ≤ tcmp x.c x.s x.q c s q) = true ↔ false = true ∨ (x.k = x.k ∧ 0 ≤ tcmp x.c x.s x.q c s q)
      rw [decide_eq_true_eq]
      exact ⟨fun h => .inr ⟨rfl, h⟩, fun h => by
        rcases h with h | h
        · simp at h
        · exact h.2⟩
    | some y =>
      by_cases hc : cmpW y x < 0
      · have e : laterO (some y) x = x := by
          unfold laterO
          exact if_pos hc
        rw [e]
        show decide (0 ≤ tcmp x.c x.s x.q c s q) = true ↔ decide (0 ≤ tcmp y.c y.s y.q c s q) = true ∨ (x.k = x.k ∧ 0 ≤ tcmp x.c x.s x.q c s q)
        rw [decide_eq_true_eq, decide_eq_true_eq]
        exact ⟨fun h => .inr ⟨rfl, h⟩, fun h => by
          rcases h with h | h
          · exact tcmp_ge_trans (cmpW_neg_t hc) h
          · exact h.2⟩
      · have e : laterO (some y) x = y := by
          unfold laterO
          exact if_neg hc
        rw [e]
        show decide (0 ≤ tcmp y.c y.s y.q c s q) = true ↔ decide (0 ≤ tcmp y.c y.s y.q c s q) = true ∨ (x.k = x.k ∧ 0 ≤ tcmp x.c x.s x.q c s q)
        rw [decide_eq_true_eq]
        exact ⟨.inl, fun h => by
          rcases h with h | h
          · exact h
          · exact tcmp_ge_trans (cmpW_ge_t hc) h.2⟩
  · rw [if_neg hk]
    constructor
    · exact .inl
    · rintro (h1 | h1)
      · exact h1
      · exact absurd h1.1.symm hk

theorem rise_allTo {us : List Wr} (vs : List Wr) (st : Nat → Bool) (h : Rise us) : ∀ k, Rise (allTo us vs st k)
  | 0 => h
  | k + 1 => by
    cases hb : st k
    · rw [allTo_no hb]
      exact rise_allTo vs st h k
    · rw [allTo_yes hb]
      exact rise_putW (rise_allTo vs st h k) _

theorem has_allTo {us : List Wr} (vs : List Wr) (st : Nat → Bool) (h : Rise us) (key c s q : Int) : ∀ k, hasB (allTo us vs st k) key c s q = true ↔ hasB us key c s q = true ∨ ∃ j, j < k ∧ st j = true ∧ (vs.getD j wz).k = key ∧ 0 ≤ tcmp (vs.getD j wz).c (vs.getD j wz).s (vs.getD j wz).q c s q
  | 0 => by
    constructor
    · exact .inl
    · rintro (h1 | ⟨j, hj, _⟩)
      · exact h1
      · omega
  | k + 1 => by
    have ih := has_allTo vs st h key c s q k
    cases hb : st k
    · rw [allTo_no hb, ih]
      constructor
      · rintro (h1 | ⟨j, hj, h2⟩)
        · exact .inl h1
        · exact .inr ⟨j, by omega, h2⟩
      · rintro (h1 | ⟨j, hj, h2, h3⟩)
        · exact .inl h1
        · refine .inr ⟨j, ?_, h2, h3⟩
          have : j ≠ k := fun e => by rw [e, hb] at h2; simp at h2
          omega
    · rw [allTo_yes hb, has_put (rise_allTo vs st h k), ih]
      constructor
      · rintro ((h1 | ⟨j, hj, h2⟩) | h1)
        · exact .inl h1
        · exact .inr ⟨j, by omega, h2⟩
        · exact .inr ⟨k, by omega, hb, h1⟩
      · rintro (h1 | ⟨j, hj, h2, h3⟩)
        · exact .inl (.inl h1)
        · by_cases e : j = k
          · rw [e] at h3
            exact .inr h3
          · exact .inl (.inr ⟨j, by omega, h2, h3⟩)

theorem cov_iff (ws : List Wr) (ds : List Dp) : covB ws ds = true ↔ ∀ d ∈ ds, hasB ws d.k d.c d.s d.q = true := by
  unfold covB lacksL
  rw [beq_iff_eq, List.length_eq_zero_iff, List.filter_eq_nil_iff]
  constructor
  · intro h d hd
    have := h d hd
    unfold lacking at this
    simpa using this
  · intro h d hd
    unfold lacking
    rw [h d hd]
    simp

theorem cov_mono {us : List Wr} {vs : List Wr} {s t : Nat → Bool} (h : Rise us) (hst : ∀ j, j < vs.length → s j = true → t j = true) {ds : List Dp} (hc : covB (allOf us vs s) ds = true) : covB (allOf us vs t) ds = true := by
  rw [cov_iff] at *
  intro d hd
  have h1 := hc d hd
  unfold allOf at *
  rw [has_allTo vs _ h] at *
  rcases h1 with h1 | ⟨j, hj, h2, h3⟩
  · exact .inl h1
  · exact .inr ⟨j, hj, hst j hj h2, h3⟩

theorem allTo_congr {us vs : List Wr} {s t : Nat → Bool} : ∀ {k}, (∀ j, j < k → s j = t j) → allTo us vs s k = allTo us vs t k
  | 0, _ => rfl
  | k + 1, h => by
    have ih := allTo_congr (us := us) (vs := vs) (k := k) (fun j hj => h j (by omega))
    have hk := h k (by omega)
    cases hb : t k
    · rw [allTo_no hb, allTo_no (hk.trans hb), ih]
    · rw [allTo_yes hb, allTo_yes (hk.trans hb), ih]

theorem next_congr {us vs : List Wr} {s t : Nat → Bool} (h : ∀ j, j < vs.length → s j = t j) {j : Nat} (hj : j < vs.length) : nextS us vs s j = nextS us vs t j := by
  unfold nextS allOf
  rw [h j hj, allTo_congr h]

/-- Who fits. -/
def fixS (us vs : List Wr) : Nat → Bool := stayAt us vs vs.length

def Fixed (us vs : List Wr) (st : Nat → Bool) : Prop := ∀ j, j < vs.length → nextS us vs st j = st j

theorem fixed_on {us vs : List Wr} {r : Nat} (h : Fixed us vs (stayAt us vs r)) : ∀ s, ∀ j, j < vs.length → stayAt us vs (r + s) j = stayAt us vs r j
  | 0, j, _ => rfl
  | s + 1, j, hj => by
    show nextS us vs (stayAt us vs (r + s)) j = _
    rw [next_congr (fixed_on h s) hj]
    exact h j hj

theorem stay_rounds (us vs : List Wr) : ∀ r, (∃ s, s ≤ r ∧ Fixed us vs (stayAt us vs s)) ∨ cnt (stayAt us vs r) vs.length + r ≤ vs.length
  | 0 => by
    right
    have h : ∀ (st : Nat → Bool) m, cnt st m ≤ m := by
      intro st m
      induction m with
      | zero => exact Nat.le_refl _
      | succ m ih =>
        unfold cnt
        cases st m <;> simp <;> omega
    have := h (stayAt us vs 0) vs.length
    omega
  | r + 1 => by
    rcases stay_rounds us vs r with ⟨s, hs, hf⟩ | h
    · exact .inl ⟨s, by omega, hf⟩
    · by_cases hf : Fixed us vs (stayAt us vs r)
      · exact .inl ⟨r, by omega, hf⟩
      · right
        unfold Fixed at hf
        simp only [Classical.not_forall] at hf
        obtain ⟨j, hj, hne⟩ := hf
        have hlt : cnt (nextS us vs (stayAt us vs r)) vs.length < cnt (stayAt us vs r) vs.length := by
          refine cnt_lt (fun j _ h => next_le h) ⟨j, hj, ?_⟩
          cases h1 : stayAt us vs r j <;> cases h2 : nextS us vs (stayAt us vs r) j
          · rw [h1, h2] at hne; exact absurd rfl hne
          · have := next_le h2; rw [h1] at this; simp at this
          · exact ⟨rfl, rfl⟩
          · rw [h1, h2] at hne; exact absurd rfl hne
        show cnt (nextS us vs (stayAt us vs r)) vs.length + (r + 1) ≤ vs.length
        omega

theorem cnt_zero {s : Nat → Bool} : ∀ {m}, cnt s m = 0 → ∀ j, j < m → s j = false
  | 0, _, j, hj => by omega
  | m + 1, h, j, hj => by
    unfold cnt at h
    by_cases e : j = m
    · rw [e]
      cases hb : s m
      · rfl
      · rw [hb] at h; simp at h
    · exact cnt_zero (m := m) (by omega) j (by omega)

theorem fix_fixed (us vs : List Wr) : Fixed us vs (fixS us vs) := by
  rcases stay_rounds us vs vs.length with ⟨s, hs, hf⟩ | h
  · have h1 := fixed_on hf (vs.length - s)
    rw [show s + (vs.length - s) = vs.length by omega] at h1
    intro j hj
    unfold fixS
    rw [next_congr h1 hj, hf j hj, h1 j hj]
  · have h0 := cnt_zero (m := vs.length) (s := stayAt us vs vs.length) (by omega)
    intro j hj
    have h1 := h0 j hj
    unfold fixS
    rw [h1]
    cases h2 : nextS us vs (stayAt us vs vs.length) j
    · rfl
    · have := next_le h2
      rw [h1] at this
      simp at this

theorem stay_is_fix {us vs : List Wr} {r : Nat} (h : Fixed us vs (stayAt us vs r)) : ∀ j, j < vs.length → stayAt us vs r j = fixS us vs j := by
  intro j hj
  by_cases hr : r ≤ vs.length
  · have h1 := fixed_on h (vs.length - r) j hj
    rw [show r + (vs.length - r) = vs.length by omega] at h1
    exact h1.symm
  · have h1 := fixed_on (fix_fixed us vs) (r - vs.length) j hj
    rw [show vs.length + (r - vs.length) = r by omega] at h1
    exact h1

theorem fix_great {us vs : List Wr} (h : Rise us) {T : Nat → Bool} (hT : ∀ j, j < vs.length → T j = true → covB (allOf us vs T) (vs.getD j wz).xs = true) : ∀ r, ∀ j, j < vs.length → T j = true → stayAt us vs r j = true
  | 0, j, _, _ => rfl
  | r + 1, j, hj, h1 => by
    show nextS us vs (stayAt us vs r) j = true
    unfold nextS
    rw [fix_great h hT r j hj h1, Bool.true_and]
    exact cov_mono h (fun i hi h2 => fix_great h hT r i hi h2) (hT j hj h1)

/-- What strikes out only what is not covered strikes out nothing that fits. -/
theorem fix_kept {us vs : List Wr} (h : Rise us) {S : Nat → Bool} (hS : ∀ j, j < vs.length → fixS us vs j = true → S j = true) {p : Nat} (hp : p < vs.length) (hc : covB (allOf us vs S) (vs.getD p wz).xs = false) : fixS us vs p = false := by
  cases hb : fixS us vs p
  · rfl
  · have h1 := fix_fixed us vs p hp
    rw [hb] at h1
    unfold nextS at h1
    rw [Bool.and_eq_true] at h1
    have h2 := cov_mono h hS h1.2
    rw [hc] at h2
    simp at h2

/-- What keeps all that fits, and is covered by itself, is what fits. -/
theorem fix_is {us vs : List Wr} (h : Rise us) {S : Nat → Bool} (hS : ∀ j, j < vs.length → fixS us vs j = true → S j = true) (hc : ∀ j, j < vs.length → S j = true → covB (allOf us vs S) (vs.getD j wz).xs = true) : ∀ j, j < vs.length → S j = fixS us vs j := by
  intro j hj
  cases hb : S j
  · cases hf : fixS us vs j
    · rfl
    · rw [hS j hj hf] at hb
      simp at hb
  · exact (fix_great h hc vs.length j hj hb).symm

/-- Those of the first k that are marked so. -/
def thoseTo (vs : List Wr) (st : Nat → Bool) (fit : Bool) : Nat → List Wr
  | 0 => []
  | k + 1 => if st k = fit then thoseTo vs st fit k ++ [vs.getD k wz] else thoseTo vs st fit k

theorem those_congr {vs : List Wr} {s t : Nat → Bool} {fit : Bool} : ∀ {k}, (∀ j, j < k → s j = t j) → thoseTo vs s fit k = thoseTo vs t fit k
  | 0, _ => rfl
  | k + 1, h => by
    unfold thoseTo
    rw [h k (by omega), those_congr (k := k) (fun j hj => h j (by omega))]

theorem those_len (vs : List Wr) (st : Nat → Bool) (fit : Bool) : ∀ k, (thoseTo vs st fit k).length ≤ k
  | 0 => Nat.le_refl _
  | k + 1 => by
    have := those_len vs st fit k
    unfold thoseTo
    split
    · simp
      omega
    · omega

theorem allTo_join (us vs : List Wr) (st : Nat → Bool) : ∀ k, allTo us vs st k = joinW us (thoseTo vs st true k)
  | 0 => rfl
  | k + 1 => by
    have ih := allTo_join us vs st k
    unfold thoseTo
    cases hb : st k
    · rw [allTo_no hb, ih, if_neg (by simp)]
    · rw [allTo_yes hb, ih, if_pos rfl]
      unfold joinW
      rw [List.foldl_append]
      rfl

/-- What fits, what is held. -/
def fitL (us vs : List Wr) (fit : Bool) : List Wr := match rightB us vs with
  | true => thoseTo vs (fixS us vs) fit vs.length
  | false => []

end Go.Proofs.YtidpcjcnhklmpacGreatDoor

/- The specification's l03Those, Held, Fitting. -/
namespace Go.Proofs.YtidpcjcnhklmpacGreatDoor
open Go.ChangeShapes Go.WideShapes Go.ChangeAt Go.RowKit Go.Joins
attribute [local go_sem ↓] Go.wp_at_zero Go.wp_at_succ

theorem those_yes {vs : List Wr} {st : Nat → Bool} {fit : Bool} {k : Nat} (h : st k = fit) : thoseTo vs st fit (k + 1) = thoseTo vs st fit k ++ [vs.getD k wz] := by
  rw [thoseTo, if_pos h]

theorem those_no {vs : List Wr} {st : Nat → Bool} {fit : Bool} {k : Nat} (h : st k ≠ fit) : thoseTo vs st fit (k + 1) = thoseTo vs st fit k := by
  rw [thoseTo, if_neg h]

end Go.Proofs.YtidpcjcnhklmpacGreatDoor

/- What fits, what is held: plain facts. -/
namespace Go.Proofs.YtidpcjcnhklmpacGreatDoor
open Go.ChangeShapes Go.WideShapes Go.ChangeAt Go.RowKit Go.Joins

theorem those_mem (vs : List Wr) (st : Nat → Bool) (fit : Bool) : ∀ k, k ≤ vs.length → ∀ x ∈ thoseTo vs st fit k, x ∈ vs
  | 0, _, x, hx => by simp [thoseTo] at hx
  | k + 1, hk, x, hx => by
    unfold thoseTo at hx
    split at hx
    · rcases List.mem_append.1 hx with h | h
      · exact those_mem vs st fit k (by omega) x h
      · have : x = vs.getD k wz := by simpa using h
        rw [this]
        have e : vs.getD k wz = vs[k] := by simp [List.getD, show k < vs.length by omega]
        rw [e]
        exact List.getElem_mem (by omega)
    · exact those_mem vs st fit k (by omega) x hx

theorem bulk_app : ∀ (xs ys : List Wr), bulk (xs ++ ys) = bulk xs + bulk ys
  | [], ys => by simp [bulk]
  | x :: r, ys => by
    have ih := bulk_app r ys
    show x.xs.length + bulk (r ++ ys) = x.xs.length + bulk r + bulk ys
    omega

theorem those_bulk (vs : List Wr) (st : Nat → Bool) (fit : Bool) : ∀ k, k ≤ vs.length → bulk (thoseTo vs st fit k) ≤ bulk (vs.take k)
  | 0, _ => by simp [thoseTo, bulk]
  | k + 1, hk => by
    have ih := those_bulk vs st fit k (by omega)
    have e := bulk_take vs k (by omega)
    unfold thoseTo
    split
    · rw [bulk_app, e]
      have : bulk [vs.getD k wz] = (vs.getD k wz).xs.length := by simp [bulk]
      omega
    · omega

theorem fitL_mem {us vs : List Wr} {fit : Bool} {x : Wr} (h : x ∈ fitL us vs fit) : x ∈ vs := by
  unfold fitL at h
  cases hr : rightB us vs
  · rw [hr] at h
    simp at h
  · rw [hr] at h
    exact those_mem vs _ fit _ (Nat.le_refl _) x h

theorem fitL_len (us vs : List Wr) (fit : Bool) : (fitL us vs fit).length ≤ vs.length := by
  unfold fitL
  cases rightB us vs
  · exact Nat.zero_le _
  · exact those_len vs _ fit _

theorem fitL_bulk (us vs : List Wr) (fit : Bool) : bulk (fitL us vs fit) ≤ bulk vs := by
  unfold fitL
  cases rightB us vs
  · simp [bulk]
  · have := those_bulk vs (fixS us vs) fit vs.length (Nat.le_refl _)
    rw [List.take_of_length_le (Nat.le_refl _)] at this
    exact this

theorem fitL_few {us vs : List Wr} (hy : Few vs) (fit : Bool) : Few (fitL us vs fit) := fun i hi => by
  have hm : (fitL us vs fit).getD i wz ∈ fitL us vs fit := by
    have e : (fitL us vs fit).getD i wz = (fitL us vs fit)[i] := by simp [List.getD, hi]
    rw [e]
    exact List.getElem_mem hi
  obtain ⟨j, hj, e⟩ := List.mem_iff_getElem.1 (fitL_mem hm)
  have := hy j hj
  rw [← e]
  simpa [List.getD, hj] using this

set_option maxRecDepth 100000 in
theorem right_parts {us vs : List Wr} (h : rightB us vs = true) : Rise us ∧ (∀ x ∈ us, okW x = true) ∧ ∀ x ∈ vs, okW x = true := by
  unfold rightB at h
  rw [Bool.and_eq_true] at h
  exact ⟨((mapOk_iff us).1 h.1).2, ((mapOk_iff us).1 h.1).1, fun x hx => List.all_eq_true.1 h.2 x hx⟩

set_option maxRecDepth 100000 in
theorem fitL_right {us vs : List Wr} (h : rightB us vs = true) (fit : Bool) : fitL us vs fit = thoseTo vs (fixS us vs) fit vs.length := by
  unfold fitL
  rw [h]

set_option maxRecDepth 100000 in
theorem fitL_wrong {us vs : List Wr} (h : rightB us vs = false) (fit : Bool) : fitL us vs fit = [] := by
  unfold fitL
  rw [h]

end Go.Proofs.YtidpcjcnhklmpacGreatDoor

/- The contract of spec.Widest. -/
namespace Go.Proofs.YtidpcjcnhklmpacGreatDoor
open Go.ChangeShapes Go.WideShapes Go.ChangeAt Go.RowKit Go.Joins
attribute [local go_sem ↓] Go.wp_at_zero Go.wp_at_succ

/-- The map with all that fits put to it. -/
def widL (us vs : List Wr) : List Wr := match rightB us vs with
  | true => joinW us (fitL us vs true)
  | false => []

theorem widL_right {us vs : List Wr} (h : rightB us vs = true) : widL us vs = joinW us (fitL us vs true) := by
  unfold widL
  rw [h]

theorem widL_wrong {us vs : List Wr} (h : rightB us vs = false) : widL us vs = [] := by
  unfold widL
  rw [h]

theorem widL_mapOk (us vs : List Wr) : mapOkB (widL us vs) = true := by
  cases h : rightB us vs
  · rw [widL_wrong h]
    rfl
  · rw [widL_right h]
    obtain ⟨h1, h2, h3⟩ := right_parts h
    obtain ⟨j1, j2, -⟩ := join_spec (fitL us vs true) us h1
    refine (mapOk_iff _).2 ⟨fun x hx => ?_, j1⟩
    rcases j2 x hx with hx | hx
    · exact h2 x hx
    · exact h3 x (fitL_mem hx)

end Go.Proofs.YtidpcjcnhklmpacGreatDoor

/- The contracts of the cursor's some and cut, and of the draws of cuts. -/
namespace Go.Proofs.YtidpcjcnhklmpacGreatDoor
open Go.ChangeShapes Go.WideShapes Go.ChangeAt Go.RowKit Go.Joins
attribute [local go_sem ↓] Go.wp_at_zero Go.wp_at_succ

set_option maxRecDepth 100000 in
set_option maxHeartbeats 8000000 in
theorem some_any (B : Nat) (a : Option Addr) (len cap : Nat) (N : Int) (ag : Option Addr) (n cg base : Nat) (es : List EnG) (w : World) (hN : N ≤ 1500) (h : Cur w B a len cap N) (hr : RowG w base (.slice ag n cg) es) (hBb : B < base) (hn : es.length = n) (hn10 : n ≤ 10) (hn0 : 0 < n) (hf : ∀ d ∈ es, d.x.xs.length ≤ 10) :
    Calls Tryz.prog 35 #[.pointer (some ⟨B, 0, none⟩), .slice ag n cg] w fun e w' => ∃ g cp es2 L, e = .returned (.slice (some ⟨g, 0, none⟩) L cp) ∧ es2.length = L ∧ L ≤ 7 ∧ (∀ d ∈ es2, d.x.xs.length ≤ 10) ∧ RowEs w' w.heap.size g cp es2 ∧ Cur w' B a len cap (N + 100) ∧ Hole B w w' := by
  have hB := h.lt
  have HS : Hid (RowG w base (.slice ag n cg) es) := hr
  have HFS := Lib.hid hf
  have HN := Lib.hid hn
  obtain ⟨i0, hi0, hx0⟩ := Option.map_eq_some_iff.1 infoWr
  simp only [Prod.mk.injEq] at hx0
  have HI0 := Lib.hid hi0
  have HX0 := Lib.hid hx0
  clear hi0 hx0
  have HB0 : Hid (Below w.heap.size w (w.alloc (.cells #[] 56))) := (Below.refl _ _).alloc (Nat.le_refl _) _
  have HR0 : Hid (RowEs (w.alloc (.cells #[] 56)) w.heap.size w.heap.size 0 []) := rowEs_start w _ (Nat.le_refl _)
  have HC0 := Lib.hid (h.below HB0.out)
  have HFX : Hid (Few (es.map (·.x))) := few_iff.2 fun y hy => by
    obtain ⟨d, hd, rfl⟩ := List.mem_map.1 hy
    have := HFS.out d hd
    omega
  clear h hr hf hn
  go_enter Tryz.func35, Tryz.ntmps35
  go_wp2_with fail
  refine (size_any B a len cap _ 6 _ (by omega) (by omega) (by omega) HC0.out).mono ?_
  rintro e w1 ⟨r1, rfl, r10, r11, hc1, hh1⟩
  have HC1 : Hid (Cur w1 B a len cap (N + 10 - r1)) := hc1.more (by omega)
  have HH1 := Lib.hid ((Hole.of_below HB0.out).trans hh1)
  have HR1 := Lib.hid (HR0.out.hole hh1 hB)
  clear hc1 hh1 HC0 HR0 HB0
  go_wp2
  go_loopw [5, 6] (fun t i wr => ∃ (L g cp : Nat) (z : Int) (es2 : List En), 0 ≤ z ∧ z ≤ 6 ∧ (L : Int) + z ≤ 6 ∧ i = .int .i64 z ∧ t = .slice (some ⟨g, 0, none⟩) L cp ∧ Hid (es2.length = L) ∧ Hid (∀ d ∈ es2, d.x.xs.length ≤ 10) ∧ Hid (RowEs wr w.heap.size g cp es2) ∧ Hid (Cur wr B a len cap (N + 10 - z)) ∧ Hid (Hole B w wr)) (fun _ i _ => (intOf i).toNat)
  case atStart => exact ⟨0, w.heap.size, 0, r1, [], r10, r11, by omega, rfl, rfl, rfl, fun d hd => by simp at hd, HR1, HC1, HH1⟩
  case round =>
    clear HR1 HC1 HH1 r10 r11
    obtain ⟨L, g, cp, z, es2, hz0, hz6, hLz, rfl, rfl, HL, HF, HR, HC, HH⟩ := hrel
    by_cases hz' : 0 < z
    · go_wp2_with fail
      refine (pick_len B a len cap _ n _ (by omega) (by omega) (by omega) HC.out).mono ?_
      rintro e w5 ⟨r5, rfl, hr5, hc5, hh5⟩
      have HC5 : Hid (Cur w5 B a len cap (N + 10 - (z - 1))) := hc5.more (by omega)
      have HH5 := Lib.hid (HH.out.trans hh5)
      have HR5 := Lib.hid (HR.out.hole hh5 hB)
      clear hc5 hh5 HC HR HH
      obtain ⟨bb, oo, ad, cq, rfl, hz, ⟨e0, e1, e2, e3, e4, e5, e6⟩, hd⟩ := ((HS.out.hole HH5.out hBb).isWs HFX.out).at (Below.refl _ _) (n := n) (by rw [List.length_map, HN.out]) hr5
      have hxl : ((es.map (·.x)).getD r5 wz).xs.length ≤ 10 := by
        obtain ⟨d, hd, h1⟩ := List.mem_map.1 (getD_mem (ws := es.map (·.x)) (p := r5) (by rw [List.length_map, HN.out]; exact hr5))
        rw [← h1]
        exact HFS.out d hd
      have i4 : (0 : Int) ≤ (r5 : Int) := by omega
      have i5 : (r5 : Int) < (n : Int) := by omega
      have HD := Lib.hid hd
      clear hd
      generalize (es.map (·.x)).getD r5 wz = x at *
      obtain ⟨xk, xc, xs', xq, xv, xd, xx⟩ := x
      simp only at e0 e1 e2 e3 e4 e5 e6 hxl HD
      go_wp2_with fail
      refine (copy_any ⟨xk, xc, xs', xq, xv, xd, xx⟩ _ _ _ (by show xx.length ≤ 1048576; omega) HD.out).mono ?_
      rintro e w7 ⟨g7, cp7, rfl, hg7, hg7', hd7, hb⟩
      have HC7 := Lib.hid (HC5.out.below hb)
      have HH7 := Lib.hid (HH5.out.trans (Hole.of_below hb))
      have HR7 := Lib.hid (HR5.out.below hb)
      have HD7 := Lib.hid hd7
      have hgg : g7 ≠ g := by have := HR5.out.lt; omega
      have hgl : w.heap.size ≤ g7 := Nat.le_trans HH5.out.size hg7
      clear hb hd7 HC5 HR5 HH5 HD
      have HBA : Hid (Below w7.heap.size w7 (w7.alloc (.cells #[.int .i64 xk, .int .i64 xc, .int .i64 xs', .int .i64 xq, .int .i64 xv, .bool xd, .slice (some ⟨g7, 0, none⟩) xx.length cp7] 56))) := (Below.refl _ _).alloc (Nat.le_refl _) _
      have HW := Lib.hid (HR7.out.below HBA.out)
      have HOW : Hid ((w7.alloc (.cells #[.int .i64 xk, .int .i64 xc, .int .i64 xs', .int .i64 xq, .int .i64 xv, .bool xd, .slice (some ⟨g7, 0, none⟩) xx.length cp7] 56)).ownsRow w.heap.size 56 7 (.slice (some ⟨g, 0, none⟩) L cp) L (es2.flatMap wrVals)) := by
        have := HW.out.own
        rw [HL.out] at this
        exact this
      have hsz : w.heap.size ≤ w7.heap.size := HH7.out.size
      have HCA := Lib.hid (HC7.out.below HBA.out)
      have HHA := Lib.hid (HH7.out.trans (Hole.of_below HBA.out))
      go_wp2_with (at_builtin; refine wpList_append_lies _ (by rfl) _ _ _ (by rfl) w.heap.size 56 i0 (wrV 0 0 0 0 0 false none 0 0) 7 72 Tryz.underlying29 HI0.out HX0.out.1 HX0.out.2.1 HX0.out.2.2 (by rfl) (by omega) (.slice (some ⟨g, 0, none⟩) L cp) L (es2.flatMap wrVals) (by rfl) HOW.out ⟨w7.heap.size, 0, none⟩ 1 1 (wrVals ⟨⟨xk, xc, xs', xq, xv, xd, xx⟩, g7, cp7⟩) (by rfl) (by rfl) (one_cells w7 _ ⟨⟨xk, xc, xs', xq, xv, xd, xx⟩, g7, cp7⟩) (by simpa using vals_one [⟨⟨xk, xc, xs', xq, xv, xd, xx⟩, g7, cp7⟩]) (by omega) (by unfold maxLen; omega) (by omega) (by simp; omega) _ rfl ?_; intro g3 cp3 W5 hown hgrow hg3 _; refine Hid.out ?_)
      refine Lib.hid ?_
      have HR8 : Hid (RowEs W5 w.heap.size g3 cp3 (es2 ++ [⟨⟨xk, xc, xs', xq, xv, xd, xx⟩, g7, cp7⟩])) := by
        refine HW.out.more ⟨hgl, by simp; omega, hgg, HD7.out.below HBA.out hg7'⟩ (by rw [HL.out]; exact hown) hgrow hg3
      have hgw : w.heap.size ≤ g := HR7.out.le
      have HC8 : Hid (Cur W5 B a len cap (N + 10 - (z - 1))) := HCA.out.stay hgrow.size fun b hb => hgrow.block b (Nat.lt_of_le_of_lt hb HCA.out.lt) (by simp [Value.ownBlock]; omega)
      have HH8 : Hid (Hole B w W5) := ⟨hgrow.os.trans HHA.out.os, hgrow.tape.trans HHA.out.tape, hgrow.output.trans HHA.out.output, Nat.le_trans HHA.out.size hgrow.size, fun b hb hne => (hgrow.block b (Nat.lt_of_lt_of_le hb HHA.out.size) (by simp [Value.ownBlock]; omega)).trans (HHA.out.block b hb hne)⟩
      have HF8 : Hid (∀ d ∈ es2 ++ [(⟨⟨xk, xc, xs', xq, xv, xd, xx⟩, g7, cp7⟩ : En)], d.x.xs.length ≤ 10) := fun d hd => by
        rcases List.mem_append.1 hd with hd | hd
        · exact HF.out d hd
        · have hd : d = ⟨⟨xk, xc, xs', xq, xv, xd, xx⟩, g7, cp7⟩ := by simpa using hd
          subst hd
          exact hxl
      have HL8 : Hid ((es2 ++ [(⟨⟨xk, xc, xs', xq, xv, xd, xx⟩, g7, cp7⟩ : En)]).length = L + 1) := by
        rw [List.length_append, HL.out]
        exact Lib.hid rfl
      clear hown hgrow HW HOW HCA HHA HBA HL HF
      go_wp2
      exact ⟨⟨L + 1, g3, cp3, z - 1, _, by omega, by omega, by push_cast; omega, rfl, rfl, HL8, HF8, HR8, HC8, HH8⟩, by simp [intOf]; omega⟩
    · have hzz : z = 0 := by omega
      subst hzz
      clear HS HFX HFS
      go_wp2_with fail
      refine (once_any B a len cap _ 14 _ (by omega) (by omega) (by omega) HC.out).mono ?_
      rintro e w5 ⟨r5, rfl, hc5, hh5⟩
      have HC5 := Lib.hid hc5
      have HH5 := Lib.hid (HH.out.trans hh5)
      have HR5 := Lib.hid (HR.out.hole hh5 hB)
      clear hc5 hh5 HC HR HH
      cases r5
      · go_wp2
        go_ret
        exact ⟨g, cp, es2, L, rfl, HL.out, by omega, HF.out, HR5.out, HC5.out.more (by omega), HH5.out⟩
      · go_wp2_with fail
        refine (write_any B a len cap _ _ (by omega) HC5.out).mono ?_
        rintro e w7 ⟨k7, c7, s7, q7, v7, de7, g7, cp7, ds7, rfl, hl7, hg7, hg7', hd7, hc7, hh7⟩
        have HC7 := Lib.hid hc7
        have HH7 := Lib.hid (HH5.out.trans hh7)
        have HR7 := Lib.hid (HR5.out.hole hh7 hB)
        have HD7 := Lib.hid hd7
        have hgg : g7 ≠ g := by have := HR5.out.lt; omega
        have hgl : w.heap.size ≤ g7 := Nat.le_trans HH5.out.size hg7
        clear hc7 hh7 hd7 HC5 HR5 HH5
        have HBA : Hid (Below w7.heap.size w7 (w7.alloc (.cells #[.int .i64 k7, .int .i64 c7, .int .i64 s7, .int .i64 q7, .int .i64 v7, .bool de7, .slice (some ⟨g7, 0, none⟩) ds7.length cp7] 56))) := (Below.refl _ _).alloc (Nat.le_refl _) _
        have HW := Lib.hid (HR7.out.below HBA.out)
        have HOW : Hid ((w7.alloc (.cells #[.int .i64 k7, .int .i64 c7, .int .i64 s7, .int .i64 q7, .int .i64 v7, .bool de7, .slice (some ⟨g7, 0, none⟩) ds7.length cp7] 56)).ownsRow w.heap.size 56 7 (.slice (some ⟨g, 0, none⟩) L cp) L (es2.flatMap wrVals)) := by
          have := HW.out.own
          rw [HL.out] at this
          exact this
        have hsz : w.heap.size ≤ w7.heap.size := HH7.out.size
        have HCA := Lib.hid (HC7.out.below HBA.out)
        have HHA := Lib.hid (HH7.out.trans (Hole.of_below HBA.out))
        go_wp2_with (at_builtin; refine wpList_append_lies _ (by rfl) _ _ _ (by rfl) w.heap.size 56 i0 (wrV 0 0 0 0 0 false none 0 0) 7 72 Tryz.underlying29 HI0.out HX0.out.1 HX0.out.2.1 HX0.out.2.2 (by rfl) (by omega) (.slice (some ⟨g, 0, none⟩) L cp) L (es2.flatMap wrVals) (by rfl) HOW.out ⟨w7.heap.size, 0, none⟩ 1 1 (wrVals ⟨⟨k7, c7, s7, q7, v7, de7, ds7⟩, g7, cp7⟩) (by rfl) (by rfl) (one_cells w7 _ ⟨⟨k7, c7, s7, q7, v7, de7, ds7⟩, g7, cp7⟩) (by simpa using vals_one [⟨⟨k7, c7, s7, q7, v7, de7, ds7⟩, g7, cp7⟩]) (by omega) (by unfold maxLen; omega) (by omega) (by simp; omega) _ rfl ?_; intro g3 cp3 W5 hown hgrow hg3 _; refine Hid.out ?_)
        refine Lib.hid ?_
        have HR8 : Hid (RowEs W5 w.heap.size g3 cp3 (es2 ++ [⟨⟨k7, c7, s7, q7, v7, de7, ds7⟩, g7, cp7⟩])) := by
          refine HW.out.more ⟨hgl, by simp; omega, hgg, HD7.out.below HBA.out hg7'⟩ (by rw [HL.out]; exact hown) hgrow hg3
        have hgw : w.heap.size ≤ g := HR7.out.le
        have HC8 : Hid (Cur W5 B a len cap (N + 100)) := (HCA.out.stay hgrow.size fun b hb => hgrow.block b (Nat.lt_of_le_of_lt hb HCA.out.lt) (by simp [Value.ownBlock]; omega)).more (by omega)
        have HH8 : Hid (Hole B w W5) := ⟨hgrow.os.trans HHA.out.os, hgrow.tape.trans HHA.out.tape, hgrow.output.trans HHA.out.output, Nat.le_trans HHA.out.size hgrow.size, fun b hb hne => (hgrow.block b (Nat.lt_of_lt_of_le hb HHA.out.size) (by simp [Value.ownBlock]; omega)).trans (HHA.out.block b hb hne)⟩
        have HF8 : Hid (∀ d ∈ es2 ++ [(⟨⟨k7, c7, s7, q7, v7, de7, ds7⟩, g7, cp7⟩ : En)], d.x.xs.length ≤ 10) := fun d hd => by
          rcases List.mem_append.1 hd with hd | hd
          · exact HF.out d hd
          · have hd : d = ⟨⟨k7, c7, s7, q7, v7, de7, ds7⟩, g7, cp7⟩ := by simpa using hd
            subst hd
            show ds7.length ≤ 10
            omega
        clear hown hgrow HW HOW HCA HHA HBA
        go_wp2
        go_ret
        exact ⟨g3, cp3, _, L + 1, rfl, by rw [List.length_append, HL.out]; rfl, by omega, HF8.out, HR8.out, HC8.out, HH8.out⟩

theorem joinW_mem_wid {us vs : List Wr} {x : Wr} (h : x ∈ joinW us (fitL us vs true)) : x ∈ us ∨ x ∈ vs := by
  rcases joinW_mem _ _ _ h with h | h
  · exact .inl h
  · exact .inr (fitL_mem h)

theorem widL_mem {us vs : List Wr} {x : Wr} (h : x ∈ widL us vs) : x ∈ us ∨ x ∈ vs := by
  unfold widL at h
  cases hr : rightB us vs
  · rw [hr] at h
    simp at h
  · rw [hr] at h
    exact joinW_mem_wid h

end Go.Proofs.YtidpcjcnhklmpacGreatDoor

/- The contract of DrawTagCmp. -/
namespace Go.Proofs.YtidpcjcnhklmpacGreatDoor
open Go.ChangeShapes Go.WideShapes Go.ChangeAt Go.RowKit Go.Joins
attribute [local go_sem ↓] Go.wp_at_zero Go.wp_at_succ

theorem Hole.belowOf {B c : Nat} {w0 w w' : World} (h : Hole B w w') (h0 : Below c w0 w) (hB : c ≤ B) (hc : c ≤ w.heap.size) : Below c w0 w' := Hole.below h0 h hB hc

theorem open_as (a : Option Addr) (len cap B : Nat) (w : World) (hB : w.heap.size = B) (h : Bytes w a len) (hl : len ≤ 1048576) :
    Calls Tryz.prog 13 #[.slice a len cap] w fun e w' => e = .returned (.pointer (some ⟨B, 0, none⟩)) ∧ Cur w' B a len cap 0 ∧ Below w.heap.size w w' := by
  subst hB
  exact open_any a len cap w h hl

theorem two_tags (w : World) (t : Nat) : TagBox ((w.alloc (.cells #[.int .i64 0, .int .i64 0, .int .i64 0] t)).alloc (.cells #[.int .i64 0, .int .i64 0, .int .i64 0] t)) w.heap.size 0 0 0 ∧ TagBox ((w.alloc (.cells #[.int .i64 0, .int .i64 0, .int .i64 0] t)).alloc (.cells #[.int .i64 0, .int .i64 0, .int .i64 0] t)) (w.heap.size + 1) 0 0 0 := by
  have h := TagBox.start (w.alloc (.cells #[.int .i64 0, .int .i64 0, .int .i64 0] t)) 0 0 0 t
  have e : (w.alloc (.cells #[.int .i64 0, .int .i64 0, .int .i64 0] t)).heap.size = w.heap.size + 1 := by simp
  rw [e] at h
  exact ⟨(TagBox.start w 0 0 0 t).hole (Hole.of_below (B := w.heap.size + 2) ((Below.refl _ _).alloc (Nat.le_refl _) _)) (by omega), h⟩

end Go.Proofs.YtidpcjcnhklmpacGreatDoor

/- The contract of the draw of a map and a write. -/
namespace Go.Proofs.YtidpcjcnhklmpacGreatDoor
open Go.ChangeShapes Go.WideShapes Go.ChangeAt Go.RowKit Go.Joins
attribute [local go_sem ↓] Go.wp_at_zero Go.wp_at_succ

def NatFact (n : Nat) : Fact := fun v _ => ∃ r : Nat, v = .int .i64 (r : Int) ∧ r < n

/-- A place in a row of writes. -/
def PlaceFact (b n : Nat) : Fact := fun v _ => ∃ r : Nat, v = .pointer (some ⟨b, r * 7, none⟩) ∧ r < n

/-- A write, with dependencies above base. -/
def OneFact (base : Nat) : Fact := fun v w => ∃ (x : Wr) (ad : Option Addr) (g cp : Nat), v = wrOf x ad cp ∧ x.xs.length ≤ 10 ∧ FreshDeps base w ad g x.xs

theorem lasts_one (B base : Nat) (a : Option Addr) (len cap : Nat) (hB : B < base) : lasts (CurR B a len cap) (OneFact base) := by
  rintro v w w' ⟨x, ad, g, cp, h1, h2, h3⟩ hr
  exact ⟨x, ad, g, cp, h1, h2, h3.of_block hr.1.size fun hp => hr.1.block g (h3 hp).2.2.1 (by have := (h3 hp).2.1; omega)⟩

theorem RowEs.setW {w : World} {base g cap : Nat} {es : List En} (h : RowEs w base g cap es) {X : Nat} (hX : X < base) (k c s q v : Int) (de : Bool) (x : Option Addr) (l p : Nat) : RowEs (setW w X k c s q v de x l p) base g cap es :=
  ((((((h.setBelow hX _ _).setBelow hX _ _).setBelow hX _ _).setBelow hX _ _).setBelow hX _ _).setBelow hX _ _).setBelow hX _ _

theorem block_setW (w : World) {X b : Nat} (hb : b ≠ X) (k c s q v : Int) (de : Bool) (x : Option Addr) (l p : Nat) : (setW w X k c s q v de x l p).heap[b]? = w.heap[b]? := by
  unfold Proofs.YtidpcjcnhklmpacGreatDoor.setW
  rw [Below.heap_setCell _ _ _ _ hb, Below.heap_setCell _ _ _ _ hb, Below.heap_setCell _ _ _ _ hb, Below.heap_setCell _ _ _ _ hb, Below.heap_setCell _ _ _ _ hb, Below.heap_setCell _ _ _ _ hb, Below.heap_setCell _ _ _ _ hb]

theorem FreshDeps.setW {B : Nat} {w : World} {a : Option Addr} {g : Nat} {xs : List Dp} (h : FreshDeps B w a g xs) {X : Nat} (hX : X < B) (k c s q v : Int) (de : Bool) (x : Option Addr) (l p : Nat) : FreshDeps B (setW w X k c s q v de x l p) a g xs :=
  h.of_block (by simp [Proofs.YtidpcjcnhklmpacGreatDoor.setW, World.setCell]) fun hp => block_setW w (by have := (h hp).2.1; omega) ..

theorem below_setW {B : Nat} {w w' : World} (h : Below B w w') {X : Nat} (hX : B ≤ X) (k c s q v : Int) (de : Bool) (x : Option Addr) (l p : Nat) : Below B w (setW w' X k c s q v de x l p) :=
  ((((((h.setCell (p := ⟨X, 0, none⟩) hX _).setCell (p := ⟨X, 1, none⟩) hX _).setCell (p := ⟨X, 2, none⟩) hX _).setCell (p := ⟨X, 3, none⟩) hX _).setCell (p := ⟨X, 4, none⟩) hX _).setCell (p := ⟨X, 5, none⟩) hX _).setCell (p := ⟨X, 6, none⟩) hX _

theorem pick_len_curR (B : Nat) (a : Option Addr) (len cap : Nat) (N : Int) (n : Nat) (w : World) (hN : N ≤ 1000000) (hn : 1 ≤ n) (hn' : n ≤ 100000) (h : Cur w B a len cap N) :
    Calls Tryz.prog 16 #[.pointer (some ⟨B, 0, none⟩), .int .i64 (n : Int)] w fun e w' => ∃ r : Nat, e = .returned (.int .i64 (r : Int)) ∧ CurR B a len cap w w' ∧ r < n := by
  by_cases h1 : n = 1
  · subst h1
    refine (pick_one B w).mono ?_
    rintro e w' ⟨rfl, rfl⟩
    exact ⟨0, rfl, curR_refl _ _ _ _ _, by omega⟩
  · refine (pick_curR B a len cap N n w hN (by omega) (by omega) h).mono ?_
    rintro e w' ⟨r, rfl, h2, h3, h4⟩
    obtain ⟨r', rfl⟩ := Int.eq_ofNat_of_zero_le h3
    exact ⟨r', rfl, h2, by omega⟩

end Go.Proofs.YtidpcjcnhklmpacGreatDoor

/- The contracts of the cursor's log and of spec.DrawLogRead: a text of at most so many bytes. -/
namespace Go.Proofs.YtidpcjcnhklmpacGreatDoor
open Go.ChangeShapes Go.WideShapes Go.ChangeAt Go.RowKit Go.Joins
attribute [local go_sem ↓] Go.wp_at_zero Go.wp_at_succ

set_option maxRecDepth 100000 in
theorem lines_size : ∀ (ws : List Wr), (ws.flatMap lineW).length ≤ 401 * ws.length
  | [] => by simp
  | x :: r => by
    have h1 := lines_size r
    have h2 := text_400 (x := x)
    simp only [List.flatMap_cons, List.length_append, List.length_cons, lineW, List.length_nil] at *
    omega

set_option maxRecDepth 100000 in
theorem batchT_size (ws : List Wr) : (batchT ws).length ≤ 2500 := by
  unfold batchT
  split
  · rename_i h
    have h1 := okWs_len h
    have h2 := lines_size ws
    have h3 := Lib.itoa_length_le (ws.length : Int) (by omega) (by omega)
    have h5 := crcL_bd (bodyB ws)
    have h4 := Lib.itoa_length_le ((crcL (bodyB ws) : Nat) : Int) (by omega) (by omega)
    have e1 : (bodyB ws).length = 6 + (Lib.itoa (ws.length : Int)).length + 1 + (ws.flatMap lineW).length := by
      unfold bodyB headB
      simp
      omega
    have e2 : (sumB ws).length = 4 + (Lib.itoa ((crcL (bodyB ws) : Nat) : Int)).length := by
      unfold sumB
      simp
      omega
    rw [List.length_append, List.length_append, e1, e2]
    simp only [List.length_cons, List.length_nil]
    omega
  · simp

set_option maxRecDepth 100000 in
theorem ws0_rowEs {w : World} {base g cp : Nat} {es : List En} (h : RowEs w base g cp es) : IsWs0 w (some ⟨g, 0, none⟩) (es.map (·.x)) := by
  have h' := h.holds rfl
  refine .inr ⟨g, 0, rfl, h'.1, fun i hi => ?_⟩
  obtain ⟨⟨cap, h1⟩, h2, h3⟩ := h'.2 i hi
  exact ⟨_, cap, by rw [Nat.zero_add]; exact h1, .inr ⟨_, rfl, h2, h3⟩⟩

set_option maxRecDepth 100000 in
theorem few_es {es : List En} (h : ∀ d ∈ es, d.x.xs.length ≤ 10) : Few (es.map (·.x)) := fun i hi => by
  have hi' : i < es.length := by simpa using hi
  have e : (es.map (·.x)).getD i wz = (es[i]'hi').x := by simp [List.getD, hi']
  rw [e]
  have := h _ (List.getElem_mem hi')
  omega

set_option maxRecDepth 100000 in
set_option maxHeartbeats 8000000 in
theorem log_any (B : Nat) (a : Option Addr) (len cap : Nat) (N : Int) (w : World) (hN : N ≤ 500) (h : Cur w B a len cap N) :
    Calls Tryz.prog 14 #[.pointer (some ⟨B, 0, none⟩)] w fun e w' => ∃ t : ByteArray, e = .returned (.string t) ∧ t.size ≤ 10000 ∧ Cur w' B a len cap (N + 700) ∧ Hole B w w' := by
  have hB := h.lt
  have HC := Lib.hid h
  clear h
  go_enter Tryz.func14, Tryz.ntmps14
  go_wp2_with fail
  refine (story_any B a len cap N _ (by omega) HC.out).mono ?_
  rintro e w2 ⟨v, es, rfl, hl1, hl2, hf, hr, hc2, hh2⟩
  obtain ⟨ag, cg, hv, -⟩ := hr.form
  subst hv
  have HF := Lib.hid hf
  have HR2 := Lib.hid hr
  have HC2 := Lib.hid hc2
  have HH2 := Lib.hid hh2
  clear hf hr hc2 hh2 HC
  go_wp2_with fail
  refine (pick_any B a len cap _ 4 _ (by omega) (by omega) (by omega) HC2.out).mono ?_
  rintro e w3 ⟨r, rfl, r0, r4, hc3, hh3⟩
  have HC3 : Hid (Cur w3 B a len cap (N + 700 - 100 * r)) := hc3.more (by omega)
  have HR3 := Lib.hid (HR2.out.hole hh3 hB)
  have HH3 := Lib.hid (HH2.out.trans hh3)
  clear hc3 hh3 HC2 HR2 HH2
  generalize hm : es.length = m at *
  have HM := Lib.hid hm
  clear hm
  go_wp2
  go_loopw [3, 5] (fun t i wr => ∃ (z : Int) (acc : ByteArray), 0 ≤ z ∧ z ≤ 3 ∧ i = .int .i64 z ∧ t = .string acc ∧ (acc.size : Int) ≤ 2500 * (3 - z) ∧ Hid (RowG wr w.heap.size (.slice ag m cg) es) ∧ Hid (Cur wr B a len cap (N + 700 - 100 * z)) ∧ Hid (Hole B w wr)) (fun _ i _ => (intOf i).toNat)
  case atStart => exact ⟨r, _, r0, by omega, rfl, rfl, by simp [ByteArray.size]; omega, HR3, HC3, HH3⟩
  case round =>
    clear HR3 HC3 HH3 r0 r4
    obtain ⟨z, acc, z0, z3, rfl, rfl, hsz, HR, HC, HH⟩ := hrel
    by_cases hz : 0 < z
    · go_wp2_with fail
      refine (some_any B a len cap _ ag m cg w.heap.size es _ (by omega) HC.out HR.out hB HM.out hl1 hl2 HF.out).mono ?_
      rintro e w5 ⟨g, cp, es2, L, rfl, hL, hL7, hf2, hr2, hc5, hh5⟩
      have HR5 := Lib.hid (HR.out.hole hh5 hB)
      have HC5 : Hid (Cur w5 B a len cap (N + 700 - 100 * (z - 1))) := hc5.more (by omega)
      have HH5 := Lib.hid (HH.out.trans hh5)
      have HW5 := Lib.hid (ws0_rowEs hr2)
      have HF2 := Lib.hid (few_es hf2)
      have HL2 : Hid ((es2.map (·.x)).length = L) := by rw [List.length_map]; exact Lib.hid hL
      have hb2 := batchT_size (es2.map (·.x))
      clear hL hf2 hr2 hc5 hh5 HR HC HH
      go_wp2_with fail
      refine (specBatch_any _ L cp _ _ HL2.out (by omega) HF2.out HW5.out).mono ?_
      rintro e w6 ⟨rfl, hb⟩
      have HR6 := Lib.hid (HR5.out.below hb)
      have HC6 := Lib.hid (HC5.out.below hb)
      have HH6 := Lib.hid (HH5.out.trans (Hole.of_below hb))
      have hs2 : (str (batchT (es2.map (·.x)))).size ≤ 2500 := by rw [str_size]; exact hb2
      clear hb hb2 HR5 HC5 HH5 HW5 HF2 HL2
      generalize str (batchT (es2.map (·.x))) = tb at *
      have hy : (acc ++ tb).size ≤ 10000 := by rw [ByteArray.size_append]; omega
      have hy2 : ((acc ++ tb).size : Int) ≤ 2500 * (3 - (z - 1)) := by rw [ByteArray.size_append]; push_cast; omega
      go_wp2
      exact ⟨⟨z - 1, _, by omega, by omega, by go_num, rfl, hy2, HR6, HC6, HH6⟩, by simp [intOf]; omega⟩
    · have hz0 : z = 0 := by omega
      subst hz0
      have HC7 : Hid (Cur wr B a len cap (N + 700)) := HC.out.more (by omega)
      go_wp2
      go_ret
      exact ⟨acc, rfl, by omega, HC7.out, HH.out⟩

/-- An unsigned number of eight bits. -/
def ByteF : Fact := fun v _ => ∃ z : Int, v = .int .u8 z

/-- A row of bytes. -/
def BRow (w : World) (g n : Nat) : Prop := g < w.heap.size ∧ (∀ i, i < n → ∃ z : Int, w.cell? ⟨g, i, none⟩ = some (.int .u8 z)) ∧ ∀ i, i < n → w.frozen? ⟨g, i, none⟩ = false

set_option maxRecDepth 100000 in
theorem BRow.hole {w w' : World} {B g n : Nat} (h : BRow w g n) (hh : Hole B w w') (hn : g ≠ B) : BRow w' g n :=
  ⟨Nat.lt_of_lt_of_le h.1 hh.size, fun i hi => by obtain ⟨z, hz⟩ := h.2.1 i hi; exact ⟨z, (hh.cell h.1 hn).trans hz⟩, fun i hi => (hh.frozen h.1 hn).trans (h.2.2 i hi)⟩

set_option maxRecDepth 100000 in
theorem BRow.set {w : World} {g n k : Nat} (h : BRow w g n) (hk : k < n) (z : Int) : BRow (w.setCell ⟨g, k, none⟩ (.int .u8 z)) g n := by
  refine ⟨by simpa [World.setCell] using h.1, fun i hi => ?_, fun i hi => by rw [World.frozen?_setCell]; exact h.2.2 i hi⟩
  by_cases e : i = k
  · subst e
    obtain ⟨z0, hz⟩ := h.2.1 i hi
    exact ⟨z, cell_set_same hz⟩
  · obtain ⟨z0, hz⟩ := h.2.1 i hi
    exact ⟨z0, cell_set_off hz (Ne.symm e)⟩

set_option maxRecDepth 100000 in
theorem BRow.made (w : World) (e : TypeId) (s : ByteArray) : BRow (Lib.bytesWorld w e s) w.heap.size s.size := by
  refine ⟨by rw [Lib.bytesWorld_size]; omega, fun i hi => ⟨_, Lib.bytesWorld_cell w e s i hi⟩, fun i hi => ?_⟩
  unfold World.frozen?
  rw [Lib.bytesWorld_at_new]
  have : s.size ≤ (Lib.bytesCells w e s).size := by simp [Lib.bytesCells]
  simp
  omega

set_option maxRecDepth 100000 in
theorem bytesWorld_below (w : World) (e : TypeId) (s : ByteArray) : Below w.heap.size w (Lib.bytesWorld w e s) :=
  ⟨rfl, rfl, rfl, by rw [Lib.bytesWorld_size]; omega, fun j hj => Lib.bytesWorld_at_old w e s j hj⟩

set_option maxRecDepth 100000 in
theorem BRow.text {w : World} {g n cap : Nat} (h : BRow w g n) (src e : TypeId) (hs : Tryz.prog.underlying src = some (.slice e)) (he : Tryz.prog.underlying e = some (.int .u8)) (dst : TypeId) (hd : Tryz.prog.underlying dst = some .string) : ∃ t : ByteArray, t.size = n ∧ (convert src dst (.slice (some ⟨g, 0, none⟩) n cap)).run Tryz.prog w = .ok (.string t) w := by
  have hz : ∀ i, ∃ z : Int, i < n → w.cell? ⟨g, i, none⟩ = some (.int .u8 z) := fun i => by
    by_cases hi : i < n
    · obtain ⟨z, hz⟩ := h.2.1 i hi
      exact ⟨z, fun _ => hz⟩
    · exact ⟨0, fun h => absurd h hi⟩
  refine ⟨strOfNums ((List.range n).map fun i => Classical.choose (hz i)), ?_, run_convert_bytes_arg w src e hs he g 0 n cap ((List.range n).map fun i => Classical.choose (hz i)) (by simp) (fun i hi => ?_) dst hd⟩
  · simp [strOfNums, ByteArray.size]
  · rw [Nat.zero_add, Classical.choose_spec (hz i) hi]
    simp [List.getD, hi]

set_option maxRecDepth 100000 in
set_option maxHeartbeats 8000000 in
theorem drawLog_any (a : Option Addr) (len cap : Nat) (w : World) (h : Bytes w a len) (hl : len ≤ 1048576) :
    Calls Tryz.prog 5 #[.slice a len cap] w fun e w' => ∃ t : ByteArray, e = .returned (.string t) ∧ t.size ≤ 10000 ∧ Below w.heap.size w w' := by
  have HO := Lib.hid (open_any a len cap w h hl)
  clear h
  go_enter Tryz.func5, Tryz.ntmps5
  go_wp2_with fail
  refine HO.out.mono ?_
  rintro e w1 ⟨rfl, hc1, hb1⟩
  have HC1 := Lib.hid hc1
  have HB1 := Lib.hid hb1
  clear hc1 hb1 HO
  go_wp2_with fail
  refine (log_any w.heap.size a len cap 0 _ (by omega) HC1.out).mono ?_
  rintro e w2 ⟨t, rfl, hsz, hc2, hh2⟩
  have HC2 := Lib.hid hc2
  have HB2 : Hid (Below w.heap.size w w2) := Hole.below HB1.out hh2 (Nat.le_refl _) HB1.out.size
  clear hc2 hh2 HB1 HC1
  go_wp2_with fail
  refine (once_any w.heap.size a len cap _ 3 _ (by omega) (by omega) (by omega) HC2.out).mono ?_
  rintro e w4 ⟨r, rfl, hc4, hh4⟩
  have HC4 := Lib.hid hc4
  have HB4 : Hid (Below w.heap.size w w4) := Hole.below HB2.out hh4 (Nat.le_refl _) HB2.out.size
  clear hc4 hh4 HC2 HB2
  cases r
  · go_wp2
    go_ret
    exact ⟨t, rfl, by omega, HB4.out⟩
  by_cases ht : 0 < t.size
  rotate_left
  · have ht' : ¬ (0 : Int) < (t.size : Int) := by omega
    have ht0 : t.size = 0 := by omega
    go_wp2
    go_ret
    exact ⟨t, rfl, by omega, HB4.out⟩
  have ht' : (0 : Int) < (t.size : Int) := by omega
  go_wp2_with fail
  refine (pick_len w.heap.size a len cap _ t.size _ (by omega) (by omega) (by omega) HC4.out).mono ?_
  rintro e w5 ⟨k, rfl, hk, hc5, hh5⟩
  have HC5 := Lib.hid hc5
  have HB5 : Hid (Below w.heap.size w w5) := Hole.below HB4.out hh5 (Nat.le_refl _) HB4.out.size
  clear hc5 hh5 HC4 HB4
  have i1 : (0 : Int) ≤ (k : Int) := by omega
  have i2 : (k : Int) < (t.size : Int) := by omega
  have i3 : (k : Int) ≤ (t.size : Int) := by omega
  go_wp2_with fail
  refine (pick_any w.heap.size a len cap _ 3 _ (by omega) (by omega) (by omega) HC5.out).mono ?_
  rintro e w6 ⟨r, rfl, r0, r3, hc6, hh6⟩
  have HB6 : Hid (Below w.heap.size w w6) := Hole.below HB5.out hh6 (Nat.le_refl _) HB5.out.size
  have hw6 : w.heap.size < w6.heap.size := hc6.lt
  have HC6 : Hid (Cur w6 w.heap.size a len cap (1000 - (12 : Nat))) := hc6.more (by omega)
  clear hc6 hh6 HC5 HB5
  by_cases hr0 : r = 0
  · subst hr0
    have hx : (t.extract 0 k).size ≤ 10000 := by rw [ByteArray.size_extract]; omega
    go_wp2
    go_ret
    exact ⟨_, rfl, hx, HB6.out⟩
  by_cases hr1 : r = 1
  rotate_left
  · have w1 : IntKind.i64.wrap ((k : Int) + 1) = (k : Int) + 1 := IntWalk.i64_in _ (by omega)
    have j1 : (0 : Int) ≤ (k : Int) + 1 := by omega
    have j2 : (k : Int) + 1 ≤ (t.size : Int) := by omega
    have j3 : ((k : Int) + 1).toNat = k + 1 := by omega
    have hx1 : (t.extract 0 k).size ≤ 10000 := by rw [ByteArray.size_extract]; omega
    have hx2 : (t.extract (k + 1) t.size).size ≤ 10000 := by rw [ByteArray.size_extract]; omega
    have hx3 : (t.extract 0 k ++ t.extract (k + 1) t.size).size ≤ 10000 := by rw [ByteArray.size_append, ByteArray.size_extract, ByteArray.size_extract]; omega
    go_wp2_with fail
    go_quiet (fail)
    go_wp2
    go_ret
    exact ⟨_, rfl, hx3, below_drewN HB6.out _⟩
  subst hr1
  have hcv := Lib.run_convert_string_bytes (P := Tryz.prog) w6 9 22 5 t Tryz.underlying9 Tryz.underlying22 Tryz.underlying5
  have HR7 := Lib.hid (BRow.made w6 5 t)
  have HBW := Lib.hid (bytesWorld_below w6 5 t)
  have HC7 : Hid (Cur (Lib.bytesWorld w6 5 t) w.heap.size a len cap (1000 - (12 : Nat))) := HC6.out.below HBW.out
  have HB7 := Lib.hid (below_step HB6.out HB6.out.size HBW.out)
  generalize grownCap w6 t.size 0 5 = gc at *
  go_wp2_with fail
  clear hcv HBW HC6
  generalize Lib.bytesWorld w6 5 t = W7 at *
  have hne : w6.heap.size ≠ w.heap.size := by omega
  refine wp_region_slots_n 11 [[(6, false)], [(5, false)], [(6, false)], [(5, false)], [(35, true), (36, true)], [(37, true)], [(3, false)], [(39, true)], [(40, true)], [(38, true), (41, true)], [(33, true), (34, true)]] (CurAny W7 w.heap.size a len cap 1000) (CurAny W7 w.heap.size a len cap 1000) (CurS W7 w.heap.size a len cap 1000) (CurR w.heap.size a len cap) (by kernel_rfl) (by kernel_rfl) (by rfl) (curS_start _ HC7.out) curS_step (fun _ _ _ h => curS_any h) (fun _ _ _ h => curS_any h) ?_
  iterate 5 (apply slot_eq; · (intro ρ w' ⟨p1, p2, p3⟩ ⟨hH, hC⟩ hn; simp at hn; go_simp; exact ⟨curR_refl _ _ _ _ _, rfl⟩))
  refine slot_fact ByteF (fun _ _ _ h _ => h) ?_ ?_
  · intro ρ w' ⟨p1, p2, p3⟩ ⟨hH, hC⟩ hn
    simp at hn
    obtain ⟨z, hz⟩ := (HR7.out.hole hH hne).2.1 k hk
    go_simp
    exact ⟨curR_refl _ _ _ _ _, z, rfl⟩
  apply slot_eq
  · intro ρ w' ⟨p1, p2, p3⟩ ⟨hH, hC⟩ hn
    simp at hn
    go_simp
    exact ⟨curR_refl _ _ _ _ _, rfl⟩
  refine slot_fact (NatFact 8) (fun _ _ _ h _ => h) ?_ ?_
  · intro ρ w' ⟨p1, p2, p3⟩ ⟨hH, hC⟩ hn
    simp at hn
    go_simp
    exact got_call (pick_len_curR w.heap.size a len cap _ 8 _ (by omega) (by omega) (by omega) hC) fun e w'' ⟨r, he, hr, h1⟩ => ⟨_, he, hr, r, rfl, h1⟩
  refine slot_fact ByteF (fun _ _ _ h _ => h) ?_ ?_
  · intro ρ w' ⟨p1, p2, p3⟩ ⟨hH, hC⟩ hn
    simp at hn
    obtain ⟨r, e1, hr⟩ := hn
    have j1 : (0 : Int) ≤ (r : Int) := by omega
    go_simp
    exact ⟨curR_refl _ _ _ _ _, _, rfl⟩
  refine slot_fact ByteF (fun _ _ _ h _ => h) ?_ ?_
  · intro ρ w' ⟨p1, p2, p3⟩ ⟨hH, hC⟩ hn
    simp at hn
    obtain ⟨⟨z1, e1⟩, z2, e2⟩ := hn
    go_simp
    exact ⟨curR_refl _ _ _ _ _, _, rfl⟩
  apply slot_eq
  · intro ρ w' ⟨p1, p2, p3⟩ ⟨hH, hC⟩ hn
    simp at hn
    go_simp
    exact ⟨curR_refl _ _ _ _ _, rfl⟩
  refine slot_end ?_
  rintro tv w8 ⟨hH, hC⟩ hF
  simp at hF
  obtain ⟨f43, ⟨z42, f42⟩, -⟩ := hF
  have HR8 := Lib.hid (HR7.out.hole hH hne)
  have HB8 : Hid (Below w.heap.size w w8) := Hole.below HB7.out hH (Nat.le_refl _) HB7.out.size
  clear hH hC
  obtain ⟨z0, hz0⟩ := HR8.out.2.1 k hk
  have hfz := HR8.out.2.2 k hk
  have HR9 := Lib.hid (HR8.out.set hk z42)
  have HB9 : Hid (Below w.heap.size w (w8.setCell ⟨w6.heap.size, k, none⟩ (.int .u8 z42))) := HB8.out.setCell (p := ⟨w6.heap.size, k, none⟩) (Nat.le_of_lt hw6) _
  obtain ⟨tt, htt, hcb⟩ := HR9.out.text (cap := gc) 22 5 Tryz.underlying22 Tryz.underlying5 9 Tryz.underlying9
  simp only [List.take_succ_cons, List.take_zero, List.drop_succ_cons, List.drop_zero, putAll, f43, f42]
  clear f43 f42
  simp only [Act.put, List.setIfInBounds_toArray, List.set_cons_succ, List.set_cons_zero]
  go_wp2
  go_ret
  exact ⟨tt, rfl, by omega, HB9.out⟩

end Go.Proofs.YtidpcjcnhklmpacGreatDoor

/- Contracts of impl.Lacks, impl.Covered, impl.IsCut, spec.IsCut. -/
namespace Go.Proofs.YtidpcjcnhklmpacGreatDoor
open Go.ChangeShapes Go.WideShapes Go.ChangeAt Go.RowKit Go.Joins
attribute [local go_sem ↓] Go.wp_at_zero Go.wp_at_succ

def cutB (ws : List Wr) : Bool := mapOkB ws && ws.all fun x => covB ws x.xs

theorem cut_false {ws : List Wr} {k : Nat} (h : k < ws.length) (hk : covB ws (ws.getD k wz).xs = false) : cutB ws = false := by
  unfold cutB
  rw [Bool.and_eq_false_iff]
  refine .inr ?_
  rw [List.all_eq_false]
  refine ⟨ws.getD k wz, ?_, by rw [hk]; simp⟩
  have e : ws.getD k wz = ws[k] := by simp [List.getD, h]
  rw [e]
  exact List.getElem_mem h

theorem cut_true {ws : List Wr} {n : Nat} (hn : ws.length = n) (hm : mapOkB ws = true) (h : ∀ j, j < n → covB ws (ws.getD j wz).xs = true) : cutB ws = true := by
  unfold cutB
  rw [hm, Bool.true_and, List.all_eq_true]
  intro x hx
  obtain ⟨i, hi, rfl⟩ := List.mem_iff_getElem.1 hx
  have := h i (by rw [← hn]; exact hi)
  simpa [List.getD, hi] using this

theorem upto_next {P : Nat → Prop} {k : Nat} (h : ∀ j, j < k → P j) (hk : P k) : ∀ j, j < k + 1 → P j := fun j hj => by
  by_cases e : j < k
  · exact h j e
  · have : j = k := by omega
    rw [this]
    exact hk

end Go.Proofs.YtidpcjcnhklmpacGreatDoor

/- Contracts of impl.allWriteOk, impl.mayBeSeen. -/
namespace Go.Proofs.YtidpcjcnhklmpacGreatDoor
open Go.ChangeShapes Go.WideShapes Go.ChangeAt Go.RowKit Go.Joins
attribute [local go_sem ↓] Go.wp_at_zero Go.wp_at_succ

theorem all_false {vs : List Wr} {k : Nat} (h : k < vs.length) (hk : okW (vs.getD k wz) = false) : vs.all okW = false := by
  rw [List.all_eq_false]
  refine ⟨vs.getD k wz, ?_, by rw [hk]; simp⟩
  have e : vs.getD k wz = vs[k] := by simp [List.getD, h]
  rw [e]
  exact List.getElem_mem h

theorem all_true {vs : List Wr} {n : Nat} (hn : vs.length = n) (h : ∀ j, j < n → okW (vs.getD j wz) = true) : vs.all okW = true := by
  rw [List.all_eq_true]
  intro x hx
  obtain ⟨i, hi, rfl⟩ := List.mem_iff_getElem.1 hx
  have := h i (by rw [← hn]; exact hi)
  simpa [List.getD, hi] using this

set_option maxHeartbeats 2000000 in
theorem allOk_any (a : Option Addr) (n cap : Nat) (ws : List Wr) (w : World) (hn : ws.length = n) (hm : n ≤ 1048576) (hx : Few ws) (hh : IsWs w a ws) :
    Calls Tryz.prog 22 #[.slice a n cap] w fun e w' => e = .returned (.bool (ws.all okW)) ∧ Below w.heap.size w w' := by
  have HH : Hid (IsWs w a ws) := hh
  have HN : Hid (ws.length = n) := hn
  have HX : Hid (Few ws) := hx
  clear hh hn hx
  go_enter Tryz.func22, Tryz.ntmps22
  go_wp2
  go_loopw [7] (fun i wr => ∃ k : Nat, k ≤ n ∧ i = .int .i64 k ∧ Hid (∀ j, j < k → okW (ws.getD j wz) = true) ∧ Hid (Below w.heap.size w wr)) (fun i _ => n - (intOf i).toNat)
  case atStart => exact ⟨0, Nat.zero_le _, rfl, fun j hj => absurd hj (Nat.not_lt_zero j), Below.refl _ _⟩
  case round =>
    obtain ⟨k, hk, rfl, HK, HB⟩ := hrel
    by_cases hk' : k < n
    · obtain ⟨b, o, ad, cp, rfl, hz, ⟨e0, e1, e2, e3, e4, e5, e6⟩, hd⟩ := HH.out.at HB.out HN.out hk'
      have i1 : (0 : Int) ≤ (k : Int) := by omega
      have i2 : (k : Int) < (n : Int) := by omega
      have hkm : k < ws.length := by rw [HN.out]; exact hk'
      have HC : Hid (∀ W, Below wr.heap.size wr W → Calls Tryz.prog 30 #[wrOf (ws.getD k wz) ad cp] W fun e w' => e = .returned (.bool (okW (ws.getD k wz))) ∧ Below W.heap.size W w') := fun W hW =>
        implWriteOk_gen _ _ _ _ _ _ _ (ws.getD k wz).xs _ _ _ rfl (HX.out k hkm) (hd.below hW)
      have HK1 : Hid (okW (ws.getD k wz) = true → ∀ j, j < k + 1 → okW (ws.getD j wz) = true) := fun h1 => upto_next HK.out h1
      have HF1 : Hid (okW (ws.getD k wz) = false → ws.all okW = false) := fun h1 => all_false hkm h1
      clear hd HH HK
      cases h1 : okW (ws.getD k wz)
      · have HF := Lib.hid (HF1.out h1)
        rw [h1] at HC
        clear h1 HK1 HF1
        generalize ws.getD k wz = x at *
        obtain ⟨xk, xc, xs', xq, xv, xd, xx⟩ := x
        simp only at e0 e1 e2 e3 e4 e5 e6 HC
        go_wp2_with fail
        refine (HC.out _ ((Below.refl _ _).alloc (Nat.le_refl _) _)).mono ?_
        rintro e w2 ⟨rfl, hb⟩
        have HB2 : Hid (Below w.heap.size w w2) := below_step HB.out HB.out.size (BoxIn.start hb).below
        clear hb
        go_wp2
        go_ret
        exact ⟨ret_bool HF.out.symm, HB2.out⟩
      · have HK2 := Lib.hid (HK1.out h1)
        rw [h1] at HC
        clear h1 HK1 HF1
        generalize ws.getD k wz = x at *
        obtain ⟨xk, xc, xs', xq, xv, xd, xx⟩ := x
        simp only at e0 e1 e2 e3 e4 e5 e6 HC
        go_wp2_with fail
        refine (HC.out _ ((Below.refl _ _).alloc (Nat.le_refl _) _)).mono ?_
        rintro e w2 ⟨rfl, hb⟩
        have HB2 : Hid (Below w.heap.size w w2) := below_step HB.out HB.out.size (BoxIn.start hb).below
        clear hb
        go_wp2
        exact ⟨⟨k + 1, by omega, by go_num, HK2, HB2⟩, by simp [intOf]; omega⟩
    · have hkk : k = n := by omega
      subst hkk
      have HF : Hid (ws.all okW = true) := all_true HN.out HK.out
      go_wp2
      go_ret
      exact ⟨ret_bool HF.out.symm, HB.out⟩

end Go.Proofs.YtidpcjcnhklmpacGreatDoor
