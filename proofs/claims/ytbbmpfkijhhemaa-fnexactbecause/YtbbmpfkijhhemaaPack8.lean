import Derived.Test.YtbbmpfkijhhemaaPack7
import Derived.Test.YtbbmpfkijhhemaaPack3
import Derived.Test.YtbbmpfkijhhemaaPack5
import Derived.Test.YtbbmpfkijhhemaaPack2
/- Maps as lists of writes whose keys rise: what is put, what is joined, what registers tell. No Go in sight. -/
namespace Go.Proofs.Ytbbmpfkijhhemaa

/-- The keys rise. -/
def Rise (ws : List Wr) : Prop := ws.Pairwise fun x y => x.k < y.k

theorem rise_of_next : ∀ {ws : List Wr}, (∀ i, i + 1 < ws.length → (ws.getD i wz).k < (ws.getD (i + 1) wz).k) → Rise ws
  | [], _ => List.Pairwise.nil
  | [x], _ => by simp [Rise]
  | x :: y :: r, h => by
    have ih : Rise (y :: r) := rise_of_next fun i hi => h (i + 1) (by simpa using hi)
    have h0 : x.k < y.k := h 0 (by simp)
    refine List.Pairwise.cons (fun z hz => ?_) ih
    rcases List.mem_cons.1 hz with e | hz
    · rw [e]; exact h0
    · have h1 : y.k < z.k := (List.pairwise_cons.1 ih).1 z hz
      omega

theorem rise_next : ∀ {ws : List Wr}, Rise ws → ∀ i, i + 1 < ws.length → (ws.getD i wz).k < (ws.getD (i + 1) wz).k
  | [], _, i, h => by simp at h
  | x :: r, hr, i, h => by
    have hp := List.pairwise_cons.1 hr
    cases i with
    | zero =>
      cases r with
      | nil => simp at h
      | cons y r => exact hp.1 y (by simp)
    | succ i => exact rise_next (ws := r) hp.2 i (by simpa using h)

theorem mapOk_iff (ws : List Wr) : mapOkB ws = true ↔ (∀ x ∈ ws, okW x = true) ∧ Rise ws := by
  unfold mapOkB
  rw [List.all_eq_true]
  constructor
  · intro h
    have h' : ∀ i, i < ws.length → okW (ws.getD i wz) = true ∧ (i = 0 ∨ (ws.getD (i - 1) wz).k < (ws.getD i wz).k) := fun i hi => by
      have := h i (List.mem_range.2 hi)
      unfold wrGood at this
      simpa only [Bool.and_eq_true, decide_eq_true_eq] using this
    refine ⟨fun x hx => ?_, rise_of_next fun i hi => ?_⟩
    · obtain ⟨i, hi, rfl⟩ := List.mem_iff_getElem.1 hx
      have := (h' i hi).1
      simpa [List.getD, hi] using this
    · rcases (h' (i + 1) hi).2 with h0 | h0
      · omega
      · simpa using h0
  · rintro ⟨h1, h2⟩ i hi
    have hi := List.mem_range.1 hi
    unfold wrGood
    simp only [Bool.and_eq_true, decide_eq_true_eq]
    refine ⟨h1 _ (by simp [List.getD, hi]), ?_⟩
    cases i with
    | zero => exact .inl rfl
    | succ i => exact .inr (by simpa using rise_next h2 i hi)

/-- A write put to a map, said by recursion. -/
def putR : List Wr → Wr → List Wr
  | [], x => [x]
  | y :: r, x => if y.k = x.k then (if cmpW y x < 0 then x else y) :: r else if x.k < y.k then x :: y :: r else y :: putR r x

theorem putStep_past (x : Wr) : ∀ (ws acc : List Wr), (∀ y ∈ ws, x.k < y.k) → ws.foldl (putStep x) (acc, true) = (acc ++ ws, true)
  | [], acc, _ => by simp
  | y :: r, acc, h => by
    have hy : x.k < y.k := h y (by simp)
    have e : putStep x (acc, true) y = (acc ++ [y], true) := by
      unfold putStep
      rw [if_neg (by omega), if_neg (by simp)]
    rw [List.foldl_cons, e, putStep_past x r _ fun z hz => h z (by simp [hz])]
    simp

theorem putStep_fold (x : Wr) : ∀ (ws acc : List Wr), Rise ws → (if (ws.foldl (putStep x) (acc, false)).2 then (ws.foldl (putStep x) (acc, false)).1 else (ws.foldl (putStep x) (acc, false)).1 ++ [x]) = acc ++ putR ws x
  | [], acc, _ => by simp [putR]
  | y :: r, acc, h => by
    have hp := List.pairwise_cons.1 h
    rw [List.foldl_cons]
    unfold putR
    by_cases h1 : y.k = x.k
    · have hr : ∀ z ∈ r, x.k < z.k := fun z hz => by have := hp.1 z hz; omega
      by_cases h2 : cmpW y x < 0
      · have e : putStep x (acc, false) y = (acc ++ [x], true) := by simp [putStep, h1, h2]
        rw [e, putStep_past x r _ hr]
        simp [h1, h2]
      · have e : putStep x (acc, false) y = (acc ++ [y], true) := by simp [putStep, h1, h2]
        rw [e, putStep_past x r _ hr]
        simp [h1, h2]
    · by_cases h2 : x.k < y.k
      · have hr : ∀ z ∈ r, x.k < z.k := fun z hz => by have := hp.1 z hz; omega
        have e : putStep x (acc, false) y = (acc ++ [x] ++ [y], true) := by simp [putStep, h1, h2]
        rw [e, putStep_past x r _ hr]
        simp [h1, h2]
      · have e : putStep x (acc, false) y = (acc ++ [y], false) := by simp [putStep, h1, h2]
        rw [e, putStep_fold x r _ hp.2]
        simp [h1, h2]

theorem putW_eq {ws : List Wr} (h : Rise ws) (x : Wr) : putW ws x = putR ws x := by
  have := putStep_fold x ws [] h
  rw [List.nil_append] at this
  exact this

/-- The later one of what is there and what comes. -/
def laterO (o : Option Wr) (x : Wr) : Wr := match o with | none => x | some y => if cmpW y x < 0 then x else y

theorem findW_cons (y : Wr) (r : List Wr) (key : Int) : findW (y :: r) key = if y.k = key then some y else findW r key := by
  unfold findW
  rw [List.find?_cons]
  by_cases h : y.k = key
  · simp [h]
  · rw [beq_eq_false_iff_ne.2 h, if_neg h]

theorem findW_past : ∀ {ws : List Wr} {key : Int}, (∀ y ∈ ws, key < y.k) → findW ws key = none
  | [], _, _ => rfl
  | y :: r, key, h => by
    rw [findW_cons, if_neg (by have := h y (by simp); omega), findW_past fun z hz => h z (by simp [hz])]

theorem later_key {o : Option Wr} {x : Wr} (h : ∀ y, o = some y → y.k = x.k) : (laterO o x).k = x.k := by
  unfold laterO
  split
  · rfl
  · split
    · rfl
    · exact h _ rfl

theorem findW_key {ws : List Wr} {key : Int} {x : Wr} (h : findW ws key = some x) : x.k = key := by
  have := List.find?_some h
  simpa using this

theorem findW_mem {ws : List Wr} {key : Int} {x : Wr} (h : findW ws key = some x) : x ∈ ws := List.mem_of_find?_eq_some h

theorem find_putR : ∀ (ws : List Wr) (x : Wr) (key : Int), Rise ws → findW (putR ws x) key = if key = x.k then some (laterO (findW ws x.k) x) else findW ws key
  | [], x, key, _ => by
    simp only [putR, findW_cons]
    by_cases h : x.k = key
    · rw [if_pos h, if_pos h.symm]
      rfl
    · rw [if_neg h, if_neg (fun e => h e.symm)]
  | y :: r, x, key, h => by
    have hp := List.pairwise_cons.1 h
    unfold putR
    by_cases h1 : y.k = x.k
    · rw [if_pos h1, findW_cons, findW_cons y r x.k, if_pos h1, findW_cons y r key]
      by_cases h2 : cmpW y x < 0
      · simp only [h2, if_true, laterO, h1, eq_comm]
        by_cases h3 : key = x.k <;> simp [h3]
      · simp only [h2, if_false, laterO, h1, eq_comm]
        by_cases h3 : key = x.k <;> simp [h3]
    · rw [if_neg h1]
      by_cases h2 : x.k < y.k
      · rw [if_pos h2, findW_cons]
        have hn : findW (y :: r) x.k = none := findW_past fun z hz => by
          rcases List.mem_cons.1 hz with e | hz
          · rw [e]; exact h2
          · have := hp.1 z hz; omega
        rw [hn]
        by_cases h3 : x.k = key
        · rw [if_pos h3, if_pos h3.symm]
          rfl
        · rw [if_neg h3, if_neg (fun e => h3 e.symm)]
      · rw [if_neg h2, findW_cons, find_putR r x key hp.2, findW_cons, if_neg h1, findW_cons]
        by_cases h3 : y.k = key
        · rw [if_pos h3, if_neg (by omega), if_pos h3]
        · rw [if_neg h3, if_neg h3]

theorem putR_mem : ∀ (ws : List Wr) (x z : Wr), z ∈ putR ws x → z = x ∨ z ∈ ws
  | [], x, z, h => by simpa [putR] using h
  | y :: r, x, z, h => by
    unfold putR at h
    by_cases h1 : y.k = x.k
    · rw [if_pos h1] at h
      by_cases h2 : cmpW y x < 0
      · rw [if_pos h2] at h
        rcases List.mem_cons.1 h with h | h
        · exact .inl h
        · exact .inr (by simp [h])
      · rw [if_neg h2] at h
        exact .inr h
    · rw [if_neg h1] at h
      by_cases h2 : x.k < y.k
      · rw [if_pos h2] at h
        rcases List.mem_cons.1 h with h | h
        · exact .inl h
        · exact .inr h
      · rw [if_neg h2] at h
        rcases List.mem_cons.1 h with h | h
        · exact .inr (by simp [h])
        · rcases putR_mem r x z h with h | h
          · exact .inl h
          · exact .inr (by simp [h])

theorem rise_putR : ∀ (ws : List Wr) (x : Wr), Rise ws → Rise (putR ws x)
  | [], x, _ => by simp [putR, Rise]
  | y :: r, x, h => by
    have hp := List.pairwise_cons.1 h
    unfold putR
    by_cases h1 : y.k = x.k
    · rw [if_pos h1]
      by_cases h2 : cmpW y x < 0
      · rw [if_pos h2]
        exact List.Pairwise.cons (fun z hz => by have := hp.1 z hz; omega) hp.2
      · rw [if_neg h2]
        exact h
    · rw [if_neg h1]
      by_cases h2 : x.k < y.k
      · rw [if_pos h2]
        refine List.Pairwise.cons (fun z hz => ?_) h
        rcases List.mem_cons.1 hz with e | hz
        · rw [e]; exact h2
        · have := hp.1 z hz; omega
      · rw [if_neg h2]
        refine List.Pairwise.cons (fun z hz => ?_) (rise_putR r x hp.2)
        rcases putR_mem r x z hz with e | hz
        · rw [e]; omega
        · exact hp.1 z hz

theorem rise_putW {ws : List Wr} (h : Rise ws) (x : Wr) : Rise (putW ws x) := by
  rw [putW_eq h]
  exact rise_putR ws x h

theorem putW_mem {ws : List Wr} (h : Rise ws) {x z : Wr} (hz : z ∈ putW ws x) : z = x ∨ z ∈ ws := by
  rw [putW_eq h] at hz
  exact putR_mem ws x z hz

theorem find_putW {ws : List Wr} (h : Rise ws) (x : Wr) (key : Int) : findW (putW ws x) key = if key = x.k then some (laterO (findW ws x.k) x) else findW ws key := by
  rw [putW_eq h]
  exact find_putR ws x key h

/-- What is told of six registers, in order. -/
def toldM (M : Int → Option Wr) : List Wr := [(0 : Int), 1, 2, 3, 4, 5].filterMap M

theorem filterMap_same {α β : Type} {f g : α → Option β} : ∀ {l : List α}, (∀ x ∈ l, f x = g x) → l.filterMap f = l.filterMap g
  | [], _ => rfl
  | x :: r, h => by rw [List.filterMap_cons, List.filterMap_cons, h x (by simp), filterMap_same fun y hy => h y (by simp [hy])]

theorem told_rise : ∀ (ks : List Int) (ws : List Wr), ks.Pairwise (· < ·) → Rise ws → (∀ x ∈ ws, x.k ∈ ks) → ks.filterMap (findW ws) = ws
  | [], [], _, _, _ => rfl
  | [], x :: r, _, _, h => by simpa using h x (by simp)
  | k :: ks, [], _, _, _ => by simp [findW, List.filterMap_eq_nil_iff]
  | k :: ks, x :: r, hk, hr, h => by
    have hpk := List.pairwise_cons.1 hk
    have hpr := List.pairwise_cons.1 hr
    by_cases e : x.k = k
    · rw [List.filterMap_cons, findW_cons, if_pos e]
      simp only
      have ih := told_rise ks r hpk.2 hpr.2 fun y hy => by
        have h1 := h y (by simp [hy])
        rcases List.mem_cons.1 h1 with h2 | h2
        · have := hpr.1 y hy; omega
        · exact h2
      congr 1
      refine (filterMap_same fun j hj => ?_).trans ih
      rw [findW_cons, if_neg (by have := hpk.1 j hj; omega)]
    · have hx : k < x.k := by
        have h1 := h x (by simp)
        rcases List.mem_cons.1 h1 with h2 | h2
        · exact absurd h2 e
        · exact hpk.1 _ h2
      have hn : findW (x :: r) k = none := findW_past fun z hz => by
        rcases List.mem_cons.1 hz with e | hz
        · rw [e]; exact hx
        · have := hpr.1 z hz; omega
      rw [List.filterMap_cons, hn]
      simp only
      refine told_rise ks (x :: r) hpk.2 hr fun y hy => ?_
      have h1 := h y hy
      rcases List.mem_cons.1 h1 with h2 | h2
      · rcases List.mem_cons.1 hy with e' | hy
        · rw [e'] at h2; exact absurd h2 e
        · have := hpr.1 y hy; omega
      · exact h2

theorem told_find {ws : List Wr} (hr : Rise ws) (hk : ∀ x ∈ ws, 0 ≤ x.k ∧ x.k ≤ 5) : toldM (findW ws) = ws := by
  refine told_rise _ ws (by decide) hr fun x hx => ?_
  have := hk x hx
  simp only [List.mem_cons, List.not_mem_nil, or_false]
  omega

/-- A write put to a register. -/
def regPut (M : Int → Option Wr) (x : Wr) : Int → Option Wr := fun key => if key = x.k then some (laterO (M x.k) x) else M key

def joinW (a b : List Wr) : List Wr := b.foldl putW a

theorem join_spec : ∀ (b a : List Wr), Rise a → Rise (joinW a b) ∧ (∀ z ∈ joinW a b, z ∈ a ∨ z ∈ b) ∧ ∀ key, findW (joinW a b) key = b.foldl regPut (findW a) key
  | [], a, h => ⟨h, fun _ hz => .inl hz, fun _ => rfl⟩
  | x :: b, a, h => by
    obtain ⟨h1, h2, h3⟩ := join_spec b (putW a x) (rise_putW h x)
    refine ⟨h1, fun z hz => ?_, fun key => ?_⟩
    · rcases h2 z hz with h4 | h4
      · rcases putW_mem h h4 with h5 | h5
        · exact .inr (by simp [h5])
        · exact .inl h5
      · exact .inr (by simp [h4])
    · have e : findW (putW a x) = regPut (findW a) x := funext fun key => find_putW h x key
      show findW (joinW (putW a x) b) key = _
      rw [h3 key, e]
      rfl

/-- A map's own writes, put one by one to empty registers, are the map. -/
theorem regs_self : ∀ (b a : List Wr), Rise (a ++ b) → b.foldl regPut (findW a) = findW (a ++ b)
  | [], a, _ => by simp
  | x :: b, a, h => by
    have h' : Rise (a ++ [x] ++ b) := by simpa using h
    have ha : ∀ y ∈ a, y.k < x.k := fun y hy => (List.pairwise_append.1 h).2.2 y hy x (by simp)
    have e : regPut (findW a) x = findW (a ++ [x]) := by
      funext key
      unfold regPut
      have hx : findW a x.k = none := by
        unfold findW
        rw [List.find?_eq_none]
        intro y hy
        have := ha y hy
        simp
        omega
      have hs : findW (a ++ [x]) key = (findW a key).or (findW [x] key) := by
        unfold findW
        rw [List.find?_append]
      rw [hs]
      by_cases hk : key = x.k
      · subst hk
        rw [if_pos rfl, hx, findW_cons, if_pos rfl]
        rfl
      · rw [if_neg hk, findW_cons, if_neg (fun e => hk e.symm)]
        cases findW a key <;> rfl
    show b.foldl regPut (regPut (findW a) x) = _
    rw [e, regs_self b (a ++ [x]) h']
    simp

theorem regs_map {a : List Wr} (h : Rise a) : a.foldl regPut (fun _ => none) = findW a := by
  have e : findW [] = fun _ => none := rfl
  have := regs_self a [] (by simpa using h)
  rw [e, List.nil_append] at this
  exact this

/-- What the registers tell at last is the join. -/
theorem told_join {a b : List Wr} (ha : Rise a) (ka : ∀ x ∈ a, 0 ≤ x.k ∧ x.k ≤ 5) (kb : ∀ x ∈ b, 0 ≤ x.k ∧ x.k ≤ 5) : toldM (b.foldl regPut (a.foldl regPut (fun _ => none))) = joinW a b := by
  obtain ⟨h1, h2, h3⟩ := join_spec b a ha
  have e : b.foldl regPut (a.foldl regPut (fun _ => none)) = findW (joinW a b) := by
    rw [regs_map ha]
    exact funext fun key => (h3 key).symm
  rw [e]
  exact told_find h1 fun x hx => by
    rcases h2 x hx with h | h
    · exact ka x h
    · exact kb x h

end Go.Proofs.Ytbbmpfkijhhemaa

/- What fits together, with no program in sight: the rounds end at the greatest that fits. -/
namespace Go.Proofs.Ytbbmpfkijhhemaa
open Go.ChangeShapes Go.WideShapes Go.ChangeAt Go.RowKit Go.Joins

theorem tcmp_ge_trans {c s q c' s' q' c2 s2 q2 : Int} (h : 0 ≤ tcmp c s q c' s' q') (h' : 0 ≤ tcmp c' s' q' c2 s2 q2) : 0 ≤ tcmp c s q c2 s2 q2 := by
  have t := tcmp_three c2 s2 q2 c' s' q' c s q
  rw [tcmp_neg c' s' q' c2 s2 q2, tcmp_neg c s q c' s' q', tcmp_neg c s q c2 s2 q2] at t
  rcases t.on (by omega) (by omega) with h1 | h1 <;> omega

theorem cmpW_neg_t {x y : Wr} (h : cmpW y x < 0) : 0 ≤ tcmp x.c x.s x.q y.c y.s y.q := by
  rw [tcmp_neg y.c y.s y.q x.c x.s x.q]
  unfold cmpW wcmp at h
  by_cases ht : tcmp y.c y.s y.q x.c x.s x.q = 0
  · omega
  · rw [if_pos ht] at h
    omega

theorem cmpW_ge_t {x y : Wr} (h : ¬ cmpW y x < 0) : 0 ≤ tcmp y.c y.s y.q x.c x.s x.q := by
  unfold cmpW wcmp at h
  by_cases ht : tcmp y.c y.s y.q x.c x.s x.q = 0
  · omega
  · rw [if_pos ht] at h
    omega

theorem has_put {ws : List Wr} (h : Rise ws) (x : Wr) (key c s q : Int) : hasB (putW ws x) key c s q = true ↔ hasB ws key c s q = true ∨ (x.k = key ∧ 0 ≤ tcmp x.c x.s x.q c s q) := by
  unfold hasB
  rw [find_putW h]
  by_cases hk : key = x.k
  · subst hk
    rw [if_pos rfl]
    cases hf : findW ws x.k with
    | none =>
      show decide (0 ≤ tcmp x.c x.s x.q c s q) = true ↔ false = true ∨ (x.k = x.k ∧ 0 ≤ tcmp x.c x.s x.q c s q)
      rw [decide_eq_true_eq]
      exact ⟨fun h => .inr ⟨rfl, h⟩, fun h => by
        rcases h with h | h
        · simp at h
        · exact h.2⟩
    | some y =>
      by_cases hc : cmpW y x < 0
      · have e : laterO (some y) x = x := by
          unfold laterO
          exact if_pos hc
        rw [e]
        show decide (0 ≤ tcmp x.c x.s x.q c s q) = true ↔ decide (0 ≤ tcmp y.c y.s y.q c s q) = true ∨ (x.k = x.k ∧ 0 ≤ tcmp x.c x.s x.q c s q)
        rw [decide_eq_true_eq, decide_eq_true_eq]
        exact ⟨fun h => .inr ⟨rfl, h⟩, fun h => by
          rcases h with h | h
          · exact tcmp_ge_trans (cmpW_neg_t hc) h
          · exact h.2⟩
      · have e : laterO (some y) x = y := by
          unfold laterO
          exact if_neg hc
        rw [e]
        show decide (0 ≤ tcmp y.c y.s y.q c s q) = true ↔ decide (0 ≤ tcmp y.c y.s y.q c s q) = true ∨ (x.k = x.k ∧ 0 ≤ tcmp x.c x.s x.q c s q)
        rw [decide_eq_true_eq]
        exact ⟨.inl, fun h => by
          rcases h with h | h
          · exact h
          · exact tcmp_ge_trans (cmpW_ge_t hc) h.2⟩
  · rw [if_neg hk]
    constructor
    · exact .inl
    · rintro (h1 | h1)
      · exact h1
      · exact absurd h1.1.symm hk

theorem rise_allTo {us : List Wr} (vs : List Wr) (st : Nat → Bool) (h : Rise us) : ∀ k, Rise (allTo us vs st k)
  | 0 => h
  | k + 1 => by
    cases hb : st k
    · rw [allTo_no hb]
      exact rise_allTo vs st h k
    · rw [allTo_yes hb]
      exact rise_putW (rise_allTo vs st h k) _

theorem has_allTo {us : List Wr} (vs : List Wr) (st : Nat → Bool) (h : Rise us) (key c s q : Int) : ∀ k, hasB (allTo us vs st k) key c s q = true ↔ hasB us key c s q = true ∨ ∃ j, j < k ∧ st j = true ∧ (vs.getD j wz).k = key ∧ 0 ≤ tcmp (vs.getD j wz).c (vs.getD j wz).s (vs.getD j wz).q c s q
  | 0 => by
    constructor
    · exact .inl
    · rintro (h1 | ⟨j, hj, _⟩)
      · exact h1
      · omega
  | k + 1 => by
    have ih := has_allTo vs st h key c s q k
    cases hb : st k
    · rw [allTo_no hb, ih]
      constructor
      · rintro (h1 | ⟨j, hj, h2⟩)
        · exact .inl h1
        · exact .inr ⟨j, by omega, h2⟩
      · rintro (h1 | ⟨j, hj, h2, h3⟩)
        · exact .inl h1
        · refine .inr ⟨j, ?_, h2, h3⟩
          have : j ≠ k := fun e => by rw [e, hb] at h2; simp at h2
          omega
    · rw [allTo_yes hb, has_put (rise_allTo vs st h k), ih]
      constructor
      · rintro ((h1 | ⟨j, hj, h2⟩) | h1)
        · exact .inl h1
        · exact .inr ⟨j, by omega, h2⟩
        · exact .inr ⟨k, by omega, hb, h1⟩
      · rintro (h1 | ⟨j, hj, h2, h3⟩)
        · exact .inl (.inl h1)
        · by_cases e : j = k
          · rw [e] at h3
            exact .inr h3
          · exact .inl (.inr ⟨j, by omega, h2, h3⟩)

theorem cov_iff (ws : List Wr) (ds : List Dp) : covB ws ds = true ↔ ∀ d ∈ ds, hasB ws d.k d.c d.s d.q = true := by
  unfold covB lacksL
  rw [beq_iff_eq, List.length_eq_zero_iff, List.filter_eq_nil_iff]
  constructor
  · intro h d hd
    have := h d hd
    unfold lacking at this
    simpa using this
  · intro h d hd
    unfold lacking
    rw [h d hd]
    simp

theorem cov_mono {us : List Wr} {vs : List Wr} {s t : Nat → Bool} (h : Rise us) (hst : ∀ j, j < vs.length → s j = true → t j = true) {ds : List Dp} (hc : covB (allOf us vs s) ds = true) : covB (allOf us vs t) ds = true := by
  rw [cov_iff] at *
  intro d hd
  have h1 := hc d hd
  unfold allOf at *
  rw [has_allTo vs _ h] at *
  rcases h1 with h1 | ⟨j, hj, h2, h3⟩
  · exact .inl h1
  · exact .inr ⟨j, hj, hst j hj h2, h3⟩

theorem allTo_congr {us vs : List Wr} {s t : Nat → Bool} : ∀ {k}, (∀ j, j < k → s j = t j) → allTo us vs s k = allTo us vs t k
  | 0, _ => rfl
  | k + 1, h => by
    have ih := allTo_congr (us := us) (vs := vs) (k := k) (fun j hj => h j (by omega))
    have hk := h k (by omega)
    cases hb : t k
    · rw [allTo_no hb, allTo_no (hk.trans hb), ih]
    · rw [allTo_yes hb, allTo_yes (hk.trans hb), ih]

theorem next_congr {us vs : List Wr} {s t : Nat → Bool} (h : ∀ j, j < vs.length → s j = t j) {j : Nat} (hj : j < vs.length) : nextS us vs s j = nextS us vs t j := by
  unfold nextS allOf
  rw [h j hj, allTo_congr h]

/-- Who fits. -/
def fixS (us vs : List Wr) : Nat → Bool := stayAt us vs vs.length

def Fixed (us vs : List Wr) (st : Nat → Bool) : Prop := ∀ j, j < vs.length → nextS us vs st j = st j

theorem fixed_on {us vs : List Wr} {r : Nat} (h : Fixed us vs (stayAt us vs r)) : ∀ s, ∀ j, j < vs.length → stayAt us vs (r + s) j = stayAt us vs r j
  | 0, j, _ => rfl
  | s + 1, j, hj => by
    show nextS us vs (stayAt us vs (r + s)) j = _
    rw [next_congr (fixed_on h s) hj]
    exact h j hj

theorem stay_rounds (us vs : List Wr) : ∀ r, (∃ s, s ≤ r ∧ Fixed us vs (stayAt us vs s)) ∨ cnt (stayAt us vs r) vs.length + r ≤ vs.length
  | 0 => by
    right
    have h : ∀ (st : Nat → Bool) m, cnt st m ≤ m := by
      intro st m
      induction m with
      | zero => exact Nat.le_refl _
      | succ m ih =>
        unfold cnt
        cases st m <;> simp <;> omega
    have := h (stayAt us vs 0) vs.length
    omega
  | r + 1 => by
    rcases stay_rounds us vs r with ⟨s, hs, hf⟩ | h
    · exact .inl ⟨s, by omega, hf⟩
    · by_cases hf : Fixed us vs (stayAt us vs r)
      · exact .inl ⟨r, by omega, hf⟩
      · right
        unfold Fixed at hf
        simp only [Classical.not_forall] at hf
        obtain ⟨j, hj, hne⟩ := hf
        have hlt : cnt (nextS us vs (stayAt us vs r)) vs.length < cnt (stayAt us vs r) vs.length := by
          refine cnt_lt (fun j _ h => next_le h) ⟨j, hj, ?_⟩
          cases h1 : stayAt us vs r j <;> cases h2 : nextS us vs (stayAt us vs r) j
          · rw [h1, h2] at hne; exact absurd rfl hne
          · have := next_le h2; rw [h1] at this; simp at this
          · exact ⟨rfl, rfl⟩
          · rw [h1, h2] at hne; exact absurd rfl hne
        show cnt (nextS us vs (stayAt us vs r)) vs.length + (r + 1) ≤ vs.length
        omega

theorem cnt_zero {s : Nat → Bool} : ∀ {m}, cnt s m = 0 → ∀ j, j < m → s j = false
  | 0, _, j, hj => by omega
  | m + 1, h, j, hj => by
    unfold cnt at h
    by_cases e : j = m
    · rw [e]
      cases hb : s m
      · rfl
      · rw [hb] at h; simp at h
    · exact cnt_zero (m := m) (by omega) j (by omega)

theorem fix_fixed (us vs : List Wr) : Fixed us vs (fixS us vs) := by
  rcases stay_rounds us vs vs.length with ⟨s, hs, hf⟩ | h
  · have h1 := fixed_on hf (vs.length - s)
    rw [show s + (vs.length - s) = vs.length by omega] at h1
    intro j hj
    unfold fixS
    rw [next_congr h1 hj, hf j hj, h1 j hj]
  · have h0 := cnt_zero (m := vs.length) (s := stayAt us vs vs.length) (by omega)
    intro j hj
    have h1 := h0 j hj
    unfold fixS
    rw [h1]
    cases h2 : nextS us vs (stayAt us vs vs.length) j
    · rfl
    · have := next_le h2
      rw [h1] at this
      simp at this

theorem stay_is_fix {us vs : List Wr} {r : Nat} (h : Fixed us vs (stayAt us vs r)) : ∀ j, j < vs.length → stayAt us vs r j = fixS us vs j := by
  intro j hj
  by_cases hr : r ≤ vs.length
  · have h1 := fixed_on h (vs.length - r) j hj
    rw [show r + (vs.length - r) = vs.length by omega] at h1
    exact h1.symm
  · have h1 := fixed_on (fix_fixed us vs) (r - vs.length) j hj
    rw [show vs.length + (r - vs.length) = r by omega] at h1
    exact h1

theorem fix_great {us vs : List Wr} (h : Rise us) {T : Nat → Bool} (hT : ∀ j, j < vs.length → T j = true → covB (allOf us vs T) (vs.getD j wz).xs = true) : ∀ r, ∀ j, j < vs.length → T j = true → stayAt us vs r j = true
  | 0, j, _, _ => rfl
  | r + 1, j, hj, h1 => by
    show nextS us vs (stayAt us vs r) j = true
    unfold nextS
    rw [fix_great h hT r j hj h1, Bool.true_and]
    exact cov_mono h (fun i hi h2 => fix_great h hT r i hi h2) (hT j hj h1)

/-- What strikes out only what is not covered strikes out nothing that fits. -/
theorem fix_kept {us vs : List Wr} (h : Rise us) {S : Nat → Bool} (hS : ∀ j, j < vs.length → fixS us vs j = true → S j = true) {p : Nat} (hp : p < vs.length) (hc : covB (allOf us vs S) (vs.getD p wz).xs = false) : fixS us vs p = false := by
  cases hb : fixS us vs p
  · rfl
  · have h1 := fix_fixed us vs p hp
    rw [hb] at h1
    unfold nextS at h1
    rw [Bool.and_eq_true] at h1
    have h2 := cov_mono h hS h1.2
    rw [hc] at h2
    simp at h2

/-- What keeps all that fits, and is covered by itself, is what fits. -/
theorem fix_is {us vs : List Wr} (h : Rise us) {S : Nat → Bool} (hS : ∀ j, j < vs.length → fixS us vs j = true → S j = true) (hc : ∀ j, j < vs.length → S j = true → covB (allOf us vs S) (vs.getD j wz).xs = true) : ∀ j, j < vs.length → S j = fixS us vs j := by
  intro j hj
  cases hb : S j
  · cases hf : fixS us vs j
    · rfl
    · rw [hS j hj hf] at hb
      simp at hb
  · exact (fix_great h hc vs.length j hj hb).symm

/-- Those of the first k that are marked so. -/
def thoseTo (vs : List Wr) (st : Nat → Bool) (fit : Bool) : Nat → List Wr
  | 0 => []
  | k + 1 => if st k = fit then thoseTo vs st fit k ++ [vs.getD k wz] else thoseTo vs st fit k

theorem those_congr {vs : List Wr} {s t : Nat → Bool} {fit : Bool} : ∀ {k}, (∀ j, j < k → s j = t j) → thoseTo vs s fit k = thoseTo vs t fit k
  | 0, _ => rfl
  | k + 1, h => by
    unfold thoseTo
    rw [h k (by omega), those_congr (k := k) (fun j hj => h j (by omega))]

theorem those_len (vs : List Wr) (st : Nat → Bool) (fit : Bool) : ∀ k, (thoseTo vs st fit k).length ≤ k
  | 0 => Nat.le_refl _
  | k + 1 => by
    have := those_len vs st fit k
    unfold thoseTo
    split
    · simp
      omega
    · omega

theorem allTo_join (us vs : List Wr) (st : Nat → Bool) : ∀ k, allTo us vs st k = joinW us (thoseTo vs st true k)
  | 0 => rfl
  | k + 1 => by
    have ih := allTo_join us vs st k
    unfold thoseTo
    cases hb : st k
    · rw [allTo_no hb, ih, if_neg (by simp)]
    · rw [allTo_yes hb, ih, if_pos rfl]
      unfold joinW
      rw [List.foldl_append]
      rfl

/-- What fits, what is held. -/
def fitL (us vs : List Wr) (fit : Bool) : List Wr := match rightB us vs with
  | true => thoseTo vs (fixS us vs) fit vs.length
  | false => []

end Go.Proofs.Ytbbmpfkijhhemaa

/- What the latest writes of each key cover, with no program in sight: striking out the latest of a key while it lacks something ends at what fits. -/
namespace Go.Proofs.Ytbbmpfkijhhemaa
open Go.ChangeShapes Go.WideShapes Go.ChangeAt Go.RowKit Go.Joins

def wrd (x : Wr) : Int := x.c * 4096 + x.s * 1024 + x.q

def wrdD (d : Dp) : Int := d.c * 4096 + d.s * 1024 + d.q

def headW : List Wr → Int
  | [] => 0
  | x :: _ => wrd x

/-- What the cover c has. -/
def chas (c : Nat → Int) (ds : List Dp) : Bool := ds.all fun d => decide (wrdD d ≤ c d.k.toNat)

def tops (L : Nat → List Wr) (k : Nat) : Int := headW (L k)

def strip (x : Wr) : Wr := ⟨x.k, x.c, x.s, x.q, 0, false, []⟩

theorem okW_parts {x : Wr} (h : okW x = true) : (0 ≤ x.k ∧ x.k ≤ 5) ∧ tagOkB x.c x.s x.q = true ∧ depsOkB x.xs = true := by
  have hk := okW_key h
  unfold okW writeOkB at h
  simp only [Bool.and_eq_true] at h
  exact ⟨hk, h.2.1, h.2.2.2.1⟩

theorem depsOk_each {xs : List Dp} (h : depsOkB xs = true) {d : Dp} (hd : d ∈ xs) : (0 ≤ d.k ∧ d.k ≤ 5) ∧ tagOkB d.c d.s d.q = true := by
  unfold depsOkB at h
  rw [List.all_eq_true] at h
  obtain ⟨i, hi, rfl⟩ := List.mem_iff_getElem.1 hd
  have h1 := h i (List.mem_range.2 hi)
  have e : xs.getD i dz = xs[i] := by simp [List.getD, hi]
  unfold depGood at h1
  rw [e] at h1
  simp only [Bool.and_eq_true, btw, decide_eq_true_eq] at h1
  exact ⟨by omega, by simp_all⟩

theorem chas_iff (c : Nat → Int) (ds : List Dp) : chas c ds = true ↔ ∀ d ∈ ds, wrdD d ≤ c d.k.toNat := by
  unfold chas
  rw [List.all_eq_true]
  exact ⟨fun h d hd => by simpa using h d hd, fun h d hd => by simpa using h d hd⟩

theorem findW_mem_rise : ∀ {ws : List Wr}, Rise ws → ∀ {u : Wr}, u ∈ ws → findW ws u.k = some u
  | [], _, _, h => by simp at h
  | x :: r, hr, u, h => by
    rw [findW_cons]
    have hr' := List.pairwise_cons.1 hr
    rcases List.mem_cons.1 h with rfl | h
    · rw [if_pos rfl]
    · have := hr'.1 u h
      rw [if_neg (by omega)]
      exact findW_mem_rise hr'.2 h

theorem has_of_mem {us : List Wr} (hr : Rise us) {u : Wr} (hu : u ∈ us) {c s q : Int} (h : 0 ≤ tcmp u.c u.s u.q c s q) : hasB us u.k c s q = true := by
  unfold hasB
  rw [findW_mem_rise hr hu]
  simpa using h

theorem mem_of_has {us : List Wr} {key c s q : Int} (h : hasB us key c s q = true) : ∃ u ∈ us, u.k = key ∧ 0 ≤ tcmp u.c u.s u.q c s q := by
  unfold hasB at h
  cases hf : findW us key with
  | none => rw [hf] at h; cases h
  | some u =>
    rw [hf] at h
    exact ⟨u, findW_mem hf, findW_key hf, by simpa using h⟩

/-- Of each key some of the writes that came, the latest first: all that m has, and all that fits. -/
structure Rows6 (us vs : List Wr) (L : Nat → List Wr) : Prop where
  src : ∀ k x, x ∈ L k → x.k = (k : Int) ∧ tagOkB x.c x.s x.q = true ∧ ((x.xs = [] ∧ ∃ u ∈ us, u.k = x.k ∧ u.c = x.c ∧ u.s = x.s ∧ u.q = x.q) ∨ x ∈ vs)
  olds : ∀ u ∈ us, ∃ x ∈ L u.k.toNat, x.xs = [] ∧ x.c = u.c ∧ x.s = u.s ∧ x.q = u.q
  news : ∀ j, j < vs.length → fixS us vs j = true → vs.getD j wz ∈ L (vs.getD j wz).k.toNat
  down : ∀ k, (L k).Pairwise fun x y => wrd y ≤ wrd x

theorem getV_mem {vs : List Wr} {j : Nat} (h : j < vs.length) : vs.getD j wz ∈ vs := by
  have e : vs.getD j wz = vs[j] := by simp [List.getD, h]
  rw [e]
  exact List.getElem_mem h

theorem Rows6.top {us vs : List Wr} {L : Nat → List Wr} (h : Rows6 us vs L) {k : Nat} {x : Wr} (hx : x ∈ L k) : wrd x ≤ tops L k := by
  unfold tops
  have hd := h.down k
  cases hl : L k with
  | nil => rw [hl] at hx; simp at hx
  | cons y r =>
    rw [hl] at hx hd
    show wrd x ≤ wrd y
    rcases List.mem_cons.1 hx with rfl | hx
    · exact Int.le_refl _
    · exact (List.pairwise_cons.1 hd).1 x hx

theorem word_le {x : Wr} {d : Dp} (hx : tagOkB x.c x.s x.q = true) (hd : tagOkB d.c d.s d.q = true) : wrdD d ≤ wrd x ↔ 0 ≤ tcmp x.c x.s x.q d.c d.s d.q := word_order hx hd

/-- What all that fits covers is covered by the tops. -/
theorem Rows6.up {us vs : List Wr} {L : Nat → List Wr} (hr : Rise us) (hu : ∀ x ∈ us, okW x = true) (hv : ∀ x ∈ vs, okW x = true) (h : Rows6 us vs L) {d : Dp} (hd : tagOkB d.c d.s d.q = true) (hc : hasB (allOf us vs (fixS us vs)) d.k d.c d.s d.q = true) : wrdD d ≤ tops L d.k.toNat := by
  unfold allOf at hc
  rw [has_allTo vs _ hr] at hc
  rcases hc with hc | ⟨j, hj, h1, h2, h3⟩
  · obtain ⟨u, hm, hk, ht⟩ := mem_of_has hc
    obtain ⟨x, hx, -, e1, e2, e3⟩ := h.olds u hm
    have hok := (okW_parts (hu u hm)).2.1
    rw [← hk]
    refine Int.le_trans ?_ (h.top hx)
    refine (word_le ?_ hd).2 ?_
    · rw [e1, e2, e3]; exact hok
    · rw [e1, e2, e3]; exact ht
  · have hm := h.news j hj h1
    have hok := (okW_parts (hv _ (getV_mem hj))).2.1
    rw [h2] at hm
    exact Int.le_trans ((word_le hok hd).2 h3) (h.top hm)

theorem Rows6.fits {us vs : List Wr} {L : Nat → List Wr} (hr : Rise us) (hu : ∀ x ∈ us, okW x = true) (hv : ∀ x ∈ vs, okW x = true) (h : Rows6 us vs L) {j : Nat} (hj : j < vs.length) (hf : fixS us vs j = true) : chas (tops L) (vs.getD j wz).xs = true := by
  rw [chas_iff]
  intro d hd
  have h1 := fix_fixed us vs j hj
  rw [hf] at h1
  unfold nextS at h1
  rw [Bool.and_eq_true] at h1
  exact h.up hr hu hv (depsOk_each (okW_parts (hv _ (getV_mem hj))).2.2 hd).2 ((cov_iff _ _).1 h1.2 d hd)

/-- The latest of a key, which lacks something, goes. -/
theorem Rows6.step {us vs : List Wr} {L : Nat → List Wr} (hr : Rise us) (hu : ∀ x ∈ us, okW x = true) (hv : ∀ x ∈ vs, okW x = true) (h : Rows6 us vs L) {k : Nat} {x : Wr} {t : List Wr} (hk : L k = x :: t) (hc : chas (tops L) x.xs = false) : Rows6 us vs (fun i => if i = k then t else L i) where
  src i y hy := by
    by_cases e : i = k
    · subst e
      simp only [if_true] at hy
      exact h.src i y (by rw [hk]; exact List.mem_cons_of_mem _ hy)
    · simp only [if_neg e] at hy
      exact h.src i y hy
  olds u hm := by
    obtain ⟨y, hy, e0, e1⟩ := h.olds u hm
    refine ⟨y, ?_, e0, e1⟩
    by_cases e : u.k.toNat = k
    · simp only [if_pos e]
      rw [e, hk] at hy
      rcases List.mem_cons.1 hy with rfl | hy
      · rw [e0] at hc
        simp [chas] at hc
      · exact hy
    · simp only [if_neg e]
      exact hy
  news j hj hf := by
    have hm := h.news j hj hf
    have hh := h.fits hr hu hv hj hf
    by_cases e : (vs.getD j wz).k.toNat = k
    · simp only [if_pos e]
      rw [e, hk] at hm
      rcases List.mem_cons.1 hm with hm | hm
      · rw [hm, hc] at hh
        cases hh
      · exact hm
    · simp only [if_neg e]
      exact hm
  down i := by
    by_cases e : i = k
    · subst e
      simp only [if_true]
      have := h.down i
      rw [hk] at this
      exact (List.pairwise_cons.1 this).2
    · simp only [if_neg e]
      exact h.down i

/-- Where no latest lacks anything, what the tops cover is what fits. -/
theorem Rows6.done {us vs : List Wr} {L : Nat → List Wr} (hr : Rise us) (hu : ∀ x ∈ us, okW x = true) (hv : ∀ x ∈ vs, okW x = true) (h : Rows6 us vs L) (hE : ∀ k x t, k < 6 → L k = x :: t → chas (tops L) x.xs = true) : ∀ j, j < vs.length → chas (tops L) (vs.getD j wz).xs = fixS us vs j := by
  intro j hj
  cases hf : fixS us vs j
  · cases hc : chas (tops L) (vs.getD j wz).xs
    · rfl
    · have hT := fix_great (us := us) (vs := vs) hr (T := fun i => chas (tops L) (vs.getD i wz).xs) (fun i hi hci => by
        rw [cov_iff]
        intro d hd
        have hdk := depsOk_each (okW_parts (hv _ (getV_mem hi))).2.2 hd
        have hle := (chas_iff _ _).1 hci d hd
        have hb := tagOk_bounds hdk.2
        have hkk : ((d.k.toNat : Nat) : Int) = d.k := by omega
        unfold allOf
        rw [has_allTo vs _ hr]
        cases hl : L d.k.toNat with
        | nil =>
          unfold tops at hle
          rw [hl] at hle
          have h0 : wrdD d ≤ 0 := hle
          unfold wrdD at h0
          omega
        | cons y r =>
          have hy : y ∈ L d.k.toNat := by rw [hl]; exact List.mem_cons_self
          obtain ⟨e1, e2, e3⟩ := h.src _ y hy
          have hle2 : wrdD d ≤ wrd y := by
            unfold tops at hle
            rw [hl] at hle
            exact hle
          have ht := (word_le e2 hdk.2).1 hle2
          rcases e3 with ⟨-, u, hm, k1, k2, k3, k4⟩ | hm
          · refine .inl ?_
            have := has_of_mem hr hm (c := d.c) (s := d.s) (q := d.q) (by rw [k2, k3, k4]; exact ht)
            rw [k1, e1, hkk] at this
            exact this
          · obtain ⟨p, hp, rfl⟩ := List.mem_iff_getElem.1 hm
            have eg : vs.getD p wz = vs[p] := by simp [List.getD, hp]
            refine .inr ⟨p, hp, ?_, ?_, ?_⟩
            · simp only [eg]
              exact hE _ _ _ (by omega) hl
            · rw [eg, e1, hkk]
            · rw [eg]; exact ht) vs.length j hj hc
      unfold fixS at hf
      rw [hT] at hf
      cases hf
  · exact h.fits hr hu hv hj hf

/-- The rows at the start, ahead of their sorting. -/
def startL (us vs : List Wr) (k : Nat) : List Wr := (us.filter fun x => x.k == (k : Int)).map strip ++ vs.filter fun x => x.k == (k : Int)

theorem rows6_start {us vs : List Wr} {L : Nat → List Wr} (hu : ∀ x ∈ us, okW x = true) (hv : ∀ x ∈ vs, okW x = true) (hp : ∀ k, k < 6 → (L k).Perm (startL us vs k)) (h6 : ∀ k, 6 ≤ k → L k = []) (hs : ∀ k, (L k).Pairwise fun x y => wrd y ≤ wrd x) : Rows6 us vs L where
  src k x hx := by
    by_cases h : k < 6
    · have hm := (hp k h).mem_iff.1 hx
      unfold startL at hm
      rcases List.mem_append.1 hm with hm | hm
      · obtain ⟨u, h1, rfl⟩ := List.mem_map.1 hm
        rw [List.mem_filter] at h1
        have hk : u.k = (k : Int) := by simpa using h1.2
        exact ⟨hk, (okW_parts (hu u h1.1)).2.1, .inl ⟨rfl, u, h1.1, rfl, rfl, rfl, rfl⟩⟩
      · rw [List.mem_filter] at hm
        have hk : x.k = (k : Int) := by simpa using hm.2
        exact ⟨hk, (okW_parts (hv x hm.1)).2.1, .inr hm.1⟩
    · rw [h6 k (by omega)] at hx
      simp at hx
  olds u hm := by
    have hk := (okW_parts (hu u hm)).1
    refine ⟨strip u, (hp _ (by omega)).mem_iff.2 ?_, rfl, rfl, rfl, rfl⟩
    unfold startL
    refine List.mem_append_left _ (List.mem_map.2 ⟨u, List.mem_filter.2 ⟨hm, ?_⟩, rfl⟩)
    simp
    omega
  news j hj _ := by
    have hm := getV_mem hj
    have hk := (okW_parts (hv _ hm)).1
    refine (hp _ (by omega)).mem_iff.2 ?_
    unfold startL
    refine List.mem_append_right _ (List.mem_filter.2 ⟨hm, ?_⟩)
    simp only [beq_iff_eq]
    omega
  down := hs

end Go.Proofs.Ytbbmpfkijhhemaa

/- Contracts of impl.MapAt and impl.MapHas. -/
namespace Go.Proofs.Ytbbmpfkijhhemaa
open Go.ChangeShapes Go.WideShapes Go.ChangeAt Go.RowKit Go.Joins
attribute [local go_sem ↓] Go.wp_at_zero Go.wp_at_succ

/-- What a look at a map tells: a write of one's own, or nothing. -/
def ToldG (ws : List Wr) (key : Int) (B : Nat) (w' : World) (v : Value) : Prop :=
  (∃ i a g cp, FirstAt ws key i ∧ v = .tuple #[wrOf (ws.getD i wz) a cp, .bool true] ∧ FreshDeps B w' a g (ws.getD i wz).xs) ∨
  (NoneAt ws key ∧ v = .tuple #[wrV 0 0 0 0 0 false none 0 0, .bool false])

theorem fresh_set7 {B : Nat} {w : World} {g : Nat} {xs : List Dp} {a : Option Addr} (h : FreshDeps B w a g xs) {b : Nat} (hne : b < B) (o0 o1 o2 o3 o4 o5 o6 : Nat) (v0 v1 v2 v3 v4 v5 v6 : Value) :
    FreshDeps B (((((((w.setCell ⟨b, o0, none⟩ v0).setCell ⟨b, o1, none⟩ v1).setCell ⟨b, o2, none⟩ v2).setCell ⟨b, o3, none⟩ v3).setCell ⟨b, o4, none⟩ v4).setCell ⟨b, o5, none⟩ v5).setCell ⟨b, o6, none⟩ v6) a g xs := fun hp => by
  obtain ⟨h1, h2, h3⟩ := h hp
  have hn : b ≠ g := by omega
  exact ⟨h1, h2, fresh_set (fresh_set (fresh_set (fresh_set (fresh_set (fresh_set (fresh_set h3 hn _) hn _) hn _) hn _) hn _) hn _) hn _⟩

theorem FreshDeps.mono {B B' : Nat} {w : World} {a : Option Addr} {g : Nat} {xs : List Dp} (h : FreshDeps B w a g xs) (hb : B' ≤ B) : FreshDeps B' w a g xs := fun hp => by
  obtain ⟨h1, h2, h3⟩ := h hp
  exact ⟨h1, Nat.le_trans hb h2, h3⟩

set_option maxHeartbeats 2000000 in
theorem implMapHas_any (a : Option Addr) (n cap : Nat) (key c s q : Int) (ws : List Wr) (w : World) (hn : ws.length = n) (hm : n ≤ 1048576) (hh : IsWs w a ws) :
    Calls Try.prog 57 #[.slice a n cap, .int .i64 key, tagV c s q] w fun e w' => e = .returned (.bool (hasB ws key c s q)) ∧ Below w.heap.size w w' := by
  have HH : Hid (IsWs w a ws) := hh
  have HN : Hid (ws.length = n) := hn
  clear hh hn
  have HB0 : Hid (Below w.heap.size w (w.alloc (.cells #[.int .i64 c, .int .i64 s, .int .i64 q] 34))) := (Below.refl _ _).alloc (Nat.le_refl _) _
  go_enter Try.func57, Try.ntmps57
  go_wp2_with fail
  refine (placeOfKey_any a n cap key ws _ HN.out hm (HH.out.below HB0.out)).mono ?_
  rintro e w1 ⟨r, rfl, hp, hb⟩
  have HB1 : Hid (Below w.heap.size w w1) := below_step HB0.out HB0.out.size hb
  have z0 : w1.cell? ⟨w.heap.size, 0, none⟩ = some (.int .i64 c) := box_cells hb 0 (by simp)
  have z1 : w1.cell? ⟨w.heap.size, 1, none⟩ = some (.int .i64 s) := box_cells hb 1 (by simp)
  have z2 : w1.cell? ⟨w.heap.size, 2, none⟩ = some (.int .i64 q) := box_cells hb 2 (by simp)
  have hz1 : w.heap.size < w1.heap.size := by have := hb.size; simp at this; omega
  clear hb HB0
  rcases hp with ⟨i, hf, rfl⟩ | ⟨hno, rfl⟩
  · have hi : i < n := by rw [← HN.out]; exact hf.1
    obtain ⟨b, o, ad, cp, rfl, hz, ⟨e0, e1, e2, e3, e4, e5, e6⟩, -⟩ := HH.out.at HB1.out HN.out hi
    have i1 : (0 : Int) ≤ (i : Int) := by omega
    have i2 : (i : Int) < (n : Int) := by omega
    have HE : Hid (hasB ws key c s q = decide (0 ≤ tcmp (ws.getD i wz).c (ws.getD i wz).s (ws.getD i wz).q c s q)) := by simp [hasB, find_first hf, Hid]
    clear HH hf
    generalize ws.getD i wz = x at *
    obtain ⟨xk, xc, xs', xq, xv, xd, xx⟩ := x
    simp only at e0 e1 e2 e3 e4 e5 e6 HE
    go_wp2_with fail
    have ge1 := aft_cell hz e1
    have ge2 := aft_cell hz e2
    have ge3 := aft_cell hz e3
    have gz0 := aft_cell hz1 z0
    have gz1 := aft_cell hz1 z1
    have gz2 := aft_cell hz1 z2
    have ne := aft_some w1
    refine wp_region_aft (by kernel_rfl) (by kernel_rfl) ?_
    repeat (first | go_big_quiet_step (first | (go_at_call 50; exact aft_of (implTagCmp_any _ _ _ _ _ _ _))))
    refine wpQuiet_nil ?_
    intro wq hq
    have HB2 : Hid (Below w.heap.size w wq) := below_step HB1.out HB1.out.size hq
    clear hq
    go_wp2
    go_ret
    rw [HE.out]
    exact ⟨rfl, HB2.out⟩
  · have HE : Hid (hasB ws key c s q = false) := by simp [hasB, find_none hno, Hid]
    clear hno HH
    go_wp2_with fail
    have gz0 := aft_cell hz1 z0
    have ne := aft_some w1
    refine wp_region_aft (by kernel_rfl) (by kernel_rfl) ?_
    repeat (first | go_big_quiet_step (fail))
    refine wpQuiet_nil ?_
    intro wq hq
    have HB2 : Hid (Below w.heap.size w wq) := below_step HB1.out HB1.out.size hq
    clear hq
    go_wp2
    go_ret
    rw [HE.out]
    exact ⟨rfl, HB2.out⟩

end Go.Proofs.Ytbbmpfkijhhemaa

/- Marks: what markDepS writes, heldDepS finds. -/
namespace Go.Proofs.Ytbbmpfkijhhemaa
open Go.ChangeShapes Go.WideShapes Go.ChangeAt Go.RowKit Go.Joins
attribute [local go_sem ↓] Go.wp_at_zero Go.wp_at_succ

/-- Of what was there these blocks alone may have been written; nothing was made. -/
structure Only (S : Nat → Prop) (w w' : World) : Prop where
  os : w'.os = w.os
  tape : w'.tape = w.tape
  output : w'.output = w.output
  size : w'.heap.size = w.heap.size
  block : ∀ b, ¬ S b → w'.heap[b]? = w.heap[b]?
  frozen : ∀ a, w'.frozen? a = w.frozen? a

theorem Only.refl (S : Nat → Prop) (w : World) : Only S w w := ⟨rfl, rfl, rfl, rfl, fun _ _ => rfl, fun _ => rfl⟩

theorem Only.set {S : Nat → Prop} {w w' : World} (h : Only S w w') {b : Nat} (hb : S b) (o : Nat) (v : Value) : Only S w (w'.setCell ⟨b, o, none⟩ v) :=
  ⟨h.os, h.tape, h.output, by simpa using h.size, fun c hc => (Below.heap_setCell _ _ _ _ (fun e => hc (by rw [e]; exact hb))).trans (h.block c hc), fun a => by simpa using h.frozen a⟩

theorem Only.trans {S T : Nat → Prop} {w w' w'' : World} (h : Only S w w') (k : Only T w' w'') (hT : ∀ b, T b → S b) : Only S w w'' :=
  ⟨k.os.trans h.os, k.tape.trans h.tape, k.output.trans h.output, k.size.trans h.size, fun b hb => (k.block b (fun e => hb (hT b e))).trans (h.block b hb), fun a => (k.frozen a).trans (h.frozen a)⟩

theorem Only.below {S : Nat → Prop} {w w' : World} {B : Nat} (h : Only S w w') (hS : ∀ b, S b → B ≤ b) : Below B w w' :=
  ⟨h.os, h.tape, h.output, by rw [h.size]; exact Nat.le_refl _, fun b hb => h.block b (fun e => by have := hS b e; omega)⟩

/-- The first m cells of block b. -/
def CellsAre (w : World) (b m : Nat) (f : Nat → Value) : Prop := ∀ o, o < m → w.cell? ⟨b, o, none⟩ = some (f o)

theorem CellsAre.of_block {w w' : World} {b m : Nat} {f : Nat → Value} (h : CellsAre w b m f) (hb : w'.heap[b]? = w.heap[b]?) : CellsAre w' b m f :=
  fun o ho => (World.cell?_of_block (a := ⟨b, o, none⟩) hb).trans (h o ho)

theorem CellsAre.set {w : World} {b m : Nat} {f : Nat → Value} (h : CellsAre w b m f) {o : Nat} (ho : o < m) (v : Value) : CellsAre (w.setCell ⟨b, o, none⟩ v) b m (fun j => if j = o then v else f j) := by
  intro j hj
  by_cases e : j = o
  · subst e
    simp [World.cell?_setCell_same, h j hj]
  · simp only [if_neg e]
    rw [World.cell?_setCell_other _ _ _ _ (by intro h; injection h with _ h _; exact e h.symm)]
    exact h j hj

theorem CellsAre.set_other {w : World} {b m : Nat} {f : Nat → Value} (h : CellsAre w b m f) {g : Nat} (hg : g ≠ b) (o : Nat) (v : Value) : CellsAre (w.setCell ⟨g, o, none⟩ v) b m f :=
  h.of_block (Below.heap_setCell _ _ _ _ (Ne.symm hg))

theorem CellsAre.congr {w : World} {b m : Nat} {f f' : Nat → Value} (h : CellsAre w b m f) (he : ∀ o, o < m → f o = f' o) : CellsAre w b m f' := fun o ho => by rw [h o ho, he o ho]

def markFn (k : Int) (o : Nat) : Value := .int .i64 (k + o)

theorem mark_step (k : Int) (j o : Nat) (f : Nat → Value) :
    (if o = j * 4 + 1 + 2 then Value.int .i64 (k + 4 * j + 1 + 1 + 1) else if o = j * 4 + 1 + 1 then Value.int .i64 (k + 4 * j + 1 + 1) else if o = j * 4 + 1 then Value.int .i64 (k + 4 * j + 1) else if o = j * 4 then Value.int .i64 (k + 4 * j) else if o < j * 4 then markFn k o else f o) = (if o < (j + 1) * 4 then markFn k o else f o) := by
  unfold markFn
  by_cases h3 : o = j * 4 + 1 + 2
  · rw [if_pos h3, if_pos (by omega), h3]
    congr 1
    omega
  rw [if_neg h3]
  by_cases h2 : o = j * 4 + 1 + 1
  · rw [if_pos h2, if_pos (by omega), h2]
    congr 1
    omega
  rw [if_neg h2]
  by_cases h1 : o = j * 4 + 1
  · rw [if_pos h1, if_pos (by omega), h1]
    congr 1
    omega
  rw [if_neg h1]
  by_cases h0 : o = j * 4
  · rw [if_pos h0, if_pos (by omega), h0]
    congr 1
    omega
  rw [if_neg h0]
  by_cases hl : o < j * 4
  · rw [if_pos hl, if_pos (by omega)]
  · rw [if_neg hl, if_neg (by omega)]

set_option maxHeartbeats 2000000 in
theorem markDepS_any (a : Option Addr) (g n cap : Nat) (k : Int) (f : Nat → Value) (w : World) (hn : n ≤ 1048576) (h0 : 0 ≤ k) (h1 : k ≤ 1099511627776) (ha : 0 < n → a = some ⟨g, 0, none⟩) (hc : CellsAre w g (n * 4) f) (hz : 0 < n → ∀ o, w.frozen? ⟨g, o, none⟩ = false) :
    Calls Try.prog 20 #[.slice a n cap, .int .i64 k] w fun e w' => e = .returned (.int .i64 (k + 4 * n)) ∧ CellsAre w' g (n * 4) (markFn k) ∧ Only (fun b => 0 < n ∧ b = g) w w' := by
  have HA : Hid (0 < n → a = some ⟨g, 0, none⟩) := ha
  have HC : Hid (CellsAre w g (n * 4) f) := hc
  have HZ : Hid (0 < n → ∀ o, w.frozen? ⟨g, o, none⟩ = false) := hz
  clear hc hz ha
  go_enter Try.func20, Try.ntmps20
  go_wp2
  go_loopw [1, 5] (fun l i wr => ∃ (j : Nat), j ≤ n ∧ i = .int .i64 j ∧ l = .int .i64 (k + 4 * j) ∧ Hid (CellsAre wr g (n * 4) (fun o => if o < j * 4 then markFn k o else f o)) ∧ Hid (Only (fun b => 0 < n ∧ b = g) w wr)) (fun _ i _ => n - (intOf i).toNat)
  case atStart => exact ⟨0, Nat.zero_le _, rfl, by simp, HC.out.congr (fun o _ => by simp), Only.refl _ _⟩
  case round =>
    obtain ⟨j, hj, rfl, rfl, HR, HO⟩ := hrel
    by_cases hj' : j < n
    · have hn0 : 0 < n := by omega
      obtain rfl := HA.out hn0
      have c0 := HR.out (j * 4) (by omega)
      have c1 := HR.out (j * 4 + 1) (by omega)
      have c2 := HR.out (j * 4 + 2) (by omega)
      have c3 := HR.out (j * 4 + 3) (by omega)
      have fz : ∀ o, wr.frozen? ⟨g, o, none⟩ = false := fun o => (HO.out.frozen _).trans (HZ.out hn0 o)
      have i1 : (0 : Int) ≤ (j : Int) := by omega
      have i2 : (j : Int) < (n : Int) := by omega
      go_wp2
      exact ⟨⟨j + 1, by omega, by go_num, by congr 1; push_cast; omega, ((((HR.out.set (by omega) _).set (by omega) _).set (by omega) _).set (by omega) _).congr (fun o _ => mark_step k j o f), (((HO.out.set ⟨hn0, rfl⟩ _ _).set ⟨hn0, rfl⟩ _ _).set ⟨hn0, rfl⟩ _ _).set ⟨hn0, rfl⟩ _ _⟩, by simp [intOf]; omega⟩
    · have hjj : j = n := by omega
      subst hjj
      go_wp2
      go_ret
      exact ⟨rfl, HR.out.congr (fun o ho => by rw [if_pos ho]), HO.out⟩

set_option maxHeartbeats 2000000 in
theorem heldDepS_any (a : Option Addr) (g n cap : Nat) (k : Int) (w : World) (hn : n ≤ 1048576) (h0 : 0 ≤ k) (h1 : k ≤ 1099511627776) (ha : 0 < n → a = some ⟨g, 0, none⟩) (hc : CellsAre w g (n * 4) (markFn k)) :
    Calls Try.prog 21 #[.slice a n cap, .int .i64 k] w fun e w' => e = .returned (.int .i64 (k + 4 * n)) ∧ w' = w := by
  have HA : Hid (0 < n → a = some ⟨g, 0, none⟩) := ha
  have HC : Hid (CellsAre w g (n * 4) (markFn k)) := hc
  clear hc ha
  go_enter Try.func21, Try.ntmps21
  go_wp2
  go_loopw [1, 5] (fun l i wr => ∃ (j : Nat), j ≤ n ∧ i = .int .i64 j ∧ l = .int .i64 (k + 4 * j) ∧ wr = w) (fun _ i _ => n - (intOf i).toNat)
  case atStart => exact ⟨0, Nat.zero_le _, rfl, by simp, rfl⟩
  case round =>
    obtain ⟨j, hj, rfl, rfl, rfl⟩ := hrel
    by_cases hj' : j < n
    · obtain rfl := HA.out (by omega)
      have c0 := HC.out (j * 4) (by omega)
      have c1 := HC.out (j * 4 + 1) (by omega)
      have c2 := HC.out (j * 4 + 1 + 1) (by omega)
      have c3 := HC.out (j * 4 + 1 + 2) (by omega)
      simp only [markFn] at c0 c1 c2 c3
      rw [show k + ((j * 4 : Nat) : Int) = k + 4 * j by omega] at c0
      rw [show k + ((j * 4 + 1 : Nat) : Int) = k + 4 * j + 1 by omega] at c1
      rw [show k + ((j * 4 + 1 + 1 : Nat) : Int) = k + 4 * j + 1 + 1 by omega] at c2
      rw [show k + ((j * 4 + 1 + 2 : Nat) : Int) = k + 4 * j + 1 + 1 + 1 by omega] at c3
      have i1 : (0 : Int) ≤ (j : Int) := by omega
      have i2 : (j : Int) < (n : Int) := by omega
      go_wp2
      exact ⟨⟨j + 1, by omega, by go_num, by congr 1; push_cast; omega, trivial⟩, by simp [intOf]; omega⟩
    · have hjj : j = n := by omega
      subst hjj
      go_wp2
      go_ret
      exact ⟨rfl, rfl⟩

end Go.Proofs.Ytbbmpfkijhhemaa

/- Marks: what markWriteS writes, heldWriteS finds. -/
namespace Go.Proofs.Ytbbmpfkijhhemaa
open Go.ChangeShapes Go.WideShapes Go.ChangeAt Go.RowKit Go.Joins
attribute [local go_sem ↓] Go.wp_at_zero Go.wp_at_succ

/-- The number that write i's marks begin with. -/
def markK (ws : List Wr) (k : Int) (i : Nat) : Int := k + 6 * i + 4 * bulk (ws.take i)

theorem markK_zero (ws : List Wr) (k : Int) : markK ws k 0 = k := by simp [markK, bulk]

theorem markK_next (ws : List Wr) (k : Int) (i : Nat) (h : i < ws.length) : markK ws k (i + 1) = markK ws k i + 6 + 4 * (ws.getD i wz).xs.length := by
  unfold markK
  rw [bulk_take ws i h]
  push_cast
  omega

theorem bulk_take_le (ws : List Wr) (i : Nat) : bulk (ws.take i) ≤ bulk ws := by
  induction ws generalizing i with
  | nil => simp
  | cons x r ih =>
    cases i with
    | zero => simp [bulk]
    | succ i =>
      have := ih i
      simp only [List.take_succ_cons, bulk]
      omega

theorem markK_bounds (ws : List Wr) (k : Int) (i : Nat) (h0 : 0 ≤ k) (h1 : k ≤ 1073741824) (hi : i ≤ 1048576) (hb : bulk ws ≤ 1048576) : 0 ≤ markK ws k i ∧ markK ws k i ≤ 1099511627000 := by
  have := bulk_take_le ws i
  unfold markK
  omega

/-- Cell o of a marked row; f: what was there. -/
def mkCell (ws : List Wr) (k : Int) (f : Nat → Value) (o : Nat) : Value :=
  if o % 7 < 5 then .int .i64 (markK ws k (o / 7) + (o % 7 : Nat)) else if o % 7 = 5 then .bool ((markK ws k (o / 7) + 1 + 1 + 1 + 1 + 1) % 3 == 0) else f o

theorem mkCell_int (ws : List Wr) (k : Int) (f : Nat → Value) (j o c : Nat) (ho : o = j * 7 + c) (hc : c < 5) (z : Int) (hz : z = markK ws k j + c) : Value.int .i64 z = mkCell ws k f o := by
  subst ho
  unfold mkCell
  have e1 : (j * 7 + c) % 7 = c := by omega
  have e2 : (j * 7 + c) / 7 = j := by omega
  rw [e1, e2, if_pos hc, hz]

theorem mk_step (ws : List Wr) (k : Int) (f : Nat → Value) (j o : Nat) :
    (if o = j * 7 + 5 then Value.bool ((markK ws k j + 1 + 1 + 1 + 1 + 1) % 3 == 0) else if o = j * 7 + 4 then Value.int .i64 (markK ws k j + 1 + 1 + 1 + 1) else if o = j * 7 + 1 + 2 then Value.int .i64 (markK ws k j + 1 + 1 + 1) else if o = j * 7 + 1 + 1 then Value.int .i64 (markK ws k j + 1 + 1) else if o = j * 7 + 1 then Value.int .i64 (markK ws k j + 1) else if o = j * 7 then Value.int .i64 (markK ws k j) else if o < j * 7 then mkCell ws k f o else f o) = (if o < (j + 1) * 7 then mkCell ws k f o else f o) := by
  by_cases h5 : o = j * 7 + 5
  · rw [if_pos h5, if_pos (by omega), h5]
    unfold mkCell
    rw [if_neg (by omega), if_pos (by omega), show (j * 7 + 5) / 7 = j by omega]
  rw [if_neg h5]
  by_cases h4 : o = j * 7 + 4
  · rw [if_pos h4, if_pos (by omega)]
    exact mkCell_int ws k f j o 4 h4 (by omega) _ (by omega)
  rw [if_neg h4]
  by_cases h3 : o = j * 7 + 1 + 2
  · rw [if_pos h3, if_pos (by omega)]
    exact mkCell_int ws k f j o 3 (by omega) (by omega) _ (by omega)
  rw [if_neg h3]
  by_cases h2 : o = j * 7 + 1 + 1
  · rw [if_pos h2, if_pos (by omega)]
    exact mkCell_int ws k f j o 2 (by omega) (by omega) _ (by omega)
  rw [if_neg h2]
  by_cases h1 : o = j * 7 + 1
  · rw [if_pos h1, if_pos (by omega)]
    exact mkCell_int ws k f j o 1 (by omega) (by omega) _ (by omega)
  rw [if_neg h1]
  by_cases h0 : o = j * 7
  · rw [if_pos h0, if_pos (by omega)]
    exact mkCell_int ws k f j o 0 (by omega) (by omega) _ (by omega)
  rw [if_neg h0]
  by_cases hl : o < j * 7
  · rw [if_pos hl, if_pos (by omega)]
  · rw [if_neg hl]
    by_cases h6 : o < (j + 1) * 7
    · rw [if_pos h6]
      unfold mkCell
      rw [if_neg (by omega), if_neg (by omega)]
    · rw [if_neg h6]

abbrev mark6 (w : World) (b o : Nat) (m : Int) : World :=
  (((((w.setCell ⟨b, o, none⟩ (.int .i64 m)).setCell ⟨b, o + 1, none⟩ (.int .i64 (m + 1))).setCell ⟨b, o + 1 + 1, none⟩ (.int .i64 (m + 1 + 1))).setCell ⟨b, o + 1 + 2, none⟩ (.int .i64 (m + 1 + 1 + 1))).setCell ⟨b, o + 4, none⟩ (.int .i64 (m + 1 + 1 + 1 + 1))).setCell ⟨b, o + 5, none⟩ (.bool ((m + 1 + 1 + 1 + 1 + 1) % 3 == 0))

theorem mark6_block (w : World) (b o : Nat) (m : Int) {g : Nat} (hg : g ≠ b) : (mark6 w b o m).heap[g]? = w.heap[g]? := by
  unfold mark6
  simp only [Below.heap_setCell _ _ _ _ (show g ≠ (⟨b, _, none⟩ : Addr).block from hg)]

/-- Writes of one's own, from block number base on: the row's block and, where there are some, those of the dependencies, all apart, none of them shut. -/
structure OwnG (w : World) (base b : Nat) (ws : List Wr) (γ : Nat → Nat) : Prop where
  lt : b < w.heap.size
  le : base ≤ b
  open_ : ∀ o, w.frozen? ⟨b, o, none⟩ = false
  at_ : ∀ i, i < ws.length → ∃ a cap, WrAt w b (i * 7) (ws.getD i wz) a cap ∧ (0 < (ws.getD i wz).xs.length → a = some ⟨γ i, 0, none⟩)
  deps : ∀ i, i < ws.length → 0 < (ws.getD i wz).xs.length → base ≤ γ i ∧ γ i < w.heap.size ∧ γ i ≠ b ∧ HoldsDeps w (γ i) 0 (ws.getD i wz).xs ∧ ∀ o, w.frozen? ⟨γ i, o, none⟩ = false
  inj : ∀ i j, i < ws.length → j < ws.length → 0 < (ws.getD i wz).xs.length → 0 < (ws.getD j wz).xs.length → γ i = γ j → i = j

theorem OwnWs.gen {w : World} {base b : Nat} {ws : List Wr} {γ : Nat → Nat} (h : OwnWs w base b ws γ) : OwnG w base b ws γ where
  lt := h.holds.1
  le := h.le
  open_ := h.open_
  at_ := fun i hi => by
    obtain ⟨⟨cap, h1⟩, _, _⟩ := h.holds.2 i hi
    exact ⟨_, cap, h1, fun _ => rfl⟩
  deps := fun i hi _ => ⟨(h.deps i hi).1, (h.holds.2 i hi).2.1, (h.deps i hi).2.1, (h.holds.2 i hi).2.2, (h.deps i hi).2.2⟩
  inj := fun i j hi hj _ _ e => h.inj i j hi hj e

theorem OwnG.below {w w' : World} {base b : Nat} {ws : List Wr} {γ : Nat → Nat} (h : OwnG w base b ws γ) (hb : Below w.heap.size w w') : OwnG w' base b ws γ where
  lt := Nat.lt_of_lt_of_le h.lt hb.size
  le := h.le
  open_ := fun o => (hb.frozen (p := ⟨b, o, none⟩) h.lt).trans (h.open_ o)
  at_ := fun i hi => by
    obtain ⟨a, cap, h1, h2⟩ := h.at_ i hi
    exact ⟨a, cap, h1.of_block (hb.block _ h.lt), h2⟩
  deps := fun i hi hp => by
    obtain ⟨h1, h2, h3, h4, h5⟩ := h.deps i hi hp
    exact ⟨h1, Nat.lt_of_lt_of_le h2 hb.size, h3, h4.below hb h2, fun o => (hb.frozen (p := ⟨γ i, o, none⟩) h2).trans (h5 o)⟩
  inj := h.inj

theorem OwnG.isWs {w : World} {base b : Nat} {ws : List Wr} {γ : Nat → Nat} (h : OwnG w base b ws γ) (hx : Few ws) : IsWs w (some ⟨b, 0, none⟩) ws := by
  refine .inr ⟨b, 0, rfl, h.lt, fun i hi => ?_⟩
  obtain ⟨a, cap, h1, h2⟩ := h.at_ i hi
  refine ⟨a, cap, by rw [Nat.zero_add]; exact h1, by have := hx i hi; unfold maxLen; omega, ?_⟩
  by_cases hp : 0 < (ws.getD i wz).xs.length
  · exact .inr ⟨_, _, h2 hp, (h.deps i hi hp).2.1, (h.deps i hi hp).2.2.2.1⟩
  · exact .inl (List.length_eq_zero_iff.1 (by omega))

/-- The blocks that a row of writes takes up. -/
def TakenUp (b : Nat) (ws : List Wr) (γ : Nat → Nat) (x : Nat) : Prop := x = b ∨ ∃ i, i < ws.length ∧ 0 < (ws.getD i wz).xs.length ∧ x = γ i

/-- While a row is being marked: of its writes the first j are. -/
structure MarkInv (w wr : World) (b : Nat) (ws : List Wr) (γ : Nat → Nat) (k : Int) (f : Nat → Value) (j : Nat) : Prop where
  row : CellsAre wr b (ws.length * 7) (fun o => if o < j * 7 then mkCell ws k f o else f o)
  deps : ∀ i, i < ws.length → 0 < (ws.getD i wz).xs.length → CellsAre wr (γ i) ((ws.getD i wz).xs.length * 4) (fun o => if i < j then markFn (markK ws k i + 1 + 1 + 1 + 1 + 1 + 1) o else .int .i64 (depCell (ws.getD i wz).xs o))
  only : Only (TakenUp b ws γ) w wr

theorem markInv_round {w wr w2 : World} {base b : Nat} {ws : List Wr} {γ : Nat → Nat} {k : Int} {f : Nat → Value} {j : Nat} (hO : OwnG w base b ws γ) (hj : j < ws.length) (h : MarkInv w wr b ws γ k f j)
    (h2 : CellsAre w2 (γ j) ((ws.getD j wz).xs.length * 4) (markFn (markK ws k j + 1 + 1 + 1 + 1 + 1 + 1))) (h3 : Only (fun x => 0 < (ws.getD j wz).xs.length ∧ x = γ j) (mark6 wr b (j * 7) (markK ws k j)) w2) : MarkInv w w2 b ws γ k f (j + 1) where
  row := by
    have h6 : CellsAre (mark6 wr b (j * 7) (markK ws k j)) b (ws.length * 7) (fun o => if o < (j + 1) * 7 then mkCell ws k f o else f o) :=
      ((((((h.row.set (by omega) _).set (by omega) _).set (by omega) _).set (by omega) _).set (by omega) _).set (by omega) _).congr (fun o _ => mk_step ws k f j o)
    exact h6.of_block (h3.block b (fun e => (hO.deps j hj e.1).2.2.1 e.2.symm))
  deps := by
    intro i hi hp
    by_cases hij : i = j
    · subst hij
      exact h2.congr (fun o _ => by rw [if_pos (by omega)])
    · have e : ¬ (0 < (ws.getD j wz).xs.length ∧ γ i = γ j) := fun e => hij (hO.inj i j hi hj hp e.1 e.2)
      refine ((h.deps i hi hp).of_block ((h3.block (γ i) e).trans (mark6_block _ _ _ _ (hO.deps i hi hp).2.2.1))).congr (fun o _ => ?_)
      by_cases hl : i < j
      · rw [if_pos hl, if_pos (by omega)]
      · rw [if_neg hl, if_neg (by omega)]
  only := by
    refine Only.trans ((((((h.only.set (.inl rfl) _ _).set (.inl rfl) _ _).set (.inl rfl) _ _).set (.inl rfl) _ _).set (.inl rfl) _ _).set (.inl rfl) _ _) h3 fun x hx => .inr ⟨j, hj, hx.1, hx.2⟩

theorem markInv_start {w : World} {base b : Nat} {ws : List Wr} {γ : Nat → Nat} (k : Int) (hO : OwnG w base b ws γ) : MarkInv w w b ws γ k (fun o => (w.cell? ⟨b, o, none⟩).getD undef) 0 where
  row := by
    intro o ho
    dsimp only
    rw [if_neg (by omega)]
    obtain ⟨a, cap, ⟨h0, h1, h2, h3, h4, h5, h6⟩, _⟩ := hO.at_ (o / 7) (by omega)
    have h7 : o % 7 = 0 ∨ o % 7 = 1 ∨ o % 7 = 2 ∨ o % 7 = 3 ∨ o % 7 = 4 ∨ o % 7 = 5 ∨ o % 7 = 6 := by omega
    have hx : ∃ v, w.cell? ⟨b, o, none⟩ = some v := by
      rcases h7 with e | e | e | e | e | e | e
      · exact ⟨_, by rw [show o = o / 7 * 7 by omega]; exact h0⟩
      · exact ⟨_, by rw [show o = o / 7 * 7 + 1 by omega]; exact h1⟩
      · exact ⟨_, by rw [show o = o / 7 * 7 + 2 by omega]; exact h2⟩
      · exact ⟨_, by rw [show o = o / 7 * 7 + 3 by omega]; exact h3⟩
      · exact ⟨_, by rw [show o = o / 7 * 7 + 4 by omega]; exact h4⟩
      · exact ⟨_, by rw [show o = o / 7 * 7 + 5 by omega]; exact h5⟩
      · exact ⟨_, by rw [show o = o / 7 * 7 + 6 by omega]; exact h6⟩
    obtain ⟨v, hv⟩ := hx
    simp [hv]
  deps := by
    intro i hi hp o ho
    dsimp only
    rw [if_neg (by omega)]
    have := holds_cells (hO.deps i hi hp).2.2.2.1 ho
    rwa [Nat.zero_add] at this
  only := Only.refl _ _

theorem markInv_slice {w wr : World} {base b : Nat} {ws : List Wr} {γ : Nat → Nat} {k : Int} {j i : Nat} (hO : OwnG w base b ws γ) (h : MarkInv w wr b ws γ k (fun o => (w.cell? ⟨b, o, none⟩).getD undef) j) (hi : i < ws.length) :
    ∃ a cp, wr.cell? ⟨b, i * 7 + 6, none⟩ = some (.slice a (ws.getD i wz).xs.length cp) ∧ (0 < (ws.getD i wz).xs.length → a = some ⟨γ i, 0, none⟩) := by
  obtain ⟨a, cap, ⟨_, _, _, _, _, _, h6⟩, ha⟩ := hO.at_ i hi
  refine ⟨a, cap, ?_, ha⟩
  rw [h.row (i * 7 + 6) (by omega)]
  have e : mkCell ws k (fun o => (w.cell? ⟨b, o, none⟩).getD undef) (i * 7 + 6) = (w.cell? ⟨b, i * 7 + 6, none⟩).getD undef := by
    unfold mkCell
    rw [if_neg (by omega), if_neg (by omega)]
  simp only [e, ite_self, h6]
  rfl

/-- A row of writes that is marked, from k on. -/
def MarkedWs (w : World) (b : Nat) (ws : List Wr) (γ : Nat → Nat) (k : Int) : Prop :=
  ∀ i, i < ws.length → (w.cell? ⟨b, i * 7, none⟩ = some (.int .i64 (markK ws k i)) ∧ w.cell? ⟨b, i * 7 + 1, none⟩ = some (.int .i64 (markK ws k i + 1)) ∧ w.cell? ⟨b, i * 7 + 1 + 1, none⟩ = some (.int .i64 (markK ws k i + 1 + 1)) ∧ w.cell? ⟨b, i * 7 + 1 + 2, none⟩ = some (.int .i64 (markK ws k i + 1 + 1 + 1)) ∧
    w.cell? ⟨b, i * 7 + 4, none⟩ = some (.int .i64 (markK ws k i + 1 + 1 + 1 + 1)) ∧ w.cell? ⟨b, i * 7 + 5, none⟩ = some (.bool ((markK ws k i + 1 + 1 + 1 + 1 + 1) % 3 == 0)) ∧ ∃ a cp, w.cell? ⟨b, i * 7 + 6, none⟩ = some (.slice a (ws.getD i wz).xs.length cp) ∧ (0 < (ws.getD i wz).xs.length → a = some ⟨γ i, 0, none⟩)) ∧
    (0 < (ws.getD i wz).xs.length → CellsAre w (γ i) ((ws.getD i wz).xs.length * 4) (markFn (markK ws k i + 1 + 1 + 1 + 1 + 1 + 1)))

theorem MarkedWs.below {w w' : World} {b : Nat} {ws : List Wr} {γ : Nat → Nat} {k : Int} {B : Nat} (h : MarkedWs w b ws γ k) (hb : Below B w w') (h1 : b < B) (h2 : ∀ i, i < ws.length → 0 < (ws.getD i wz).xs.length → γ i < B) : MarkedWs w' b ws γ k := by
  intro i hi
  obtain ⟨⟨e0, e1, e2, e3, e4, e5, a, cp, e6, e7⟩, hd⟩ := h i hi
  have c : ∀ o, w'.cell? ⟨b, o, none⟩ = w.cell? ⟨b, o, none⟩ := fun o => hb.cell (p := ⟨b, o, none⟩) h1
  exact ⟨⟨(c _).trans e0, (c _).trans e1, (c _).trans e2, (c _).trans e3, (c _).trans e4, (c _).trans e5, a, cp, (c _).trans e6, e7⟩, fun hp => (hd hp).of_block (hb.block _ (h2 i hi hp))⟩

theorem markInv_end {w wr : World} {base b : Nat} {ws : List Wr} {γ : Nat → Nat} {k : Int} (hO : OwnG w base b ws γ) (h : MarkInv w wr b ws γ k (fun o => (w.cell? ⟨b, o, none⟩).getD undef) ws.length) : MarkedWs wr b ws γ k := by
  intro i hi
  have r : ∀ c, c < 7 → wr.cell? ⟨b, i * 7 + c, none⟩ = some (mkCell ws k (fun o => (w.cell? ⟨b, o, none⟩).getD undef) (i * 7 + c)) := fun c hc => by
    rw [h.row _ (by omega)]
    dsimp only
    rw [if_pos (by omega)]
  refine ⟨⟨?_, ?_, ?_, ?_, ?_, ?_, markInv_slice hO h hi⟩, fun hp => (h.deps i hi hp).congr (fun o _ => by rw [if_pos hi])⟩
  · rw [show i * 7 = i * 7 + 0 from rfl, r 0 (by omega), mkCell_int ws k _ i (i * 7 + 0) 0 rfl (by omega) (markK ws k i) (by omega)]
  · rw [r 1 (by omega), mkCell_int ws k _ i (i * 7 + 1) 1 rfl (by omega) (markK ws k i + 1) (by omega)]
  · rw [show i * 7 + 1 + 1 = i * 7 + 2 from rfl, r 2 (by omega), mkCell_int ws k _ i (i * 7 + 2) 2 rfl (by omega) (markK ws k i + 1 + 1) (by omega)]
  · rw [show i * 7 + 1 + 2 = i * 7 + 3 from rfl, r 3 (by omega), mkCell_int ws k _ i (i * 7 + 3) 3 rfl (by omega) (markK ws k i + 1 + 1 + 1) (by omega)]
  · rw [r 4 (by omega), mkCell_int ws k _ i (i * 7 + 4) 4 rfl (by omega) (markK ws k i + 1 + 1 + 1 + 1) (by omega)]
  · rw [r 5 (by omega)]
    unfold mkCell
    rw [if_neg (by omega), if_pos (by omega), show (i * 7 + 5) / 7 = i by omega]

set_option maxHeartbeats 4000000 in
theorem markWriteS_any (base b n cap : Nat) (k : Int) (ws : List Wr) (γ : Nat → Nat) (w : World) (hn : ws.length = n) (hm : n ≤ 1048576) (hbk : bulk ws ≤ 1048576) (h0 : 0 ≤ k) (h1 : k ≤ 1073741824) (ho : OwnG w base b ws γ) :
    Calls Try.prog 19 #[.slice (some ⟨b, 0, none⟩) n cap, .int .i64 k] w fun e w' => e = .returned (.int .i64 (markK ws k n)) ∧ MarkedWs w' b ws γ k ∧ Only (TakenUp b ws γ) w w' := by
  have HO : Hid (OwnG w base b ws γ) := ho
  have HN : Hid (ws.length = n) := hn
  clear ho hn
  have HB : Hid (∀ i, i ≤ n → 0 ≤ markK ws k i ∧ markK ws k i ≤ 1099511627000) := fun i hi => markK_bounds ws k i h0 h1 (by omega) hbk
  go_enter Try.func19, Try.ntmps19
  go_wp2
  go_loopw [1, 5] (fun l i wr => ∃ (j : Nat), j ≤ n ∧ i = .int .i64 j ∧ l = .int .i64 (markK ws k j) ∧ Hid (MarkInv w wr b ws γ k (fun o => (w.cell? ⟨b, o, none⟩).getD undef) j)) (fun _ i _ => n - (intOf i).toNat)
  case atStart => exact ⟨0, Nat.zero_le _, rfl, by rw [markK_zero], markInv_start k HO.out⟩
  case round =>
    obtain ⟨j, hj, rfl, rfl, HI⟩ := hrel
    by_cases hj' : j < n
    · have hjw : j < ws.length := by rw [HN.out]; exact hj'
      have c0 := HI.out.row (j * 7) (by omega)
      have c1 := HI.out.row (j * 7 + 1) (by omega)
      have c2 := HI.out.row (j * 7 + 1 + 1) (by omega)
      have c3 := HI.out.row (j * 7 + 1 + 2) (by omega)
      have c4 := HI.out.row (j * 7 + 4) (by omega)
      have c5 := HI.out.row (j * 7 + 5) (by omega)
      obtain ⟨aj, cp, c6, haj⟩ := markInv_slice HO.out HI.out hjw
      have HAJ := Lib.hid haj
      clear haj
      have fz : ∀ o, wr.frozen? ⟨b, o, none⟩ = false := fun o => (HI.out.only.frozen _).trans (HO.out.open_ o)
      have i1 : (0 : Int) ≤ (j : Int) := by omega
      have i2 : (j : Int) < (n : Int) := by omega
      obtain ⟨m0, m1⟩ := HB.out j hj
      have HS : Hid (∀ w2, CellsAre w2 (γ j) ((ws.getD j wz).xs.length * 4) (markFn (markK ws k j + 1 + 1 + 1 + 1 + 1 + 1)) → Only (fun x => 0 < (ws.getD j wz).xs.length ∧ x = γ j) (mark6 wr b (j * 7) (markK ws k j)) w2 → MarkInv w w2 b ws γ k (fun o => (w.cell? ⟨b, o, none⟩).getD undef) (j + 1)) := fun w2 h2 h3 => markInv_round HO.out hjw HI.out h2 h3
      have HD : Hid (CellsAre (mark6 wr b (j * 7) (markK ws k j)) (γ j) ((ws.getD j wz).xs.length * 4) (fun o => .int .i64 (depCell (ws.getD j wz).xs o))) := by
        by_cases hp : 0 < (ws.getD j wz).xs.length
        · exact ((HI.out.deps j hjw hp).of_block (mark6_block _ _ _ _ (HO.out.deps j hjw hp).2.2.1)).congr (fun o _ => by rw [if_neg (Nat.lt_irrefl j)])
        · exact fun o ho => by omega
      have HZ : Hid (0 < (ws.getD j wz).xs.length → ∀ o, (mark6 wr b (j * 7) (markK ws k j)).frozen? ⟨γ j, o, none⟩ = false) := fun hp o => by
        simp only [World.frozen?_setCell]
        exact (HI.out.only.frozen _).trans ((HO.out.deps j hjw hp).2.2.2.2 o)
      have HK : Hid (markK ws k (j + 1) = markK ws k j + 6 + 4 * (ws.getD j wz).xs.length) := markK_next ws k j hjw
      have hln : (ws.getD j wz).xs.length ≤ 1048576 := Nat.le_trans (bulk_one ws j hjw) hbk
      clear HI
      generalize markK ws k j = m at *
      generalize (ws.getD j wz).xs = ys at *
      generalize γ j = gj at *
      go_wp2_with fail
      refine (markDepS_any _ _ _ _ _ _ _ hln (by omega) (by omega) HAJ.out HD.out HZ.out).mono ?_
      rintro e w2 ⟨rfl, h2, h3⟩
      have HI2 := Lib.hid (HS.out w2 h2 h3)
      clear h2 h3 HS HD HZ
      go_wp2
      exact ⟨⟨j + 1, by omega, by go_num, by rw [HK.out]; congr 1; omega, HI2⟩, by simp [intOf]; omega⟩
    · have hjj : j = n := by omega
      subst hjj
      go_wp2
      go_ret
      refine ⟨rfl, markInv_end HO.out ?_, HI.out.only⟩
      rw [HN.out]
      exact HI.out

end Go.Proofs.Ytbbmpfkijhhemaa
