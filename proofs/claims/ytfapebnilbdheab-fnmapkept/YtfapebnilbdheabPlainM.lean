/- Maps as lists of writes whose keys rise: what is put, what is joined, what registers tell. No Go in sight. -/
import Derived.Test.YtfapebnilbdheabPut
import Derived.Test.YtfapebnilbdheabPlainO
import Derived.Test.YtfapebnilbdheabMapAt
namespace Go.Proofs.Ytfapebnilbdheab

/-- The keys rise. -/
def Rise (ws : List Wr) : Prop := ws.Pairwise fun x y => x.k < y.k

theorem rise_of_next : ∀ {ws : List Wr}, (∀ i, i + 1 < ws.length → (ws.getD i wz).k < (ws.getD (i + 1) wz).k) → Rise ws
  | [], _ => List.Pairwise.nil
  | [x], _ => by simp [Rise]
  | x :: y :: r, h => by
    have ih : Rise (y :: r) := rise_of_next fun i hi => h (i + 1) (by simpa using hi)
    have h0 : x.k < y.k := h 0 (by simp)
    refine List.Pairwise.cons (fun z hz => ?_) ih
    rcases List.mem_cons.1 hz with e | hz
    · rw [e]; exact h0
    · have h1 : y.k < z.k := (List.pairwise_cons.1 ih).1 z hz
      omega

theorem rise_next : ∀ {ws : List Wr}, Rise ws → ∀ i, i + 1 < ws.length → (ws.getD i wz).k < (ws.getD (i + 1) wz).k
  | [], _, i, h => by simp at h
  | x :: r, hr, i, h => by
    have hp := List.pairwise_cons.1 hr
    cases i with
    | zero =>
      cases r with
      | nil => simp at h
      | cons y r => exact hp.1 y (by simp)
    | succ i => exact rise_next (ws := r) hp.2 i (by simpa using h)

theorem mapOk_iff (ws : List Wr) : mapOkB ws = true ↔ (∀ x ∈ ws, okW x = true) ∧ Rise ws := by
  unfold mapOkB
  rw [List.all_eq_true]
  constructor
  · intro h
    have h' : ∀ i, i < ws.length → okW (ws.getD i wz) = true ∧ (i = 0 ∨ (ws.getD (i - 1) wz).k < (ws.getD i wz).k) := fun i hi => by
      have := h i (List.mem_range.2 hi)
      unfold wrGood at this
      simpa only [Bool.and_eq_true, decide_eq_true_eq] using this
    refine ⟨fun x hx => ?_, rise_of_next fun i hi => ?_⟩
    · obtain ⟨i, hi, rfl⟩ := List.mem_iff_getElem.1 hx
      have := (h' i hi).1
      simpa [List.getD, hi] using this
    · rcases (h' (i + 1) hi).2 with h0 | h0
      · omega
      · simpa using h0
  · rintro ⟨h1, h2⟩ i hi
    have hi := List.mem_range.1 hi
    unfold wrGood
    simp only [Bool.and_eq_true, decide_eq_true_eq]
    refine ⟨h1 _ (by simp [List.getD, hi]), ?_⟩
    cases i with
    | zero => exact .inl rfl
    | succ i => exact .inr (by simpa using rise_next h2 i hi)

/-- A write put to a map, said by recursion. -/
def putR : List Wr → Wr → List Wr
  | [], x => [x]
  | y :: r, x => if y.k = x.k then (if cmpW y x < 0 then x else y) :: r else if x.k < y.k then x :: y :: r else y :: putR r x

theorem putStep_past (x : Wr) : ∀ (ws acc : List Wr), (∀ y ∈ ws, x.k < y.k) → ws.foldl (putStep x) (acc, true) = (acc ++ ws, true)
  | [], acc, _ => by simp
  | y :: r, acc, h => by
    have hy : x.k < y.k := h y (by simp)
    have e : putStep x (acc, true) y = (acc ++ [y], true) := by
      unfold putStep
      rw [if_neg (by omega), if_neg (by simp)]
    rw [List.foldl_cons, e, putStep_past x r _ fun z hz => h z (by simp [hz])]
    simp

theorem putStep_fold (x : Wr) : ∀ (ws acc : List Wr), Rise ws → (if (ws.foldl (putStep x) (acc, false)).2 then (ws.foldl (putStep x) (acc, false)).1 else (ws.foldl (putStep x) (acc, false)).1 ++ [x]) = acc ++ putR ws x
  | [], acc, _ => by simp [putR]
  | y :: r, acc, h => by
    have hp := List.pairwise_cons.1 h
    rw [List.foldl_cons]
    unfold putR
    by_cases h1 : y.k = x.k
    · have hr : ∀ z ∈ r, x.k < z.k := fun z hz => by have := hp.1 z hz; omega
      by_cases h2 : cmpW y x < 0
      · have e : putStep x (acc, false) y = (acc ++ [x], true) := by simp [putStep, h1, h2]
        rw [e, putStep_past x r _ hr]
        simp [h1, h2]
      · have e : putStep x (acc, false) y = (acc ++ [y], true) := by simp [putStep, h1, h2]
        rw [e, putStep_past x r _ hr]
        simp [h1, h2]
    · by_cases h2 : x.k < y.k
      · have hr : ∀ z ∈ r, x.k < z.k := fun z hz => by have := hp.1 z hz; omega
        have e : putStep x (acc, false) y = (acc ++ [x] ++ [y], true) := by simp [putStep, h1, h2]
        rw [e, putStep_past x r _ hr]
        simp [h1, h2]
      · have e : putStep x (acc, false) y = (acc ++ [y], false) := by simp [putStep, h1, h2]
        rw [e, putStep_fold x r _ hp.2]
        simp [h1, h2]

theorem putW_eq {ws : List Wr} (h : Rise ws) (x : Wr) : putW ws x = putR ws x := by
  have := putStep_fold x ws [] h
  rw [List.nil_append] at this
  exact this

/-- The later one of what is there and what comes. -/
def laterO (o : Option Wr) (x : Wr) : Wr := match o with | none => x | some y => if cmpW y x < 0 then x else y

theorem findW_cons (y : Wr) (r : List Wr) (key : Int) : findW (y :: r) key = if y.k = key then some y else findW r key := by
  unfold findW
  rw [List.find?_cons]
  by_cases h : y.k = key
  · simp [h]
  · rw [beq_eq_false_iff_ne.2 h, if_neg h]

theorem findW_past : ∀ {ws : List Wr} {key : Int}, (∀ y ∈ ws, key < y.k) → findW ws key = none
  | [], _, _ => rfl
  | y :: r, key, h => by
    rw [findW_cons, if_neg (by have := h y (by simp); omega), findW_past fun z hz => h z (by simp [hz])]

theorem later_key {o : Option Wr} {x : Wr} (h : ∀ y, o = some y → y.k = x.k) : (laterO o x).k = x.k := by
  unfold laterO
  split
  · rfl
  · split
    · rfl
    · exact h _ rfl

theorem findW_key {ws : List Wr} {key : Int} {x : Wr} (h : findW ws key = some x) : x.k = key := by
  have := List.find?_some h
  simpa using this

theorem findW_mem {ws : List Wr} {key : Int} {x : Wr} (h : findW ws key = some x) : x ∈ ws := List.mem_of_find?_eq_some h

theorem find_putR : ∀ (ws : List Wr) (x : Wr) (key : Int), Rise ws → findW (putR ws x) key = if key = x.k then some (laterO (findW ws x.k) x) else findW ws key
  | [], x, key, _ => by
    simp only [putR, findW_cons]
    by_cases h : x.k = key
    · rw [if_pos h, if_pos h.symm]
      rfl
    · rw [if_neg h, if_neg (fun e => h e.symm)]
  | y :: r, x, key, h => by
    have hp := List.pairwise_cons.1 h
    unfold putR
    by_cases h1 : y.k = x.k
    · rw [if_pos h1, findW_cons, findW_cons y r x.k, if_pos h1, findW_cons y r key]
      by_cases h2 : cmpW y x < 0
      · simp only [h2, if_true, laterO, h1, eq_comm]
        by_cases h3 : key = x.k <;> simp [h3]
      · simp only [h2, if_false, laterO, h1, eq_comm]
        by_cases h3 : key = x.k <;> simp [h3]
    · rw [if_neg h1]
      by_cases h2 : x.k < y.k
      · rw [if_pos h2, findW_cons]
        have hn : findW (y :: r) x.k = none := findW_past fun z hz => by
          rcases List.mem_cons.1 hz with e | hz
          · rw [e]; exact h2
          · have := hp.1 z hz; omega
        rw [hn]
        by_cases h3 : x.k = key
        · rw [if_pos h3, if_pos h3.symm]
          rfl
        · rw [if_neg h3, if_neg (fun e => h3 e.symm)]
      · rw [if_neg h2, findW_cons, find_putR r x key hp.2, findW_cons, if_neg h1, findW_cons]
        by_cases h3 : y.k = key
        · rw [if_pos h3, if_neg (by omega), if_pos h3]
        · rw [if_neg h3, if_neg h3]

theorem putR_mem : ∀ (ws : List Wr) (x z : Wr), z ∈ putR ws x → z = x ∨ z ∈ ws
  | [], x, z, h => by simpa [putR] using h
  | y :: r, x, z, h => by
    unfold putR at h
    by_cases h1 : y.k = x.k
    · rw [if_pos h1] at h
      by_cases h2 : cmpW y x < 0
      · rw [if_pos h2] at h
        rcases List.mem_cons.1 h with h | h
        · exact .inl h
        · exact .inr (by simp [h])
      · rw [if_neg h2] at h
        exact .inr h
    · rw [if_neg h1] at h
      by_cases h2 : x.k < y.k
      · rw [if_pos h2] at h
        rcases List.mem_cons.1 h with h | h
        · exact .inl h
        · exact .inr h
      · rw [if_neg h2] at h
        rcases List.mem_cons.1 h with h | h
        · exact .inr (by simp [h])
        · rcases putR_mem r x z h with h | h
          · exact .inl h
          · exact .inr (by simp [h])

theorem rise_putR : ∀ (ws : List Wr) (x : Wr), Rise ws → Rise (putR ws x)
  | [], x, _ => by simp [putR, Rise]
  | y :: r, x, h => by
    have hp := List.pairwise_cons.1 h
    unfold putR
    by_cases h1 : y.k = x.k
    · rw [if_pos h1]
      by_cases h2 : cmpW y x < 0
      · rw [if_pos h2]
        exact List.Pairwise.cons (fun z hz => by have := hp.1 z hz; omega) hp.2
      · rw [if_neg h2]
        exact h
    · rw [if_neg h1]
      by_cases h2 : x.k < y.k
      · rw [if_pos h2]
        refine List.Pairwise.cons (fun z hz => ?_) h
        rcases List.mem_cons.1 hz with e | hz
        · rw [e]; exact h2
        · have := hp.1 z hz; omega
      · rw [if_neg h2]
        refine List.Pairwise.cons (fun z hz => ?_) (rise_putR r x hp.2)
        rcases putR_mem r x z hz with e | hz
        · rw [e]; omega
        · exact hp.1 z hz

theorem rise_putW {ws : List Wr} (h : Rise ws) (x : Wr) : Rise (putW ws x) := by
  rw [putW_eq h]
  exact rise_putR ws x h

theorem putW_mem {ws : List Wr} (h : Rise ws) {x z : Wr} (hz : z ∈ putW ws x) : z = x ∨ z ∈ ws := by
  rw [putW_eq h] at hz
  exact putR_mem ws x z hz

theorem find_putW {ws : List Wr} (h : Rise ws) (x : Wr) (key : Int) : findW (putW ws x) key = if key = x.k then some (laterO (findW ws x.k) x) else findW ws key := by
  rw [putW_eq h]
  exact find_putR ws x key h

/-- What is told of six registers, in order. -/
def toldM (M : Int → Option Wr) : List Wr := [(0 : Int), 1, 2, 3, 4, 5].filterMap M

theorem filterMap_same {α β : Type} {f g : α → Option β} : ∀ {l : List α}, (∀ x ∈ l, f x = g x) → l.filterMap f = l.filterMap g
  | [], _ => rfl
  | x :: r, h => by rw [List.filterMap_cons, List.filterMap_cons, h x (by simp), filterMap_same fun y hy => h y (by simp [hy])]

theorem told_rise : ∀ (ks : List Int) (ws : List Wr), ks.Pairwise (· < ·) → Rise ws → (∀ x ∈ ws, x.k ∈ ks) → ks.filterMap (findW ws) = ws
  | [], [], _, _, _ => rfl
  | [], x :: r, _, _, h => by simpa using h x (by simp)
  | k :: ks, [], _, _, _ => by simp [findW, List.filterMap_eq_nil_iff]
  | k :: ks, x :: r, hk, hr, h => by
    have hpk := List.pairwise_cons.1 hk
    have hpr := List.pairwise_cons.1 hr
    by_cases e : x.k = k
    · rw [List.filterMap_cons, findW_cons, if_pos e]
      simp only
      have ih := told_rise ks r hpk.2 hpr.2 fun y hy => by
        have h1 := h y (by simp [hy])
        rcases List.mem_cons.1 h1 with h2 | h2
        · have := hpr.1 y hy; omega
        · exact h2
      congr 1
      refine (filterMap_same fun j hj => ?_).trans ih
      rw [findW_cons, if_neg (by have := hpk.1 j hj; omega)]
    · have hx : k < x.k := by
        have h1 := h x (by simp)
        rcases List.mem_cons.1 h1 with h2 | h2
        · exact absurd h2 e
        · exact hpk.1 _ h2
      have hn : findW (x :: r) k = none := findW_past fun z hz => by
        rcases List.mem_cons.1 hz with e | hz
        · rw [e]; exact hx
        · have := hpr.1 z hz; omega
      rw [List.filterMap_cons, hn]
      simp only
      refine told_rise ks (x :: r) hpk.2 hr fun y hy => ?_
      have h1 := h y hy
      rcases List.mem_cons.1 h1 with h2 | h2
      · rcases List.mem_cons.1 hy with e' | hy
        · rw [e'] at h2; exact absurd h2 e
        · have := hpr.1 y hy; omega
      · exact h2

theorem told_find {ws : List Wr} (hr : Rise ws) (hk : ∀ x ∈ ws, 0 ≤ x.k ∧ x.k ≤ 5) : toldM (findW ws) = ws := by
  refine told_rise _ ws (by decide) hr fun x hx => ?_
  have := hk x hx
  simp only [List.mem_cons, List.not_mem_nil, or_false]
  omega

/-- A write put to a register. -/
def regPut (M : Int → Option Wr) (x : Wr) : Int → Option Wr := fun key => if key = x.k then some (laterO (M x.k) x) else M key

def joinW (a b : List Wr) : List Wr := b.foldl putW a

theorem join_spec : ∀ (b a : List Wr), Rise a → Rise (joinW a b) ∧ (∀ z ∈ joinW a b, z ∈ a ∨ z ∈ b) ∧ ∀ key, findW (joinW a b) key = b.foldl regPut (findW a) key
  | [], a, h => ⟨h, fun _ hz => .inl hz, fun _ => rfl⟩
  | x :: b, a, h => by
    obtain ⟨h1, h2, h3⟩ := join_spec b (putW a x) (rise_putW h x)
    refine ⟨h1, fun z hz => ?_, fun key => ?_⟩
    · rcases h2 z hz with h4 | h4
      · rcases putW_mem h h4 with h5 | h5
        · exact .inr (by simp [h5])
        · exact .inl h5
      · exact .inr (by simp [h4])
    · have e : findW (putW a x) = regPut (findW a) x := funext fun key => find_putW h x key
      show findW (joinW (putW a x) b) key = _
      rw [h3 key, e]
      rfl

/-- A map's own writes, put one by one to empty registers, are the map. -/
theorem regs_self : ∀ (b a : List Wr), Rise (a ++ b) → b.foldl regPut (findW a) = findW (a ++ b)
  | [], a, _ => by simp
  | x :: b, a, h => by
    have h' : Rise (a ++ [x] ++ b) := by simpa using h
    have ha : ∀ y ∈ a, y.k < x.k := fun y hy => (List.pairwise_append.1 h).2.2 y hy x (by simp)
    have e : regPut (findW a) x = findW (a ++ [x]) := by
      funext key
      unfold regPut
      have hx : findW a x.k = none := by
        unfold findW
        rw [List.find?_eq_none]
        intro y hy
        have := ha y hy
        simp
        omega
      have hs : findW (a ++ [x]) key = (findW a key).or (findW [x] key) := by
        unfold findW
        rw [List.find?_append]
      rw [hs]
      by_cases hk : key = x.k
      · subst hk
        rw [if_pos rfl, hx, findW_cons, if_pos rfl]
        rfl
      · rw [if_neg hk, findW_cons, if_neg (fun e => hk e.symm)]
        cases findW a key <;> rfl
    show b.foldl regPut (regPut (findW a) x) = _
    rw [e, regs_self b (a ++ [x]) h']
    simp

theorem regs_map {a : List Wr} (h : Rise a) : a.foldl regPut (fun _ => none) = findW a := by
  have e : findW [] = fun _ => none := rfl
  have := regs_self a [] (by simpa using h)
  rw [e, List.nil_append] at this
  exact this

/-- What the registers tell at last is the join. -/
theorem told_join {a b : List Wr} (ha : Rise a) (ka : ∀ x ∈ a, 0 ≤ x.k ∧ x.k ≤ 5) (kb : ∀ x ∈ b, 0 ≤ x.k ∧ x.k ≤ 5) : toldM (b.foldl regPut (a.foldl regPut (fun _ => none))) = joinW a b := by
  obtain ⟨h1, h2, h3⟩ := join_spec b a ha
  have e : b.foldl regPut (a.foldl regPut (fun _ => none)) = findW (joinW a b) := by
    rw [regs_map ha]
    exact funext fun key => (h3 key).symm
  rw [e]
  exact told_find h1 fun x hx => by
    rcases h2 x hx with h | h
    · exact ka x h
    · exact kb x h

end Go.Proofs.Ytfapebnilbdheab
