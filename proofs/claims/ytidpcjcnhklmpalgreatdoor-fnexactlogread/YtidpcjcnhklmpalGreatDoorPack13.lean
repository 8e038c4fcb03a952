import Derived.Test.YtidpcjcnhklmpalGreatDoorPack12
import Derived.Test.YtidpcjcnhklmpalGreatDoorPack11
import Derived.Maps.OwnSet
import Derived.DeepKeys4
import Derived.Test.YtidpcjcnhklmpalGreatDoorPack6
import Derived.Test.YtidpcjcnhklmpalGreatDoorPack1
import Derived.Lib.Hide
import Derived.Deep.OwnRows
/- The orders of tags and writes: turned round they are turned round, and they go on. No Go in sight. -/
namespace Go.Proofs.YtidpcjcnhklmpalGreatDoor

def lexI (a b : Int) : Int := if a ≠ 0 then a else b

/-- What three answers of one order have to do with one another: of a with b, of b with c, of a with c. -/
structure T3 (x y z : Int) : Prop where
  l : x = 0 → z = y
  r : y = 0 → z = x
  n : x < 0 → y < 0 → z < 0

theorem T3.lex {x y z x' y' z' : Int} (h : T3 x y z) (h' : T3 x' y' z') : T3 (lexI x x') (lexI y y') (lexI z z') := by
  obtain ⟨l, r, n⟩ := h
  obtain ⟨l', r', n'⟩ := h'
  unfold lexI
  by_cases hx : x = 0
  · have hz := l hx
    by_cases hy : y = 0
    · have hz0 : z = 0 := by omega
      simp only [hx, hy, hz0, ne_eq, not_true_eq_false, if_false]
      exact ⟨l', r', n'⟩
    · have hz0 : z ≠ 0 := by omega
      simp only [hx, hy, hz0, ne_eq, not_true_eq_false, not_false_eq_true, if_false, if_true]
      exact ⟨fun _ => hz, fun e => absurd e hy, fun h1 h2 => by omega⟩
  · by_cases hy : y = 0
    · have hz := r hy
      have hz0 : z ≠ 0 := by omega
      simp only [hx, hy, hz0, ne_eq, not_true_eq_false, not_false_eq_true, if_false, if_true]
      exact ⟨fun e => absurd e hx, fun _ => hz, fun h1 h2 => by omega⟩
    · simp only [hx, hy, ne_eq, not_false_eq_true, if_true]
      refine ⟨fun e => absurd e hx, fun e => absurd e hy, fun h1 h2 => ?_⟩
      have := n h1 h2
      rw [if_pos (by omega)]
      exact this

theorem T3.on {x y z : Int} (h : T3 x y z) (hx : x ≤ 0) (hy : y ≤ 0) : z < 0 ∨ (z = 0 ∧ x = 0 ∧ y = 0) := by
  obtain ⟨l, r, n⟩ := h
  by_cases h0 : x = 0
  · have := l h0
    omega
  · by_cases h1 : y = 0
    · have := r h1
      omega
    · have := n (by omega) (by omega)
      omega

theorem lexI_neg (a b : Int) : lexI (-a) (-b) = -lexI a b := by
  unfold lexI
  by_cases h : a = 0
  · simp [h]
  · have h' : -a ≠ 0 := by omega
    simp [h]

theorem sgn_three (a b c : Int) : T3 (sgn a b) (sgn b c) (sgn a c) := by
  refine ⟨fun h => ?_, fun h => ?_, fun h1 h2 => ?_⟩
  · rw [sgn_zero.1 h]
  · rw [sgn_zero.1 h]
  · unfold sgn at *
    by_cases e1 : a < b
    · by_cases e2 : b < c
      · rw [if_pos (by omega)]
        omega
      · rw [if_neg e2] at h2
        split at h2 <;> omega
    · rw [if_neg e1] at h1
      split at h1 <;> omega

theorem tcmp_lex (c s q c' s' q' : Int) : tcmp c s q c' s' q' = lexI (sgn c c') (lexI (sgn s s') (sgn q q')) := by
  unfold tcmp lexI
  simp only [ne_eq, sgn_zero]

theorem tcmp_three (a1 a2 a3 b1 b2 b3 c1 c2 c3 : Int) : T3 (tcmp a1 a2 a3 b1 b2 b3) (tcmp b1 b2 b3 c1 c2 c3) (tcmp a1 a2 a3 c1 c2 c3) := by
  rw [tcmp_lex, tcmp_lex, tcmp_lex]
  exact (sgn_three _ _ _).lex ((sgn_three _ _ _).lex (sgn_three _ _ _))

theorem tcmp_neg (a1 a2 a3 b1 b2 b3 : Int) : tcmp b1 b2 b3 a1 a2 a3 = -tcmp a1 a2 a3 b1 b2 b3 := by
  rw [tcmp_lex, tcmp_lex, ← lexI_neg, ← lexI_neg, sgn_neg a1 b1, sgn_neg a2 b2, sgn_neg a3 b3]

theorem dcmp_lex (d e : Dp) : dcmp d e = lexI (sgn d.k e.k) (tcmp d.c d.s d.q e.c e.s e.q) := by
  unfold dcmp lexI
  simp only [ne_eq, sgn_zero]

theorem dcmp_three (d e f : Dp) : T3 (dcmp d e) (dcmp e f) (dcmp d f) := by
  rw [dcmp_lex, dcmp_lex, dcmp_lex]
  exact (sgn_three _ _ _).lex (tcmp_three _ _ _ _ _ _ _ _ _)

theorem dcmp_neg (d e : Dp) : dcmp e d = -dcmp d e := by
  rw [dcmp_lex, dcmp_lex, ← lexI_neg, sgn_neg d.k e.k, tcmp_neg d.c d.s d.q e.c e.s e.q]

theorem depsCmp_cons (d e : Dp) (r t : List Dp) : depsCmp (d :: r) (e :: t) = lexI (dcmp d e) (depsCmp r t) := rfl

theorem depsCmp_neg : ∀ xs ys : List Dp, depsCmp ys xs = -depsCmp xs ys
  | [], [] => rfl
  | [], _ :: _ => rfl
  | _ :: _, [] => rfl
  | d :: r, e :: t => by rw [depsCmp_cons, depsCmp_cons, dcmp_neg d e, depsCmp_neg r t, lexI_neg]

theorem depsCmp_three : ∀ xs ys zs : List Dp, T3 (depsCmp xs ys) (depsCmp ys zs) (depsCmp xs zs)
  | [], [], [] => ⟨fun _ => rfl, fun _ => rfl, fun h _ => absurd h (by simp [depsCmp])⟩
  | [], [], _ :: _ => ⟨fun _ => rfl, fun h => absurd h (by simp [depsCmp]), fun h _ => absurd h (by simp [depsCmp])⟩
  | [], _ :: _, [] => ⟨fun h => absurd h (by simp [depsCmp]), fun h => absurd h (by simp [depsCmp]), fun _ h => absurd h (by simp [depsCmp])⟩
  | [], _ :: _, _ :: _ => ⟨fun h => absurd h (by simp [depsCmp]), fun _ => rfl, fun _ _ => by simp [depsCmp]⟩
  | _ :: _, [], [] => ⟨fun h => absurd h (by simp [depsCmp]), fun _ => rfl, fun h _ => absurd h (by simp [depsCmp])⟩
  | _ :: _, [], _ :: _ => ⟨fun h => absurd h (by simp [depsCmp]), fun h => absurd h (by simp [depsCmp]), fun h _ => absurd h (by simp [depsCmp])⟩
  | _ :: _, _ :: _, [] => ⟨fun _ => rfl, fun h => absurd h (by simp [depsCmp]), fun _ h => absurd h (by simp [depsCmp])⟩
  | d :: r, e :: t, f :: u => by
    rw [depsCmp_cons, depsCmp_cons, depsCmp_cons]
    exact (dcmp_three d e f).lex (depsCmp_three r t u)

theorem wcmp_lex (k c s q v : Int) (de : Bool) (xs : List Dp) (k' c' s' q' v' : Int) (de' : Bool) (ys : List Dp) :
    wcmp k c s q v de xs k' c' s' q' v' de' ys = lexI (tcmp c s q c' s' q') (lexI (sgn k k') (lexI (sgn v v') (lexI (sgn (bit de) (bit de')) (depsCmp xs ys)))) := by
  unfold wcmp lexI
  simp only [ne_eq, sgn_zero (a := k), sgn_zero (a := v), bit_sgn]

theorem wcmp_three (k c s q v : Int) (de : Bool) (xs : List Dp) (k' c' s' q' v' : Int) (de' : Bool) (ys : List Dp) (k2 c2 s2 q2 v2 : Int) (de2 : Bool) (zs : List Dp) :
    T3 (wcmp k c s q v de xs k' c' s' q' v' de' ys) (wcmp k' c' s' q' v' de' ys k2 c2 s2 q2 v2 de2 zs) (wcmp k c s q v de xs k2 c2 s2 q2 v2 de2 zs) := by
  rw [wcmp_lex, wcmp_lex, wcmp_lex]
  exact (tcmp_three _ _ _ _ _ _ _ _ _).lex ((sgn_three _ _ _).lex ((sgn_three _ _ _).lex ((sgn_three _ _ _).lex (depsCmp_three _ _ _))))

theorem wcmp_neg (k c s q v : Int) (de : Bool) (xs : List Dp) (k' c' s' q' v' : Int) (de' : Bool) (ys : List Dp) :
    wcmp k' c' s' q' v' de' ys k c s q v de xs = -wcmp k c s q v de xs k' c' s' q' v' de' ys := by
  rw [wcmp_lex, wcmp_lex, ← lexI_neg, ← lexI_neg, ← lexI_neg, ← lexI_neg, tcmp_neg c s q, sgn_neg k k', sgn_neg v v', sgn_neg (bit de) (bit de'), depsCmp_neg xs ys]

theorem depsCmp_bd : ∀ xs ys : List Dp, -1 ≤ depsCmp xs ys ∧ depsCmp xs ys ≤ 1
  | [], [] => by simp [depsCmp]
  | [], _ :: _ => by simp [depsCmp]
  | _ :: _, [] => by simp [depsCmp]
  | d :: r, e :: t => by
    have h := depsCmp_bd r t
    have h1 := sgn_bd d.k e.k
    have h2 := tcmp_bd d.c d.s d.q e.c e.s e.q
    rw [depsCmp_cons, dcmp_lex]
    unfold lexI
    by_cases g1 : sgn d.k e.k = 0
    · by_cases g2 : tcmp d.c d.s d.q e.c e.s e.q = 0
      · simpa [g1, g2] using h
      · simpa [g1, g2] using h2
    · simpa [g1] using h1

theorem wcmp_bd (k c s q v : Int) (de : Bool) (xs : List Dp) (k' c' s' q' v' : Int) (de' : Bool) (ys : List Dp) : -1 ≤ wcmp k c s q v de xs k' c' s' q' v' de' ys ∧ wcmp k c s q v de xs k' c' s' q' v' de' ys ≤ 1 := by
  have h1 := tcmp_bd c s q c' s' q'
  have h2 := sgn_bd k k'
  have h3 := sgn_bd v v'
  have h4 := sgn_bd (bit de) (bit de')
  have h5 := depsCmp_bd xs ys
  unfold wcmp
  split
  · exact h1
  · split
    · exact h2
    · split
      · exact h3
      · split
        · exact h4
        · exact h5

end Go.Proofs.YtidpcjcnhklmpalGreatDoor

/- Maps as lists of writes whose keys rise: what is put, what is joined, what registers tell. No Go in sight. -/
namespace Go.Proofs.YtidpcjcnhklmpalGreatDoor

/-- The keys rise. -/
def Rise (ws : List Wr) : Prop := ws.Pairwise fun x y => x.k < y.k

theorem rise_of_next : ∀ {ws : List Wr}, (∀ i, i + 1 < ws.length → (ws.getD i wz).k < (ws.getD (i + 1) wz).k) → Rise ws
  | [], _ => List.Pairwise.nil
  | [x], _ => by simp [Rise]
  | x :: y :: r, h => by
    have ih : Rise (y :: r) := rise_of_next fun i hi => h (i + 1) (by simpa using hi)
    have h0 : x.k < y.k := h 0 (by simp)
    refine List.Pairwise.cons (fun z hz => ?_) ih
    rcases List.mem_cons.1 hz with e | hz
    · rw [e]; exact h0
    · have h1 : y.k < z.k := (List.pairwise_cons.1 ih).1 z hz
      omega

theorem rise_next : ∀ {ws : List Wr}, Rise ws → ∀ i, i + 1 < ws.length → (ws.getD i wz).k < (ws.getD (i + 1) wz).k
  | [], _, i, h => by simp at h
  | x :: r, hr, i, h => by
    have hp := List.pairwise_cons.1 hr
    cases i with
    | zero =>
      cases r with
      | nil => simp at h
      | cons y r => exact hp.1 y (by simp)
    | succ i => exact rise_next (ws := r) hp.2 i (by simpa using h)

theorem mapOk_iff (ws : List Wr) : mapOkB ws = true ↔ (∀ x ∈ ws, okW x = true) ∧ Rise ws := by
  unfold mapOkB
  rw [List.all_eq_true]
  constructor
  · intro h
    have h' : ∀ i, i < ws.length → okW (ws.getD i wz) = true ∧ (i = 0 ∨ (ws.getD (i - 1) wz).k < (ws.getD i wz).k) := fun i hi => by
      have := h i (List.mem_range.2 hi)
      unfold wrGood at this
      simpa only [Bool.and_eq_true, decide_eq_true_eq] using this
    refine ⟨fun x hx => ?_, rise_of_next fun i hi => ?_⟩
    · obtain ⟨i, hi, rfl⟩ := List.mem_iff_getElem.1 hx
      have := (h' i hi).1
      simpa [List.getD, hi] using this
    · rcases (h' (i + 1) hi).2 with h0 | h0
      · omega
      · simpa using h0
  · rintro ⟨h1, h2⟩ i hi
    have hi := List.mem_range.1 hi
    unfold wrGood
    simp only [Bool.and_eq_true, decide_eq_true_eq]
    refine ⟨h1 _ (by simp [List.getD, hi]), ?_⟩
    cases i with
    | zero => exact .inl rfl
    | succ i => exact .inr (by simpa using rise_next h2 i hi)

/-- A write put to a map, said by recursion. -/
def putR : List Wr → Wr → List Wr
  | [], x => [x]
  | y :: r, x => if y.k = x.k then (if cmpW y x < 0 then x else y) :: r else if x.k < y.k then x :: y :: r else y :: putR r x

theorem putStep_past (x : Wr) : ∀ (ws acc : List Wr), (∀ y ∈ ws, x.k < y.k) → ws.foldl (putStep x) (acc, true) = (acc ++ ws, true)
  | [], acc, _ => by simp
  | y :: r, acc, h => by
    have hy : x.k < y.k := h y (by simp)
    have e : putStep x (acc, true) y = (acc ++ [y], true) := by
      unfold putStep
      rw [if_neg (by omega), if_neg (by simp)]
    rw [List.foldl_cons, e, putStep_past x r _ fun z hz => h z (by simp [hz])]
    simp

theorem putStep_fold (x : Wr) : ∀ (ws acc : List Wr), Rise ws → (if (ws.foldl (putStep x) (acc, false)).2 then (ws.foldl (putStep x) (acc, false)).1 else (ws.foldl (putStep x) (acc, false)).1 ++ [x]) = acc ++ putR ws x
  | [], acc, _ => by simp [putR]
  | y :: r, acc, h => by
    have hp := List.pairwise_cons.1 h
    rw [List.foldl_cons]
    unfold putR
    by_cases h1 : y.k = x.k
    · have hr : ∀ z ∈ r, x.k < z.k := fun z hz => by have := hp.1 z hz; omega
      by_cases h2 : cmpW y x < 0
      · have e : putStep x (acc, false) y = (acc ++ [x], true) := by simp [putStep, h1, h2]
        rw [e, putStep_past x r _ hr]
        simp [h1, h2]
      · have e : putStep x (acc, false) y = (acc ++ [y], true) := by simp [putStep, h1, h2]
        rw [e, putStep_past x r _ hr]
        simp [h1, h2]
    · by_cases h2 : x.k < y.k
      · have hr : ∀ z ∈ r, x.k < z.k := fun z hz => by have := hp.1 z hz; omega
        have e : putStep x (acc, false) y = (acc ++ [x] ++ [y], true) := by simp [putStep, h1, h2]
        rw [e, putStep_past x r _ hr]
        simp [h1, h2]
      · have e : putStep x (acc, false) y = (acc ++ [y], false) := by simp [putStep, h1, h2]
        rw [e, putStep_fold x r _ hp.2]
        simp [h1, h2]

theorem putW_eq {ws : List Wr} (h : Rise ws) (x : Wr) : putW ws x = putR ws x := by
  have := putStep_fold x ws [] h
  rw [List.nil_append] at this
  exact this

/-- The later one of what is there and what comes. -/
def laterO (o : Option Wr) (x : Wr) : Wr := match o with | none => x | some y => if cmpW y x < 0 then x else y

theorem findW_cons (y : Wr) (r : List Wr) (key : Int) : findW (y :: r) key = if y.k = key then some y else findW r key := by
  unfold findW
  rw [List.find?_cons]
  by_cases h : y.k = key
  · simp [h]
  · rw [beq_eq_false_iff_ne.2 h, if_neg h]

theorem findW_past : ∀ {ws : List Wr} {key : Int}, (∀ y ∈ ws, key < y.k) → findW ws key = none
  | [], _, _ => rfl
  | y :: r, key, h => by
    rw [findW_cons, if_neg (by have := h y (by simp); omega), findW_past fun z hz => h z (by simp [hz])]

theorem later_key {o : Option Wr} {x : Wr} (h : ∀ y, o = some y → y.k = x.k) : (laterO o x).k = x.k := by
  unfold laterO
  split
  · rfl
  · split
    · rfl
    · exact h _ rfl

theorem findW_key {ws : List Wr} {key : Int} {x : Wr} (h : findW ws key = some x) : x.k = key := by
  have := List.find?_some h
  simpa using this

theorem findW_mem {ws : List Wr} {key : Int} {x : Wr} (h : findW ws key = some x) : x ∈ ws := List.mem_of_find?_eq_some h

theorem find_putR : ∀ (ws : List Wr) (x : Wr) (key : Int), Rise ws → findW (putR ws x) key = if key = x.k then some (laterO (findW ws x.k) x) else findW ws key
  | [], x, key, _ => by
    simp only [putR, findW_cons]
    by_cases h : x.k = key
    · rw [if_pos h, if_pos h.symm]
      rfl
    · rw [if_neg h, if_neg (fun e => h e.symm)]
  | y :: r, x, key, h => by
    have hp := List.pairwise_cons.1 h
    unfold putR
    by_cases h1 : y.k = x.k
    · rw [if_pos h1, findW_cons, findW_cons y r x.k, if_pos h1, findW_cons y r key]
      by_cases h2 : cmpW y x < 0
      · simp only [h2, if_true, laterO, h1, eq_comm]
        by_cases h3 : key = x.k <;> simp [h3]
      · simp only [h2, if_false, laterO, h1, eq_comm]
        by_cases h3 : key = x.k <;> simp [h3]
    · rw [if_neg h1]
      by_cases h2 : x.k < y.k
      · rw [if_pos h2, findW_cons]
        have hn : findW (y :: r) x.k = none := findW_past fun z hz => by
          rcases List.mem_cons.1 hz with e | hz
          · rw [e]; exact h2
          · have := hp.1 z hz; omega
        rw [hn]
        by_cases h3 : x.k = key
        · rw [if_pos h3, if_pos h3.symm]
          rfl
        · rw [if_neg h3, if_neg (fun e => h3 e.symm)]
      · rw [if_neg h2, findW_cons, find_putR r x key hp.2, findW_cons, if_neg h1, findW_cons]
        by_cases h3 : y.k = key
        · rw [if_pos h3, if_neg (by omega), if_pos h3]
        · rw [if_neg h3, if_neg h3]

theorem putR_mem : ∀ (ws : List Wr) (x z : Wr), z ∈ putR ws x → z = x ∨ z ∈ ws
  | [], x, z, h => by simpa [putR] using h
  | y :: r, x, z, h => by
    unfold putR at h
    by_cases h1 : y.k = x.k
    · rw [if_pos h1] at h
      by_cases h2 : cmpW y x < 0
      · rw [if_pos h2] at h
        rcases List.mem_cons.1 h with h | h
        · exact .inl h
        · exact .inr (by simp [h])
      · rw [if_neg h2] at h
        exact .inr h
    · rw [if_neg h1] at h
      by_cases h2 : x.k < y.k
      · rw [if_pos h2] at h
        rcases List.mem_cons.1 h with h | h
        · exact .inl h
        · exact .inr h
      · rw [if_neg h2] at h
        rcases List.mem_cons.1 h with h | h
        · exact .inr (by simp [h])
        · rcases putR_mem r x z h with h | h
          · exact .inl h
          · exact .inr (by simp [h])

theorem rise_putR : ∀ (ws : List Wr) (x : Wr), Rise ws → Rise (putR ws x)
  | [], x, _ => by simp [putR, Rise]
  | y :: r, x, h => by
    have hp := List.pairwise_cons.1 h
    unfold putR
    by_cases h1 : y.k = x.k
    · rw [if_pos h1]
      by_cases h2 : cmpW y x < 0
      · rw [if_pos h2]
        exact List.Pairwise.cons (fun z hz => by have := hp.1 z hz; omega) hp.2
      · rw [if_neg h2]
        exact h
    · rw [if_neg h1]
      by_cases h2 : x.k < y.k
      · rw [if_pos h2]
        refine List.Pairwise.cons (fun z hz => ?_) h
        rcases List.mem_cons.1 hz with e | hz
        · rw [e]; exact h2
        · have := hp.1 z hz; omega
      · rw [if_neg h2]
        refine List.Pairwise.cons (fun z hz => ?_) (rise_putR r x hp.2)
        rcases putR_mem r x z hz with e | hz
        · rw [e]; omega
        · exact hp.1 z hz

theorem rise_putW {ws : List Wr} (h : Rise ws) (x : Wr) : Rise (putW ws x) := by
  rw [putW_eq h]
  exact rise_putR ws x h

theorem putW_mem {ws : List Wr} (h : Rise ws) {x z : Wr} (hz : z ∈ putW ws x) : z = x ∨ z ∈ ws := by
  rw [putW_eq h] at hz
  exact putR_mem ws x z hz

theorem find_putW {ws : List Wr} (h : Rise ws) (x : Wr) (key : Int) : findW (putW ws x) key = if key = x.k then some (laterO (findW ws x.k) x) else findW ws key := by
  rw [putW_eq h]
  exact find_putR ws x key h

/-- What is told of six registers, in order. -/
def toldM (M : Int → Option Wr) : List Wr := [(0 : Int), 1, 2, 3, 4, 5].filterMap M

theorem filterMap_same {α β : Type} {f g : α → Option β} : ∀ {l : List α}, (∀ x ∈ l, f x = g x) → l.filterMap f = l.filterMap g
  | [], _ => rfl
  | x :: r, h => by rw [List.filterMap_cons, List.filterMap_cons, h x (by simp), filterMap_same fun y hy => h y (by simp [hy])]

theorem told_rise : ∀ (ks : List Int) (ws : List Wr), ks.Pairwise (· < ·) → Rise ws → (∀ x ∈ ws, x.k ∈ ks) → ks.filterMap (findW ws) = ws
  | [], [], _, _, _ => rfl
  | [], x :: r, _, _, h => by simpa using h x (by simp)
  | k :: ks, [], _, _, _ => by simp [findW, List.filterMap_eq_nil_iff]
  | k :: ks, x :: r, hk, hr, h => by
    have hpk := List.pairwise_cons.1 hk
    have hpr := List.pairwise_cons.1 hr
    by_cases e : x.k = k
    · rw [List.filterMap_cons, findW_cons, if_pos e]
      simp only
      have ih := told_rise ks r hpk.2 hpr.2 fun y hy => by
        have h1 := h y (by simp [hy])
        rcases List.mem_cons.1 h1 with h2 | h2
        · have := hpr.1 y hy; omega
        · exact h2
      congr 1
      refine (filterMap_same fun j hj => ?_).trans ih
      rw [findW_cons, if_neg (by have := hpk.1 j hj; omega)]
    · have hx : k < x.k := by
        have h1 := h x (by simp)
        rcases List.mem_cons.1 h1 with h2 | h2
        · exact absurd h2 e
        · exact hpk.1 _ h2
      have hn : findW (x :: r) k = none := findW_past fun z hz => by
        rcases List.mem_cons.1 hz with e | hz
        · rw [e]; exact hx
        · have := hpr.1 z hz; omega
      rw [List.filterMap_cons, hn]
      simp only
      refine told_rise ks (x :: r) hpk.2 hr fun y hy => ?_
      have h1 := h y hy
      rcases List.mem_cons.1 h1 with h2 | h2
      · rcases List.mem_cons.1 hy with e' | hy
        · rw [e'] at h2; exact absurd h2 e
        · have := hpr.1 y hy; omega
      · exact h2

theorem told_find {ws : List Wr} (hr : Rise ws) (hk : ∀ x ∈ ws, 0 ≤ x.k ∧ x.k ≤ 5) : toldM (findW ws) = ws := by
  refine told_rise _ ws (by decide) hr fun x hx => ?_
  have := hk x hx
  simp only [List.mem_cons, List.not_mem_nil, or_false]
  omega

/-- A write put to a register. -/
def regPut (M : Int → Option Wr) (x : Wr) : Int → Option Wr := fun key => if key = x.k then some (laterO (M x.k) x) else M key

def joinW (a b : List Wr) : List Wr := b.foldl putW a

theorem join_spec : ∀ (b a : List Wr), Rise a → Rise (joinW a b) ∧ (∀ z ∈ joinW a b, z ∈ a ∨ z ∈ b) ∧ ∀ key, findW (joinW a b) key = b.foldl regPut (findW a) key
  | [], a, h => ⟨h, fun _ hz => .inl hz, fun _ => rfl⟩
  | x :: b, a, h => by
    obtain ⟨h1, h2, h3⟩ := join_spec b (putW a x) (rise_putW h x)
    refine ⟨h1, fun z hz => ?_, fun key => ?_⟩
    · rcases h2 z hz with h4 | h4
      · rcases putW_mem h h4 with h5 | h5
        · exact .inr (by simp [h5])
        · exact .inl h5
      · exact .inr (by simp [h4])
    · have e : findW (putW a x) = regPut (findW a) x := funext fun key => find_putW h x key
      show findW (joinW (putW a x) b) key = _
      rw [h3 key, e]
      rfl

/-- A map's own writes, put one by one to empty registers, are the map. -/
theorem regs_self : ∀ (b a : List Wr), Rise (a ++ b) → b.foldl regPut (findW a) = findW (a ++ b)
  | [], a, _ => by simp
  | x :: b, a, h => by
    have h' : Rise (a ++ [x] ++ b) := by simpa using h
    have ha : ∀ y ∈ a, y.k < x.k := fun y hy => (List.pairwise_append.1 h).2.2 y hy x (by simp)
    have e : regPut (findW a) x = findW (a ++ [x]) := by
      funext key
      unfold regPut
      have hx : findW a x.k = none := by
        unfold findW
        rw [List.find?_eq_none]
        intro y hy
        have := ha y hy
        simp
        omega
      have hs : findW (a ++ [x]) key = (findW a key).or (findW [x] key) := by
        unfold findW
        rw [List.find?_append]
      rw [hs]
      by_cases hk : key = x.k
      · subst hk
        rw [if_pos rfl, hx, findW_cons, if_pos rfl]
        rfl
      · rw [if_neg hk, findW_cons, if_neg (fun e => hk e.symm)]
        cases findW a key <;> rfl
    show b.foldl regPut (regPut (findW a) x) = _
    rw [e, regs_self b (a ++ [x]) h']
    simp

theorem regs_map {a : List Wr} (h : Rise a) : a.foldl regPut (fun _ => none) = findW a := by
  have e : findW [] = fun _ => none := rfl
  have := regs_self a [] (by simpa using h)
  rw [e, List.nil_append] at this
  exact this

/-- What the registers tell at last is the join. -/
theorem told_join {a b : List Wr} (ha : Rise a) (ka : ∀ x ∈ a, 0 ≤ x.k ∧ x.k ≤ 5) (kb : ∀ x ∈ b, 0 ≤ x.k ∧ x.k ≤ 5) : toldM (b.foldl regPut (a.foldl regPut (fun _ => none))) = joinW a b := by
  obtain ⟨h1, h2, h3⟩ := join_spec b a ha
  have e : b.foldl regPut (a.foldl regPut (fun _ => none)) = findW (joinW a b) := by
    rw [regs_map ha]
    exact funext fun key => (h3 key).symm
  rw [e]
  exact told_find h1 fun x hx => by
    rcases h2 x hx with h | h
    · exact ka x h
    · exact kb x h

end Go.Proofs.YtidpcjcnhklmpalGreatDoor

/- Registers: a map whose keys are arrays of one number, told as a function from keys to writes. -/
namespace Go.Proofs.YtidpcjcnhklmpalGreatDoor
open Go.ChangeShapes Go.WideShapes Go.ChangeAt Go.RowKit Go.Joins Go.Maps

abbrev slotV (k : Int) : Value := .agg #[.int .i64 k]

def slotL (k : Int) : Lit := .string (keyBytes [.int .i64 k])

set_option maxRecDepth 100000 in
theorem slot_int : Tryz.prog.cellsOf 3 = 1 := by kernel_rfl

set_option maxRecDepth 100000 in
theorem zeroW (w : World) : (zeroValue 54).run Tryz.prog w = .ok (wrV 0 0 0 0 0 false none 0 0) w := by kernel_rfl

/-- An element is told by itself. -/
def asIs (v : Value) : Option (DataW Value × List MemPlace) := some (.held v, [])

end Go.Proofs.YtidpcjcnhklmpalGreatDoor

/- Contracts of the registers' put and putAll. -/
namespace Go.Proofs.YtidpcjcnhklmpalGreatDoor
open Go.ChangeShapes Go.WideShapes Go.ChangeAt Go.RowKit Go.Joins
attribute [local go_sem ↓] Go.wp_at_zero Go.wp_at_succ

set_option maxRecDepth 100000 in
theorem regPut_none {M : Int → Option Wr} {x : Wr} (h : M x.k = none) : regPut M x = fun j => if j = x.k then some x else M j := by
  funext j
  unfold regPut
  rw [h]
  rfl

set_option maxRecDepth 100000 in
theorem regPut_later {M : Int → Option Wr} {x y : Wr} (h : M x.k = some y) (hc : 0 < cmpW x y) : regPut M x = fun j => if j = x.k then some x else M j := by
  funext j
  unfold regPut
  rw [h]
  have : cmpW y x < 0 := by
    have := wcmp_neg x.k x.c x.s x.q x.v x.de x.xs y.k y.c y.s y.q y.v y.de y.xs
    unfold cmpW at *
    omega
  simp [laterO, this]

set_option maxRecDepth 100000 in
theorem regPut_same {M : Int → Option Wr} {x y : Wr} (h : M x.k = some y) (hc : ¬ 0 < cmpW x y) : regPut M x = M := by
  funext j
  unfold regPut
  have : ¬ cmpW y x < 0 := by
    have := wcmp_neg x.k x.c x.s x.q x.v x.de x.xs y.k y.c y.s y.q y.v y.de y.xs
    unfold cmpW at *
    omega
  by_cases e : j = x.k
  · rw [if_pos e, h, e, h]
    simp [laterO, this]
  · rw [if_neg e]

set_option maxRecDepth 100000 in
theorem foldl_take {α : Type} (f : α → Wr → α) (ws : List Wr) (s : α) (k : Nat) (h : k < ws.length) : (ws.take (k + 1)).foldl f s = f ((ws.take k).foldl f s) (ws.getD k wz) := by
  have e : ws.take (k + 1) = ws.take k ++ [ws.getD k wz] := by
    rw [List.take_add_one, List.getElem?_eq_getElem h]
    simp [List.getD, h]
  rw [e, List.foldl_append]
  rfl

end Go.Proofs.YtidpcjcnhklmpalGreatDoor

/- The contract of the registers' told. -/
namespace Go.Proofs.YtidpcjcnhklmpalGreatDoor
open Go.ChangeShapes Go.WideShapes Go.ChangeAt Go.RowKit Go.Joins
attribute [local go_sem ↓] Go.wp_at_zero Go.wp_at_succ

def toldTo (M : Int → Option Wr) (k : Nat) : List Wr := (List.range k).filterMap fun (j : Nat) => M (j : Int)

set_option maxRecDepth 100000 in
theorem toldTo_none {M : Int → Option Wr} {k : Nat} (h : M (k : Int) = none) : toldTo M (k + 1) = toldTo M k := by
  unfold toldTo
  rw [List.range_succ, List.filterMap_append]
  simp [h]

set_option maxRecDepth 100000 in
theorem toldTo_some {M : Int → Option Wr} {k : Nat} {x : Wr} (h : M (k : Int) = some x) : toldTo M (k + 1) = toldTo M k ++ [x] := by
  unfold toldTo
  rw [List.range_succ, List.filterMap_append]
  simp [h]

set_option maxRecDepth 100000 in
theorem toldTo_six (M : Int → Option Wr) : toldTo M 6 = toldM M := by
  rfl

set_option maxRecDepth 100000 in
theorem toldTo_len (M : Int → Option Wr) (k : Nat) : (toldTo M k).length ≤ k := by
  unfold toldTo
  have := List.length_filterMap_le (fun j : Nat => M (j : Int)) (List.range k)
  simpa using this

end Go.Proofs.YtidpcjcnhklmpalGreatDoor

/- Contracts of the specification's l02Join, MapJoin, MapPut. -/
namespace Go.Proofs.YtidpcjcnhklmpalGreatDoor
open Go.ChangeShapes Go.WideShapes Go.ChangeAt Go.RowKit Go.Joins
attribute [local go_sem ↓] Go.wp_at_zero Go.wp_at_succ

theorem join_few : ∀ (vs us : List Wr), Few us → Few vs → Few (joinW us vs)
  | [], us, h, _ => h
  | x :: r, us, h, h' => by
    rw [few_iff] at h'
    exact join_few r (putW us x) (put_few h (h' x (by simp))) (few_iff.2 fun z hz => h' z (by simp [hz]))

theorem few_take {ws : List Wr} (h : Few ws) (k : Nat) : Few (ws.take k) := by
  rw [few_iff] at *
  exact fun x hx => h x (List.mem_of_mem_take hx)

end Go.Proofs.YtidpcjcnhklmpalGreatDoor

/- Lists of batches: what a slice of batches leads to; the contracts of eqBatch, eqBatchS; spec.Replay. -/
namespace Go.Proofs.YtidpcjcnhklmpalGreatDoor
open Go.ChangeShapes Go.WideShapes Go.ChangeAt Go.RowKit Go.Joins
attribute [local go_sem ↓] Go.wp_at_zero Go.wp_at_succ

/-- What a slice of batches leads to. -/
def IsBs (w : World) (a : Option Addr) (bs : List (List Wr)) : Prop :=
  bs = [] ∨ ∃ b o, a = some ⟨b, o, none⟩ ∧ b < w.heap.size ∧ ∀ i, i < bs.length → ∃ a' cap, w.cell? ⟨b, o + i, none⟩ = some (.slice a' (bs.getD i []).length cap) ∧ IsWs w a' (bs.getD i [])

set_option maxRecDepth 100000 in
theorem IsBs.below {w w' : World} {a : Option Addr} {bs : List (List Wr)} (h : IsBs w a bs) (hb : Below w.heap.size w w') : IsBs w' a bs := by
  rcases h with h | ⟨b, o, ha, hlt, hh⟩
  · exact .inl h
  · refine .inr ⟨b, o, ha, Nat.lt_of_lt_of_le hlt hb.size, fun i hi => ?_⟩
    obtain ⟨a', cap, hc, hw⟩ := hh i hi
    exact ⟨a', cap, (hb.cell (p := ⟨b, o + i, none⟩) hlt).trans hc, hw.below hb⟩

set_option maxRecDepth 100000 in
theorem IsBs.at {w w' : World} {a : Option Addr} {bs : List (List Wr)} (h : IsBs w a bs) (hb : Below w.heap.size w w') {k : Nat} (hk : k < bs.length) : ∃ b o a' cap, a = some ⟨b, o, none⟩ ∧ b < w'.heap.size ∧ w'.cell? ⟨b, o + k, none⟩ = some (.slice a' (bs.getD k []).length cap) ∧ IsWs w' a' (bs.getD k []) := by
  rcases h.below hb with h | ⟨b, o, ha, hlt, hh⟩
  · subst h
    simp at hk
  · obtain ⟨a', cap, hc, hw⟩ := hh k hk
    exact ⟨b, o, a', cap, ha, hlt, hc, hw⟩

/-- All batches have few writes, each with few dependencies. -/
def FewB (bs : List (List Wr)) : Prop := ∀ i, i < bs.length → (bs.getD i []).length ≤ 1048576 ∧ Few (bs.getD i [])

set_option maxRecDepth 100000 in
set_option maxHeartbeats 2000000 in
theorem eqBatch_same (a a' : Option Addr) (n cap cap' : Nat) (ws : List Wr) (w : World) (hn : ws.length = n) (hm : n ≤ 1048576) (hx : Few ws) (h : IsWs w a ws) (h' : IsWs w a' ws) :
    Calls Tryz.prog 12 #[.agg #[.slice a n cap], .agg #[.slice a' n cap']] w fun e w' => e = .returned (.bool true) ∧ Below w.heap.size w w' := by
  have HB : Hid (Below w.heap.size w ((w.alloc (.cells #[.slice a n cap] 30)).alloc (.cells #[.slice a' n cap'] 30))) := ((Below.refl _ _).alloc (Nat.le_refl _) _).alloc (by simp) _
  have H := Lib.hid h
  have H' := Lib.hid h'
  have HN := Lib.hid hn
  have HX := Lib.hid hx
  clear h h' hn hx
  go_enter Tryz.func12, Tryz.ntmps12
  go_wp2_with fail
  refine (eqWriteS_gen _ _ n _ _ ws _ HN.out hm HX.out (H.out.below HB.out) (H'.out.below HB.out)).mono ?_
  rintro e w1 ⟨rfl, hb⟩
  have HB1 : Hid (Below w.heap.size w w1) := below_step HB.out HB.out.size hb
  clear hb
  go_wp2
  go_ret
  exact ⟨rfl, HB1.out⟩

set_option maxRecDepth 100000 in
set_option maxHeartbeats 2000000 in
theorem eqBatchS_same (a a' : Option Addr) (n cap cap' : Nat) (bs : List (List Wr)) (w : World) (hn : bs.length = n) (hm : n ≤ 1048576) (hx : FewB bs) (h : IsBs w a bs) (h' : IsBs w a' bs) :
    Calls Tryz.prog 6 #[.slice a n cap, .slice a' n cap'] w fun e w' => e = .returned (.bool true) ∧ Below w.heap.size w w' := by
  have H := Lib.hid h
  have H' := Lib.hid h'
  have HN := Lib.hid hn
  have HX := Lib.hid hx
  clear h h' hn hx
  go_enter Tryz.func6, Tryz.ntmps6
  go_wp2
  go_loopw [5] (fun i wr => ∃ k : Nat, k ≤ n ∧ i = .int .i64 k ∧ Hid (Below w.heap.size w wr)) (fun i _ => n - (intOf i).toNat)
  case atStart => exact ⟨0, Nat.zero_le _, rfl, Below.refl _ _⟩
  case round =>
    obtain ⟨k, hk, rfl, HB⟩ := hrel
    by_cases hk' : k < n
    · have hkk : k < bs.length := by rw [HN.out]; exact hk'
      have i1 : (0 : Int) ≤ (k : Int) := by omega
      have i2 : (k : Int) < (n : Int) := by omega
      obtain ⟨b, o, ad, cp, rfl, hz, e0, hw⟩ := H.out.at HB.out hkk
      obtain ⟨b', o', ad', cp', rfl, hz', f0, hw'⟩ := H'.out.at HB.out hkk
      obtain ⟨hl, hf⟩ := HX.out k hkk
      have HC : Hid (∀ W, Below wr.heap.size wr W → Calls Tryz.prog 12 #[.agg #[.slice ad (bs.getD k []).length cp], .agg #[.slice ad' (bs.getD k []).length cp']] W fun e w' => e = .returned (.bool true) ∧ Below W.heap.size W w') := fun W hW => eqBatch_same _ _ _ _ _ (bs.getD k []) W rfl hl hf (hw.below hW) (hw'.below hW)
      have HE : Hid (∀ W, Below wr.heap.size wr W → W.cell? ⟨b, o + k, none⟩ = some (.slice ad (bs.getD k []).length cp) ∧ W.cell? ⟨b', o' + k, none⟩ = some (.slice ad' (bs.getD k []).length cp')) := fun W hW => ⟨(hW.cell (p := ⟨b, o + k, none⟩) hz).trans e0, (hW.cell (p := ⟨b', o' + k, none⟩) hz').trans f0⟩
      clear hw hw' e0 f0 hf
      generalize (bs.getD k []).length = q at *
      go_wp2_with fail
      refine wp_region_slots 10 [[(0, false)], [(5, false)], [(17, true), (18, true)], [(19, true)], [(1, false)], [(5, false)], [(21, true), (22, true)], [(23, true)], [(20, true), (24, true)], [(25, true)]] (fun w' => Below wr.heap.size wr w') (fun w w' => Below w.heap.size w w') (by kernel_rfl) (by kernel_rfl) (by rfl) ((Below.refl _ _).drew) (fun _ _ h hb => below_step h h.size hb) ?_
      iterate 8 (apply slot_eq; · (intro ρ w' ⟨p1, p2, p3⟩ hbl hn; obtain ⟨c1, c2⟩ := HE.out w' hbl; simp at hn; go_simp; exact ⟨Below.refl _ _, rfl⟩))
      apply slot_eq
      · intro ρ w' ⟨p1, p2, p3⟩ hbl hn
        simp at hn
        obtain ⟨e1, e2⟩ := hn
        go_simp
        exact got_call (HC.out w' hbl) fun e w'' ⟨he, hb⟩ => ⟨_, he, hb, rfl⟩
      apply slot_eq
      · intro ρ w' ⟨p1, p2, p3⟩ hbl hn
        simp at hn
        go_simp
        exact ⟨Below.refl _ _, rfl⟩
      refine slot_end ?_
      intro vs w3 hS hF
      simp at hF
      obtain ⟨h26, -⟩ := hF
      have HB3 := Lib.hid (below_step HB.out HB.out.size hS)
      clear hS
      simp only [List.take_succ_cons, List.take_zero, List.drop_succ_cons, List.drop_zero, putAll, h26]
      clear h26
      simp only [Act.put, List.setIfInBounds_toArray, List.set_cons_succ, List.set_cons_zero]
      go_wp2
      exact ⟨⟨k + 1, by omega, by go_num, HB3⟩, by simp [intOf]; omega⟩
    · have hkk : k = n := by omega
      subst hkk
      go_wp2
      go_ret
      exact ⟨rfl, HB.out⟩

end Go.Proofs.YtidpcjcnhklmpalGreatDoor

/- Lists of writes that a call answers, or that are handed to one: marks on them, and what marks leave alone. -/
namespace Go.Proofs.YtidpcjcnhklmpalGreatDoor
open Go.ChangeShapes Go.WideShapes Go.ChangeAt Go.RowKit Go.Joins
attribute [local go_sem ↓] Go.wp_at_zero Go.wp_at_succ

/-- What was written lies in these blocks. -/
abbrev Span (lo hi : Nat) (x : Nat) : Prop := lo ≤ x ∧ x < hi

/-- A list of writes of one's own, between two block numbers; it may be nil where it is empty. -/
def OwnA (w : World) (lo hi : Nat) (a : Option Addr) (ws : List Wr) (γ : Nat → Nat) : Prop :=
  ws = [] ∨ ∃ b, a = some ⟨b, 0, none⟩ ∧ OwnG w lo b ws γ ∧ b < hi ∧ ∀ i, i < ws.length → 0 < (ws.getD i wz).xs.length → γ i < hi

theorem OwnG.ownA {w : World} {lo b : Nat} {ws : List Wr} {γ : Nat → Nat} (h : OwnG w lo b ws γ) : OwnA w lo w.heap.size (some ⟨b, 0, none⟩) ws γ :=
  .inr ⟨b, rfl, h, h.lt, fun i hi hp => (h.deps i hi hp).2.1⟩

theorem RowG.ownA {w : World} {base : Nat} {v : Value} {es : List EnG} (h : RowG w base v es) {ws : List Wr} (hw : es.map (·.x) = ws) : ∃ a cap n, v = .slice a n cap ∧ ws.length = n ∧ OwnA w base w.heap.size a ws (gammaG es) := by
  obtain ⟨a, cap, h1, h2⟩ := h.form
  subst hw
  refine ⟨a, cap, es.length, h1, by simp, ?_⟩
  rcases h2 with h2 | ⟨b, rfl, h2⟩
  · exact .inl (by simp [h2])
  · exact h2.ownA

theorem OwnA.below {w w' : World} {lo hi : Nat} {a : Option Addr} {ws : List Wr} {γ : Nat → Nat} (h : OwnA w lo hi a ws γ) (hb : Below w.heap.size w w') : OwnA w' lo hi a ws γ := by
  rcases h with h | ⟨b, h1, h2, h3⟩
  · exact .inl h
  · exact .inr ⟨b, h1, h2.below hb, h3⟩

theorem OwnG.only {w w' : World} {S : Nat → Prop} {base b : Nat} {ws : List Wr} {γ : Nat → Nat} (h : OwnG w base b ws γ) (ho : Only S w w') (hS : ∀ x, S x → x < base) : OwnG w' base b ws γ where
  lt := by rw [ho.size]; exact h.lt
  le := h.le
  open_ := fun o => (ho.frozen _).trans (h.open_ o)
  at_ := fun i hi => by
    obtain ⟨a, cap, h1, h2⟩ := h.at_ i hi
    exact ⟨a, cap, h1.of_block (ho.block b fun e => by have := hS b e; have := h.le; omega), h2⟩
  deps := fun i hi hp => by
    obtain ⟨h1, h2, h3, h4, h5⟩ := h.deps i hi hp
    have hb : w'.heap[γ i]? = w.heap[γ i]? := ho.block _ fun e => by have := hS _ e; omega
    have e' : ∀ o, w'.cell? ⟨γ i, o, none⟩ = w.cell? ⟨γ i, o, none⟩ := fun o => World.cell?_of_block (a := ⟨γ i, o, none⟩) hb
    exact ⟨h1, by rw [ho.size]; exact h2, h3, fun j hj => ⟨(e' _).trans (h4 j hj).1, (e' _).trans (h4 j hj).2.1, (e' _).trans (h4 j hj).2.2.1, (e' _).trans (h4 j hj).2.2.2⟩, fun o => (ho.frozen _).trans (h5 o)⟩
  inj := h.inj

theorem OwnA.only {w w' : World} {S : Nat → Prop} {lo hi : Nat} {a : Option Addr} {ws : List Wr} {γ : Nat → Nat} (h : OwnA w lo hi a ws γ) (ho : Only S w w') (hS : ∀ x, S x → x < lo) : OwnA w' lo hi a ws γ := by
  rcases h with h | ⟨b, h1, h2, h3⟩
  · exact .inl h
  · exact .inr ⟨b, h1, h2.only ho hS, h3⟩

theorem OwnA.isWs {w : World} {lo hi : Nat} {a : Option Addr} {ws : List Wr} {γ : Nat → Nat} (h : OwnA w lo hi a ws γ) (hx : Few ws) : IsWs w a ws := by
  rcases h with h | ⟨b, h1, h2, _⟩
  · exact .inl h
  · rw [h1]
    exact h2.isWs hx

/-- A list that is marked. -/
def MarkedA (w : World) (a : Option Addr) (ws : List Wr) (γ : Nat → Nat) (k : Int) : Prop :=
  ws = [] ∨ ∃ b, a = some ⟨b, 0, none⟩ ∧ MarkedWs w b ws γ k ∧ b < w.heap.size ∧ ∀ i, i < ws.length → 0 < (ws.getD i wz).xs.length → γ i < w.heap.size

theorem MarkedA.below {w w' : World} {a : Option Addr} {ws : List Wr} {γ : Nat → Nat} {k : Int} (h : MarkedA w a ws γ k) (hb : Below w.heap.size w w') : MarkedA w' a ws γ k := by
  rcases h with h | ⟨b, h1, h2, h3, h4⟩
  · exact .inl h
  · exact .inr ⟨b, h1, h2.below hb h3 h4, Nat.lt_of_lt_of_le h3 hb.size, fun i hi hp => Nat.lt_of_lt_of_le (h4 i hi hp) hb.size⟩

set_option maxHeartbeats 1000000 in
theorem markWriteS_nil (a : Option Addr) (cap : Nat) (k : Int) (w : World) :
    Calls Tryz.prog 13 #[.slice a 0 cap, .int .i64 k] w fun e w' => e = .returned (.int .i64 k) ∧ w' = w := by
  go_enter Tryz.func13, Tryz.ntmps13
  go_wp2
  go_loopw [1, 5] (fun l i wr => i = .int .i64 0 ∧ l = .int .i64 k ∧ wr = w) (fun _ _ _ => 0)
  case atStart => exact ⟨rfl, rfl, rfl⟩
  case round =>
    obtain ⟨rfl, rfl, rfl⟩ := hrel
    go_wp2
    go_ret
    exact ⟨rfl, rfl⟩

set_option maxHeartbeats 1000000 in
theorem heldWriteS_nil (a : Option Addr) (cap : Nat) (k : Int) (w : World) :
    Calls Tryz.prog 14 #[.slice a 0 cap, .int .i64 k] w fun e w' => e = .returned (.int .i64 k) ∧ w' = w := by
  go_enter Tryz.func14, Tryz.ntmps14
  go_wp2
  go_loopw [1, 5] (fun l i wr => i = .int .i64 0 ∧ l = .int .i64 k ∧ wr = w) (fun _ _ _ => 0)
  case atStart => exact ⟨rfl, rfl, rfl⟩
  case round =>
    obtain ⟨rfl, rfl, rfl⟩ := hrel
    go_wp2
    go_ret
    exact ⟨rfl, rfl⟩

theorem markWriteS_all (lo hi n cap : Nat) (a : Option Addr) (k : Int) (ws : List Wr) (γ : Nat → Nat) (w : World) (hn : ws.length = n) (hm : n ≤ 1048576) (hbk : bulk ws ≤ 1048576) (h0 : 0 ≤ k) (h1 : k ≤ 1073741824) (h : OwnA w lo hi a ws γ) :
    Calls Tryz.prog 13 #[.slice a n cap, .int .i64 k] w fun e w' => e = .returned (.int .i64 (markK ws k n)) ∧ MarkedA w' a ws γ k ∧ Only (Span lo hi) w w' := by
  rcases h with h | ⟨b, rfl, h2, h3, h4⟩
  · subst h
    have hn0 : n = 0 := by rw [← hn]; rfl
    subst hn0
    refine (markWriteS_nil a cap k w).mono ?_
    rintro e w' ⟨rfl, rfl⟩
    exact ⟨by rw [markK_zero], .inl rfl, Only.refl _ _⟩
  · refine (markWriteS_any lo b n cap k ws γ w hn hm hbk h0 h1 h2).mono ?_
    rintro e w' ⟨rfl, h5, h6⟩
    have hS : ∀ x, TakenUp b ws γ x → Span lo hi x := fun x hx => by
      rcases hx with rfl | ⟨i, hi, hp, rfl⟩
      · exact ⟨h2.le, h3⟩
      · exact ⟨(h2.deps i hi hp).1, h4 i hi hp⟩
    refine ⟨rfl, .inr ⟨b, rfl, h5, by rw [h6.size]; exact h2.lt, fun i hi hp => by rw [h6.size]; exact (h2.deps i hi hp).2.1⟩, ?_⟩
    exact ⟨h6.os, h6.tape, h6.output, h6.size, fun x hx => h6.block x fun e => hx (hS x e), h6.frozen⟩

theorem heldWriteS_all (n cap : Nat) (a : Option Addr) (k : Int) (ws : List Wr) (γ : Nat → Nat) (w : World) (hn : ws.length = n) (hm : n ≤ 1048576) (hbk : bulk ws ≤ 1048576) (h0 : 0 ≤ k) (h1 : k ≤ 1073741824) (h : MarkedA w a ws γ k) :
    Calls Tryz.prog 14 #[.slice a n cap, .int .i64 k] w fun e w' => e = .returned (.int .i64 (markK ws k n)) ∧ w' = w := by
  rcases h with h | ⟨b, rfl, h2, _⟩
  · subst h
    have hn0 : n = 0 := by rw [← hn]; rfl
    subst hn0
    rw [markK_zero]
    exact heldWriteS_nil a cap k w
  · exact heldWriteS_any b n cap k ws γ w hn hm hbk h0 h1 h2

/-- The keys of dependencies that are right rise from 0 on: there are at most six. -/
theorem depsOk_len {xs : List Dp} (h : depsOkB xs = true) : xs.length ≤ 6 := by
  unfold depsOkB at h
  rw [List.all_eq_true] at h
  have hg : ∀ i, i < xs.length → (i : Int) ≤ (xs.getD i dz).k ∧ (xs.getD i dz).k ≤ 5 := by
    intro i
    induction i with
    | zero =>
      intro hi
      have := h 0 (List.mem_range.2 hi)
      unfold depGood btw at this
      simp only [Bool.and_eq_true, decide_eq_true_eq] at this
      exact ⟨by have := this.1.1; omega, this.1.2⟩
    | succ i ih =>
      intro hi
      have h1 := ih (by omega)
      have := h (i + 1) (List.mem_range.2 hi)
      unfold depGood btw at this
      simp only [Bool.and_eq_true, decide_eq_true_eq] at this
      rcases this.2.2 with h2 | h2
      · omega
      · rw [show i + 1 - 1 = i from rfl] at h2
        exact ⟨by omega, this.1.2⟩
  by_cases h7 : xs.length ≤ 6
  · exact h7
  · have := hg 6 (by omega)
    omega

theorem okW_len {x : Wr} (h : okW x = true) : x.xs.length ≤ 6 := by
  unfold okW writeOkB at h
  simp only [Bool.and_eq_true] at h
  exact depsOk_len h.2.2.2.1

theorem bulk_le {ws : List Wr} {m : Nat} (h : ∀ x ∈ ws, x.xs.length ≤ m) : bulk ws ≤ ws.length * m := by
  induction ws with
  | nil => simp [bulk]
  | cons x r ih =>
    have h1 := h x (by simp)
    have h2 := ih fun y hy => h y (by simp [hy])
    simp only [bulk, List.length_cons]
    rw [Nat.add_mul]
    omega

end Go.Proofs.YtidpcjcnhklmpalGreatDoor

/- Contracts of impl.MapJoin and impl.MapPut. -/
namespace Go.Proofs.YtidpcjcnhklmpalGreatDoor
open Go.ChangeShapes Go.WideShapes Go.ChangeAt Go.RowKit Go.Joins
attribute [local go_sem ↓] Go.wp_at_zero Go.wp_at_succ

def joinB (us vs : List Wr) : List Wr := if mapOkB us = true ∧ mapOkB vs = true then joinW us vs else []

set_option maxRecDepth 100000 in
theorem joinB_not {us vs : List Wr} (h : mapOkB us = false ∨ mapOkB vs = false) : joinB us vs = [] := by
  unfold joinB
  refine if_neg fun h' => ?_
  rcases h with h | h
  · rw [h'.1] at h; cases h
  · rw [h'.2] at h; cases h

set_option maxRecDepth 100000 in
theorem mapOk_keys {ws : List Wr} (h : mapOkB ws = true) : ∀ x ∈ ws, 0 ≤ x.k ∧ x.k ≤ 5 := fun x hx => okW_key (((mapOk_iff ws).1 h).1 x hx)

set_option maxRecDepth 100000 in
theorem mapOk_keys' {ws : List Wr} (h : mapOkB ws = true) : ∀ i, i < ws.length → 0 ≤ (ws.getD i wz).k ∧ (ws.getD i wz).k ≤ 5 := fun i hi => mapOk_keys h _ (by simp [List.getD, hi])

set_option maxRecDepth 100000 in
theorem joinB_told {us vs : List Wr} (ha : mapOkB us = true) (hb : mapOkB vs = true) : toldM (vs.foldl regPut (us.foldl regPut (fun _ => none))) = joinB us vs := by
  unfold joinB
  rw [if_pos ⟨ha, hb⟩]
  exact told_join ((mapOk_iff us).1 ha).2 (mapOk_keys ha) (mapOk_keys hb)

set_option maxRecDepth 100000 in
theorem mapOk_one (x : Wr) : mapOkB [x] = okW x := by
  simp [mapOkB, wrGood, List.range, List.range.loop]

set_option maxRecDepth 100000 in
theorem joinB_one (ws : List Wr) (x : Wr) : joinB ws [x] = if mapOkB ws = true ∧ okW x = true then putW ws x else [] := by
  unfold joinB
  rw [mapOk_one]
  rfl

end Go.Proofs.YtidpcjcnhklmpalGreatDoor

/- Contracts of the specification's MapJoin and MapPut. -/
namespace Go.Proofs.YtidpcjcnhklmpalGreatDoor
open Go.ChangeShapes Go.WideShapes Go.ChangeAt Go.RowKit Go.Joins
attribute [local go_sem ↓] Go.wp_at_zero Go.wp_at_succ

/-- What the specification answers: a list of writes of its own. -/
def AnsS (w w' : World) (e : Ending) (ws : List Wr) : Prop := ∃ g cp es L, e = .returned (.slice (some ⟨g, 0, none⟩) L cp) ∧ es.length = L ∧ es.map (·.x) = ws ∧ RowEs w' w.heap.size g cp es ∧ Below w.heap.size w w'

theorem specWriteOk_is (x : Wr) (r : Bool) (h : okW x = r) (a : Option Addr) (cap : Nat) (w : World) (hn : x.xs.length ≤ 1048576) (hh : IsDeps w a x.xs) :
    Calls Tryz.prog 39 #[wrOf x a cap] w fun e w' => e = .returned (.bool r) ∧ Below w.heap.size w w' := by
  subst h
  exact specWriteOk_gen _ _ _ _ _ _ a x.xs _ cap w rfl hn hh

end Go.Proofs.YtidpcjcnhklmpalGreatDoor

/- How much a join is. -/
namespace Go.Proofs.YtidpcjcnhklmpalGreatDoor
open Go.ChangeShapes Go.WideShapes Go.ChangeAt Go.RowKit Go.Joins

theorem joinB_ok (us vs : List Wr) : ∀ x ∈ joinB us vs, okW x = true := by
  intro x hx
  unfold joinB at hx
  split at hx
  · rename_i h
    obtain ⟨_, h2, _⟩ := join_spec vs us ((mapOk_iff us).1 h.1).2
    rcases h2 x hx with h3 | h3
    · exact ((mapOk_iff us).1 h.1).1 x h3
    · exact ((mapOk_iff vs).1 h.2).1 x h3
  · simp at hx

theorem joinB_rise (us vs : List Wr) : Rise (joinB us vs) := by
  unfold joinB
  split
  · rename_i h
    exact (join_spec vs us ((mapOk_iff us).1 h.1).2).1
  · exact List.Pairwise.nil

theorem joinB_mapOk (us vs : List Wr) : mapOkB (joinB us vs) = true := (mapOk_iff _).2 ⟨joinB_ok us vs, joinB_rise us vs⟩

theorem mapOk_len {ws : List Wr} (h : mapOkB ws = true) : ws.length ≤ 6 := by
  have e := told_find ((mapOk_iff ws).1 h).2 (mapOk_keys h)
  rw [← e, ← toldTo_six]
  exact toldTo_len _ 6

theorem mapOk_bulk {ws : List Wr} (h : mapOkB ws = true) : bulk ws ≤ 36 := by
  have h1 := bulk_le (m := 6) fun x hx => okW_len (((mapOk_iff ws).1 h).1 x hx)
  have h2 := mapOk_len h
  omega

theorem joinB_bulk (us vs : List Wr) : bulk (joinB us vs) ≤ 36 := mapOk_bulk (joinB_mapOk us vs)

theorem joinB_len (us vs : List Wr) : (joinB us vs).length ≤ 6 := mapOk_len (joinB_mapOk us vs)

theorem joinB_few (us vs : List Wr) : Few (joinB us vs) := few_of_bulk (by have := joinB_bulk us vs; omega)

/-- The specification's answer, as a list. -/
theorem RowEs.isWs {w : World} {base g cap : Nat} {es : List En} (h : RowEs w base g cap es) {ws : List Wr} (hw : es.map (·.x) = ws) (hx : Few ws) : IsWs w (some ⟨g, 0, none⟩) ws := (h.holds hw).isWs hx

end Go.Proofs.YtidpcjcnhklmpalGreatDoor

/- Batches of one's own, marked: the contracts of markBatchS and heldBatchS. -/
namespace Go.Proofs.YtidpcjcnhklmpalGreatDoor
open Go.ChangeShapes Go.WideShapes Go.ChangeAt Go.RowKit Go.Joins
attribute [local go_sem ↓] Go.wp_at_zero Go.wp_at_succ

/-- A batch: its writes, where they are said to lie, their room, between which block numbers, and where their dependencies lie. -/
structure Bat where
  ws : List Wr
  a : Option Addr
  cap : Nat
  lo : Nat
  hi : Nat
  γ : Nat → Nat

def btz : Bat := ⟨[], none, 0, 0, 0, fun _ => 0⟩

def batV (e : Bat) : Value := .slice e.a e.ws.length e.cap

def BatsAt (w : World) (b : Nat) (es : List Bat) : Prop := ∀ i, i < es.length → w.cell? ⟨b, i, none⟩ = some (batV (es.getD i btz))

/-- Batches of one's own: a row, and each batch's memory apart from the row and from the others'. -/
def OwnB (w : World) (lo hi : Nat) (a : Option Addr) (es : List Bat) : Prop :=
  es = [] ∨ ∃ b, a = some ⟨b, 0, none⟩ ∧ lo ≤ b ∧ b < hi ∧ b < w.heap.size ∧ BatsAt w b es ∧ (∀ i, i < es.length → lo ≤ (es.getD i btz).lo ∧ (es.getD i btz).hi ≤ hi ∧ (b < (es.getD i btz).lo ∨ (es.getD i btz).hi ≤ b) ∧ OwnA w (es.getD i btz).lo (es.getD i btz).hi (es.getD i btz).a (es.getD i btz).ws (es.getD i btz).γ) ∧ ∀ i j, i < j → j < es.length → (es.getD i btz).hi ≤ (es.getD j btz).lo

set_option maxRecDepth 100000 in
theorem BatsAt.of_block {w w' : World} {b : Nat} {es : List Bat} (h : BatsAt w b es) (hb : w'.heap[b]? = w.heap[b]?) : BatsAt w' b es := fun i hi => (World.cell?_of_block (a := ⟨b, i, none⟩) hb).trans (h i hi)

set_option maxRecDepth 100000 in
theorem OwnB.below {w w' : World} {lo hi : Nat} {a : Option Addr} {es : List Bat} (h : OwnB w lo hi a es) (hb : Below w.heap.size w w') : OwnB w' lo hi a es := by
  rcases h with h | ⟨b, h1, h2, h3, h4, h5, h6, h7⟩
  · exact .inl h
  · exact .inr ⟨b, h1, h2, h3, Nat.lt_of_lt_of_le h4 hb.size, h5.of_block (hb.block b h4), fun i hi => ⟨(h6 i hi).1, (h6 i hi).2.1, (h6 i hi).2.2.1, (h6 i hi).2.2.2.below hb⟩, h7⟩

set_option maxRecDepth 100000 in
theorem OwnB.only {w w' : World} {S : Nat → Prop} {lo hi : Nat} {a : Option Addr} {es : List Bat} (h : OwnB w lo hi a es) (ho : Only S w w') (hS : ∀ x, S x → x < lo) : OwnB w' lo hi a es := by
  rcases h with h | ⟨b, h1, h2, h3, h4, h5, h6, h7⟩
  · exact .inl h
  · exact .inr ⟨b, h1, h2, h3, by rw [ho.size]; exact h4, h5.of_block (ho.block b fun e => by have := hS b e; omega), fun i hi => ⟨(h6 i hi).1, (h6 i hi).2.1, (h6 i hi).2.2.1, (h6 i hi).2.2.2.only ho fun x hx => by have := hS x hx; have := (h6 i hi).1; omega⟩, h7⟩

def batsOf (es : List Bat) : List (List Wr) := es.map (·.ws)

set_option maxRecDepth 100000 in
theorem batsOf_get (es : List Bat) {i : Nat} (h : i < es.length) : (batsOf es).getD i [] = (es.getD i btz).ws := by
  simp [batsOf, List.getD, h]

set_option maxRecDepth 100000 in
theorem OwnB.isBs {w : World} {lo hi : Nat} {a : Option Addr} {es : List Bat} (h : OwnB w lo hi a es) (hx : FewB (batsOf es)) : IsBs w a (batsOf es) := by
  rcases h with h | ⟨b, h1, h2, h3, h4, h5, h6, h7⟩
  · exact .inl (by rw [h]; rfl)
  · refine .inr ⟨b, 0, h1, h4, fun i hi => ?_⟩
    have hi' : i < es.length := by simpa [batsOf] using hi
    have hf := (hx i hi).2
    rw [batsOf_get es hi'] at hf ⊢
    exact ⟨_, _, by rw [Nat.zero_add]; exact h5 i hi', (h6 i hi').2.2.2.isWs hf⟩

/-- How far the marks have come behind these batches. -/
def markKB (es : List Bat) (k : Int) : Int := es.foldl (fun k e => markK e.ws k e.ws.length) k

set_option maxRecDepth 100000 in
theorem markKB_take (es : List Bat) (k : Int) {i : Nat} (h : i < es.length) : markKB (es.take (i + 1)) k = markK (es.getD i btz).ws (markKB (es.take i) k) (es.getD i btz).ws.length := by
  unfold markKB
  have e : es.take (i + 1) = es.take i ++ [es.getD i btz] := by
    rw [List.take_add_one, List.getElem?_eq_getElem h]
    simp [List.getD, h]
  rw [e, List.foldl_append]
  rfl

/-- All that is marked stays within bounds. -/
def TameB (es : List Bat) (k : Int) : Prop := (∀ i, i < es.length → (es.getD i btz).ws.length ≤ 1048576 ∧ bulk (es.getD i btz).ws ≤ 1048576) ∧ ∀ i, i ≤ es.length → 0 ≤ markKB (es.take i) k ∧ markKB (es.take i) k ≤ 1073741824

/-- A batch that is marked, its memory between two block numbers. -/
def MarkedS (w : World) (e : Bat) (k : Int) : Prop := MarkedA w e.a e.ws e.γ k ∧ (e.ws = [] ∨ ∃ b, e.a = some ⟨b, 0, none⟩ ∧ e.lo ≤ b ∧ b < e.hi ∧ ∀ i, i < e.ws.length → 0 < (e.ws.getD i wz).xs.length → e.lo ≤ e.γ i ∧ e.γ i < e.hi)

set_option maxRecDepth 100000 in
theorem MarkedWs.of_blocks {w w' : World} {b : Nat} {ws : List Wr} {γ : Nat → Nat} {k : Int} (h : MarkedWs w b ws γ k) (hb : w'.heap[b]? = w.heap[b]?) (h2 : ∀ i, i < ws.length → 0 < (ws.getD i wz).xs.length → w'.heap[γ i]? = w.heap[γ i]?) : MarkedWs w' b ws γ k := by
  intro i hi
  obtain ⟨⟨e0, e1, e2, e3, e4, e5, a, cp, e6, e7⟩, hd⟩ := h i hi
  have c : ∀ o, w'.cell? ⟨b, o, none⟩ = w.cell? ⟨b, o, none⟩ := fun o => World.cell?_of_block (a := ⟨b, o, none⟩) hb
  exact ⟨⟨(c _).trans e0, (c _).trans e1, (c _).trans e2, (c _).trans e3, (c _).trans e4, (c _).trans e5, a, cp, (c _).trans e6, e7⟩, fun hp => (hd hp).of_block (h2 i hi hp)⟩

set_option maxRecDepth 100000 in
theorem MarkedS.only {w w' : World} {S : Nat → Prop} {e : Bat} {k : Int} (h : MarkedS w e k) (ho : Only S w w') (hS : ∀ x, S x → x < e.lo ∨ e.hi ≤ x) : MarkedS w' e k := by
  refine ⟨?_, h.2⟩
  rcases h.1 with h1 | ⟨b, h1, h2, h3, h4⟩
  · exact .inl h1
  · rcases h.2 with g | ⟨b', g1, g2, g3, g4⟩
    · exact .inl g
    · obtain rfl : b = b' := by rw [h1] at g1; simpa using g1
      exact .inr ⟨b, h1, h2.of_blocks (ho.block b fun hx => by have := hS b hx; omega) fun i hi hp => ho.block _ fun hx => by have := hS _ hx; have := g4 i hi hp; omega, by rw [ho.size]; exact h3, fun i hi hp => by rw [ho.size]; exact h4 i hi hp⟩

/-- Batches that are marked. -/
def MarkedB (w : World) (a : Option Addr) (es : List Bat) (k : Int) : Prop := es = [] ∨ ∃ b, a = some ⟨b, 0, none⟩ ∧ b < w.heap.size ∧ BatsAt w b es ∧ ∀ i, i < es.length → MarkedA w (es.getD i btz).a (es.getD i btz).ws (es.getD i btz).γ (markKB (es.take i) k)

set_option maxRecDepth 100000 in
theorem MarkedB.below {w w' : World} {a : Option Addr} {es : List Bat} {k : Int} (h : MarkedB w a es k) (hb : Below w.heap.size w w') : MarkedB w' a es k := by
  rcases h with h | ⟨b, h1, h2, h3, h4⟩
  · exact .inl h
  · exact .inr ⟨b, h1, Nat.lt_of_lt_of_le h2 hb.size, h3.of_block (hb.block b h2), fun i hi => (h4 i hi).below hb⟩

set_option maxRecDepth 100000 in
theorem OwnA.marked {w w' : World} {e : Bat} {k : Int} (h : OwnA w e.lo e.hi e.a e.ws e.γ) (hm : MarkedA w' e.a e.ws e.γ k) : MarkedS w' e k := by
  refine ⟨hm, ?_⟩
  rcases h with h | ⟨b, h1, h2, h3, h4⟩
  · exact .inl h
  · exact .inr ⟨b, h1, h2.le, h3, fun i hi hp => ⟨(h2.deps i hi hp).1, h4 i hi hp⟩⟩

set_option maxRecDepth 100000 in
set_option maxHeartbeats 4000000 in
theorem markBatchS_any (lo hi n cap : Nat) (a : Option Addr) (k : Int) (es : List Bat) (w : World) (hn : es.length = n) (hm : n ≤ 1048576) (ht : TameB es k) (ho : OwnB w lo hi a es) :
    Calls Tryz.prog 7 #[.slice a n cap, .int .i64 k] w fun e w' => e = .returned (.int .i64 (markKB es k)) ∧ MarkedB w' a es k ∧ Only (Span lo hi) w w' := by
  by_cases hz : n = 0
  · subst hz
    have he : es = [] := List.length_eq_zero_iff.1 hn
    subst he
    clear ho hn ht
    go_enter Tryz.func7, Tryz.ntmps7
    go_wp2
    go_loopw [1, 5] (fun l i wr => i = .int .i64 0 ∧ l = .int .i64 k ∧ wr = w) (fun _ _ _ => 0)
    case atStart => exact ⟨rfl, rfl, rfl⟩
    case round =>
      obtain ⟨rfl, rfl, rfl⟩ := hrel
      go_wp2
      go_ret
      exact ⟨rfl, .inl rfl, Only.refl _ _⟩
  · obtain ⟨b, rfl, hlo, hhi, hlt, hat, hown, hpw⟩ : ∃ b, a = some ⟨b, 0, none⟩ ∧ lo ≤ b ∧ b < hi ∧ b < w.heap.size ∧ BatsAt w b es ∧ (∀ i, i < es.length → lo ≤ (es.getD i btz).lo ∧ (es.getD i btz).hi ≤ hi ∧ (b < (es.getD i btz).lo ∨ (es.getD i btz).hi ≤ b) ∧ OwnA w (es.getD i btz).lo (es.getD i btz).hi (es.getD i btz).a (es.getD i btz).ws (es.getD i btz).γ) ∧ ∀ i j, i < j → j < es.length → (es.getD i btz).hi ≤ (es.getD j btz).lo := by
      rcases ho with h | h
      · rw [h] at hn
        exact absurd hn.symm hz
      · exact h
    have HAT := Lib.hid hat
    have HOW := Lib.hid hown
    have HPW := Lib.hid hpw
    have HT := Lib.hid ht
    have HN := Lib.hid hn
    clear hat hown hpw ht hn ho
    go_enter Tryz.func7, Tryz.ntmps7
    go_wp2
    go_loopw [1, 5] (fun l i wr => ∃ (j : Nat), j ≤ n ∧ i = .int .i64 j ∧ l = .int .i64 (markKB (es.take j) k) ∧ Hid (BatsAt wr b es) ∧ Hid (∀ i, i < j → MarkedS wr (es.getD i btz) (markKB (es.take i) k)) ∧ Hid (∀ i, j ≤ i → i < n → OwnA wr (es.getD i btz).lo (es.getD i btz).hi (es.getD i btz).a (es.getD i btz).ws (es.getD i btz).γ) ∧ Hid (Only (Span lo hi) w wr)) (fun _ i _ => n - (intOf i).toNat)
    case atStart => exact ⟨0, Nat.zero_le _, rfl, rfl, HAT, fun i h => absurd h (Nat.not_lt_zero i), fun i _ h => (HOW.out i (by rw [HN.out]; exact h)).2.2.2, Only.refl _ _⟩
    case round =>
      obtain ⟨j, hj, rfl, rfl, HA, HM, HO, HL⟩ := hrel
      by_cases hj' : j < n
      · have hjj : j < es.length := by rw [HN.out]; exact hj'
        have i1 : (0 : Int) ≤ (j : Int) := by omega
        have i2 : (j : Int) < (n : Int) := by omega
        have c0 := HA.out j hjj
        unfold batV at c0
        obtain ⟨b1, b2⟩ := HT.out.1 j hjj
        obtain ⟨t1, t2⟩ := HT.out.2 j (by omega)
        have HK := Lib.hid (markKB_take es k hjj)
        have HE := Lib.hid (HO.out j (Nat.le_refl _) hj')
        have HI := Lib.hid (HOW.out j hjj)
        obtain ⟨kk, hkk⟩ : ∃ kk, markKB (es.take j) k = kk := ⟨_, rfl⟩
        rw [hkk] at t1 t2 HK ⊢
        have HKK := Lib.hid hkk
        obtain ⟨x, hx⟩ : ∃ x, es.getD j btz = x := ⟨_, rfl⟩
        rw [hx] at c0 b1 b2 HK HE HI
        have HX := Lib.hid hx
        clear hkk hx
        obtain ⟨xw, xa, xc, xl, xh, xg⟩ := x
        simp only at c0 b1 b2 HK HE HI
        obtain ⟨q, hq⟩ : ∃ q, xw.length = q := ⟨_, rfl⟩
        rw [hq] at c0 b1 HK
        have HQ := Lib.hid hq
        clear hq
        obtain ⟨k3, hk3⟩ : ∃ k3, markK xw kk q = k3 := ⟨_, rfl⟩
        rw [hk3] at HK
        have HK3 := Lib.hid hk3
        clear hk3
        go_wp2_with fail
        refine (markWriteS_all xl xh q xc xa kk xw xg _ HQ.out b1 b2 t1 t2 HE.out).mono ?_
        rintro e w2 ⟨rfl, hmk, ho⟩
        rw [HK3.out]
        have HA2 : Hid (BatsAt w2 b es) := HA.out.of_block (ho.block b fun hx => by have h1 := HI.out.2.2.1; have h2 := hx.1; have h3 := hx.2; omega)
        have HXL : Hid ((es.getD j btz).lo = xl ∧ (es.getD j btz).hi = xh) := by rw [HX.out]; exact ⟨rfl, rfl⟩
        have HM2 : Hid (∀ i, i < j + 1 → MarkedS w2 (es.getD i btz) (markKB (es.take i) k)) := fun i hi => by
          by_cases hij : i < j
          · exact (HM.out i hij).only ho fun x hx => .inr (by have h1 := HPW.out i j hij hjj; have h2 := hx.1; have h3 := HXL.out.1; omega)
          · obtain rfl : i = j := by omega
            rw [HX.out, HKK.out]
            exact OwnA.marked (e := ⟨xw, xa, xc, xl, xh, xg⟩) HE.out hmk
        have HO2 : Hid (∀ i, j + 1 ≤ i → i < n → OwnA w2 (es.getD i btz).lo (es.getD i btz).hi (es.getD i btz).a (es.getD i btz).ws (es.getD i btz).γ) := fun i h1 h2 => (HO.out i (by omega) h2).only ho fun x hx => by have h3 := HPW.out j i (by omega) (by rw [HN.out]; exact h2); have h4 := hx.2; have h5 := HXL.out.2; omega
        have HL2 : Hid (Only (Span lo hi) w w2) := HL.out.trans ho fun x hx => ⟨by have := HI.out.1; have := hx.1; omega, by have := HI.out.2.1; have := hx.2; omega⟩
        clear hmk ho HE HI HX HXL HM HO HA HL HK3 HQ HKK
        go_wp2
        exact ⟨⟨j + 1, by omega, by go_num, by rw [HK.out], HA2, HM2, HO2, HL2⟩, by simp [intOf]; omega⟩
      · have hjj : j = n := by omega
        subst hjj
        have HF : Hid (es.take j = es) := List.take_of_length_le (by rw [HN.out]; exact Nat.le_refl _)
        rw [HF.out]
        go_wp2
        go_ret
        exact ⟨rfl, .inr ⟨b, rfl, by rw [HL.out.size]; exact hlt, HA.out, fun i hi => (HM.out i (by rw [← HN.out]; exact hi)).1⟩, HL.out⟩

set_option maxRecDepth 100000 in
set_option maxHeartbeats 4000000 in
theorem heldBatchS_any (n cap : Nat) (a : Option Addr) (k : Int) (es : List Bat) (w : World) (hn : es.length = n) (hm : n ≤ 1048576) (ht : TameB es k) (ho : MarkedB w a es k) :
    Calls Tryz.prog 8 #[.slice a n cap, .int .i64 k] w fun e w' => e = .returned (.int .i64 (markKB es k)) ∧ w' = w := by
  have HO := Lib.hid ho
  have HT := Lib.hid ht
  have HN := Lib.hid hn
  clear ho ht hn
  go_enter Tryz.func8, Tryz.ntmps8
  go_wp2
  go_loopw [1, 5] (fun l i wr => ∃ (j : Nat), j ≤ n ∧ i = .int .i64 j ∧ l = .int .i64 (markKB (es.take j) k) ∧ wr = w) (fun _ i _ => n - (intOf i).toNat)
  case atStart => exact ⟨0, Nat.zero_le _, rfl, rfl, rfl⟩
  case round =>
    obtain ⟨j, hj, rfl, rfl, rfl⟩ := hrel
    by_cases hj' : j < n
    · have hjj : j < es.length := by rw [HN.out]; exact hj'
      have i1 : (0 : Int) ≤ (j : Int) := by omega
      have i2 : (j : Int) < (n : Int) := by omega
      obtain ⟨b, rfl, hlt, hat, hmk⟩ : ∃ b, a = some ⟨b, 0, none⟩ ∧ b < wr.heap.size ∧ BatsAt wr b es ∧ ∀ i, i < es.length → MarkedA wr (es.getD i btz).a (es.getD i btz).ws (es.getD i btz).γ (markKB (es.take i) k) := by
        rcases HO.out with h | h
        · rw [h] at hjj
          simp at hjj
        · exact h
      have c0 := hat j hjj
      unfold batV at c0
      have HMK := Lib.hid (hmk j hjj)
      obtain ⟨b1, b2⟩ := HT.out.1 j hjj
      obtain ⟨t1, t2⟩ := HT.out.2 j (by omega)
      obtain ⟨t3, t4⟩ := HT.out.2 (j + 1) (by omega)
      have HK := Lib.hid (markKB_take es k hjj)
      clear hat hmk
      obtain ⟨kk, hkk⟩ : ∃ kk, markKB (es.take j) k = kk := ⟨_, rfl⟩
      rw [hkk] at t1 t2 HK HMK ⊢
      obtain ⟨x, hx⟩ : ∃ x, es.getD j btz = x := ⟨_, rfl⟩
      rw [hx] at c0 b1 b2 HK HMK
      clear hkk hx
      obtain ⟨xw, xa, xc, xl, xh, xg⟩ := x
      simp only at c0 b1 b2 HK HMK
      obtain ⟨q, hq⟩ : ∃ q, xw.length = q := ⟨_, rfl⟩
      rw [hq] at c0 b1 HK
      have HQ := Lib.hid hq
      clear hq
      obtain ⟨k3, hk3⟩ : ∃ k3, markK xw kk q = k3 := ⟨_, rfl⟩
      rw [hk3] at HK
      rw [HK.out] at t3 t4
      have HK3 := Lib.hid hk3
      clear hk3
      go_wp2_with fail
      refine (heldWriteS_all q xc xa kk xw xg _ HQ.out b1 b2 t1 t2 HMK.out).mono ?_
      rintro e w2 ⟨rfl, hw⟩
      subst w2
      rw [HK3.out]
      go_wp2
      exact ⟨⟨j + 1, by omega, by go_num, by rw [HK.out], trivial⟩, by simp [intOf]; omega⟩
    · have hjj : j = n := by omega
      subst hjj
      have HF : Hid (es.take j = es) := List.take_of_length_le (by rw [HN.out]; exact Nat.le_refl _)
      rw [HF.out]
      go_wp2
      go_ret
      exact ⟨rfl, rfl⟩

end Go.Proofs.YtidpcjcnhklmpalGreatDoor

/- The laws' copies of batches: the contracts of toBatch and toBatchS. -/
namespace Go.Proofs.YtidpcjcnhklmpalGreatDoor
open Go.ChangeShapes Go.WideShapes Go.ChangeAt Go.RowKit Go.Joins
attribute [local go_sem ↓] Go.wp_at_zero Go.wp_at_succ

set_option maxRecDepth 100000 in
theorem OwnG.lower {w : World} {base base' b : Nat} {ws : List Wr} {γ : Nat → Nat} (h : OwnG w base b ws γ) (hb : base' ≤ base) : OwnG w base' b ws γ where
  lt := h.lt
  le := Nat.le_trans hb h.le
  open_ := h.open_
  at_ := h.at_
  deps := fun i hi hp => ⟨Nat.le_trans hb (h.deps i hi hp).1, (h.deps i hi hp).2⟩
  inj := h.inj

set_option maxRecDepth 100000 in
theorem OwnA.wider {w : World} {lo lo' hi hi' : Nat} {a : Option Addr} {ws : List Wr} {γ : Nat → Nat} (h : OwnA w lo hi a ws γ) (h1 : lo' ≤ lo) (h2 : hi ≤ hi') : OwnA w lo' hi' a ws γ := by
  rcases h with h | ⟨b, q1, q2, q3, q4⟩
  · exact .inl h
  · exact .inr ⟨b, q1, q2.lower h1, Nat.lt_of_lt_of_le q3 h2, fun i hi hp => Nat.lt_of_lt_of_le (q4 i hi hp) h2⟩

set_option maxRecDepth 100000 in
theorem OwnA.setLow {w : World} {lo hi : Nat} {a : Option Addr} {ws : List Wr} {γ : Nat → Nat} (h : OwnA w lo hi a ws γ) {b : Nat} (hb : b < lo) (o : Nat) (v : Value) : OwnA (w.setCell ⟨b, o, none⟩ v) lo hi a ws γ :=
  h.only (S := fun x => x = b) (Only.set (S := fun x => x = b) (Only.refl _ w) rfl o v) fun x hx => by rw [hx]; exact hb

set_option maxRecDepth 100000 in
theorem infoBatch : (Tryz.prog.info? 30).map (fun i => (i.zero, i.size, i.bytes)) = some (some (.agg #[.slice none 0 0]), 1, 24) := by kernel_rfl

set_option maxRecDepth 100000 in
theorem run_make_bats (n : Nat) (hn : n ≤ 1048576) (w : World) :
    (Instr.makeSlice 22 (.int .i64 (n : Int)) (.int .i64 (n : Int))).run Tryz.prog w = .ok (.slice (some ⟨w.heap.size, 0, none⟩) n n) (w.alloc (.cells (madeCells #[.slice none 0 0] n) 30)) := by
  obtain ⟨i, hi, hzz⟩ := Option.map_eq_some_iff.1 infoBatch
  simp only [Prod.mk.injEq] at hzz
  obtain ⟨hz, hs, hb⟩ := hzz
  have hr := run_make (P := Tryz.prog) w 22 30 i _ Tryz.underlying22 hi hz .i64 .i64 n n (by omega) (Int.le_refl _) (by rw [hb]; omega) (by omega)
  simp only [Int.toNat_natCast, hs, Nat.mul_one] at hr
  exact hr

/-- The row while it is filled in. -/
def fillBat (es : List Bat) (j : Nat) : Value := if j < es.length then batV (es.getD j btz) else .slice none 0 0

set_option maxRecDepth 100000 in
theorem get_old (es : List Bat) (x : Bat) {i : Nat} (h : i < es.length) : (es ++ [x]).getD i btz = es.getD i btz := by
  rw [List.getD_eq_getElem?_getD, List.getD_eq_getElem?_getD, List.getElem?_append_left h]

set_option maxRecDepth 100000 in
theorem fillBat_step (es : List Bat) (x : Bat) (j : Nat) : (if j = es.length then batV x else fillBat es j) = fillBat (es ++ [x]) j := by
  unfold fillBat
  by_cases h : j = es.length
  · rw [if_pos h, if_pos (by simp; omega), h]
    simp [List.getD]
  · rw [if_neg h]
    by_cases hl : j < es.length
    · rw [if_pos hl, if_pos (by simp; omega), get_old es x hl]
    · rw [if_neg hl, if_neg (by simp; omega)]

set_option maxRecDepth 100000 in
theorem rowBat_start (w : World) (t n : Nat) : (w.alloc (.cells (madeCells #[.slice none 0 0] n) t)).rowIs w.heap.size t n (fillBat []) := by
  refine ⟨_, Go.Deep.blk_alloc_new _ _, size_madeCells _ _, fun i hi => ?_⟩
  have e : fillBat [] i = .slice none 0 0 := by unfold fillBat; rw [if_neg (by simp)]
  rw [e]
  have h1 : i % 1 = 0 := by omega
  simp [madeCells, hi, h1]

/-- The batches that are laid so far. -/
def LaidB (w : World) (B : Nat) (es : List Bat) : Prop := (∀ i, i < es.length → B < (es.getD i btz).lo ∧ (es.getD i btz).hi ≤ w.heap.size ∧ OwnA w (es.getD i btz).lo (es.getD i btz).hi (es.getD i btz).a (es.getD i btz).ws (es.getD i btz).γ) ∧ ∀ i j, i < j → j < es.length → (es.getD i btz).hi ≤ (es.getD j btz).lo

set_option maxRecDepth 100000 in
theorem get_new (es : List Bat) (x : Bat) : (es ++ [x]).getD es.length btz = x := by simp [List.getD]

set_option maxRecDepth 100000 in
theorem LaidB.more {w w' : World} {B : Nat} {es : List Bat} (h : LaidB w B es) (hb : Below w.heap.size w w') {x : Bat} (h1 : B < x.lo) (h2 : w.heap.size ≤ x.lo) (h3 : x.hi ≤ w'.heap.size) (h4 : OwnA w' x.lo x.hi x.a x.ws x.γ) : LaidB w' B (es ++ [x]) := by
  constructor
  · intro i hi
    by_cases hl : i < es.length
    · rw [get_old es x hl]
      obtain ⟨q1, q2, q3⟩ := h.1 i hl
      exact ⟨q1, Nat.le_trans q2 hb.size, q3.below hb⟩
    · have hi' : i = es.length := by simp at hi; omega
      rw [hi', get_new]
      exact ⟨h1, h3, h4⟩
  · intro i j hij hj
    by_cases hl : j < es.length
    · rw [get_old es x hl, get_old es x (by omega)]
      exact h.2 i j hij hl
    · have hj' : j = es.length := by simp at hj; omega
      rw [hj', get_new, get_old es x (by omega)]
      exact Nat.le_trans (h.1 i (by omega)).2.1 h2

set_option maxRecDepth 100000 in
theorem LaidB.setRow {w : World} {B : Nat} {es : List Bat} (h : LaidB w B es) (o : Nat) (v : Value) : LaidB (w.setCell ⟨B, o, none⟩ v) B es :=
  ⟨fun i hi => ⟨(h.1 i hi).1, by simpa using (h.1 i hi).2.1, (h.1 i hi).2.2.setLow (h.1 i hi).1 o v⟩, h.2⟩

end Go.Proofs.YtidpcjcnhklmpalGreatDoor
