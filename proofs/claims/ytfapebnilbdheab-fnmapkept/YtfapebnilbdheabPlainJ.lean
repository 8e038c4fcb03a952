/- Maps joined: whichever comes first, the same comes; within is an order. No program in sight. -/
import Derived.Test.YtfapebnilbdheabWithin
import Derived.Test.YtfapebnilbdheabOwn2
namespace Go.Proofs.Ytfapebnilbdheab

theorem dcmp_zero {d e : Dp} (h : dcmp d e = 0) : d = e := by
  obtain ⟨k, c, s, q⟩ := d
  obtain ⟨k', c', s', q'⟩ := e
  unfold dcmp at h
  simp only at h
  by_cases hk : k = k'
  · rw [if_neg (by simp [hk])] at h
    obtain ⟨rfl, rfl, rfl⟩ := tcmp_zero.1 h
    rw [hk]
  · rw [if_pos hk] at h
    exact absurd (sgn_zero.1 h) hk

theorem depsCmp_zero : ∀ {xs ys : List Dp}, depsCmp xs ys = 0 → xs = ys
  | [], [], _ => rfl
  | [], _ :: _, h => by simp [depsCmp] at h
  | _ :: _, [], h => by simp [depsCmp] at h
  | d :: r, e :: t, h => by
    unfold depsCmp at h
    by_cases hd : dcmp d e = 0
    · rw [if_neg (by simp [hd])] at h
      rw [dcmp_zero hd, depsCmp_zero h]
    · rw [if_pos hd] at h
      exact absurd h hd

theorem cmpW_zero {x y : Wr} (h : cmpW x y = 0) : x = y := by
  obtain ⟨k, c, s, q, v, de, xs⟩ := x
  obtain ⟨k', c', s', q', v', de', ys⟩ := y
  unfold cmpW wcmp at h
  simp only at h
  by_cases h1 : tcmp c s q c' s' q' = 0
  · rw [if_neg (by simp [h1])] at h
    obtain ⟨rfl, rfl, rfl⟩ := tcmp_zero.1 h1
    by_cases h2 : k = k'
    · subst h2
      rw [if_neg (by simp)] at h
      by_cases h3 : v = v'
      · subst h3
        rw [if_neg (by simp)] at h
        by_cases h4 : de = de'
        · subst h4
          rw [if_neg (by simp)] at h
          rw [depsCmp_zero h]
        · rw [if_pos h4] at h
          exact absurd (sgn_zero.1 h) (by cases de <;> cases de' <;> simp [bit] at h4 ⊢)
      · rw [if_pos h3] at h
        exact absurd (sgn_zero.1 h) h3
    · rw [if_pos h2] at h
      exact absurd (sgn_zero.1 h) h2
  · rw [if_pos h1] at h
    exact absurd h h1

theorem cmpW_self (x : Wr) : cmpW x x = 0 := by
  have h := wcmp_neg x.k x.c x.s x.q x.v x.de x.xs x.k x.c x.s x.q x.v x.de x.xs
  unfold cmpW
  omega

theorem same_iff (us vs : List Wr) : sameB us vs = true ↔ us = vs := by
  constructor
  · intro h
    unfold sameB at h
    rw [Bool.and_eq_true, decide_eq_true_eq, List.all_eq_true] at h
    refine List.ext_getElem h.1 fun i h1 h2 => ?_
    have h3 := h.2 i (List.mem_range.2 h1)
    have e1 : us.getD i wz = us[i] := by simp [List.getD, h1]
    have e2 : vs.getD i wz = vs[i] := by simp [List.getD, h2]
    rw [decide_eq_true_eq, e1, e2] at h3
    exact cmpW_zero h3
  · rintro rfl
    exact same_true rfl fun i _ => cmpW_self _

/-- The later of two registers. -/
def later2 (a b : Option Wr) : Option Wr := match b with
  | none => a
  | some y => some (laterO a y)

theorem fold_find : ∀ (b : List Wr) (M : Int → Option Wr), Rise b → ∀ key, b.foldl regPut M key = later2 (M key) (findW b key)
  | [], M, _, key => rfl
  | x :: r, M, h, key => by
    have hp := List.pairwise_cons.1 h
    show r.foldl regPut (regPut M x) key = _
    rw [fold_find r (regPut M x) hp.2 key, findW_cons]
    by_cases hk : x.k = key
    · subst hk
      rw [if_pos rfl, findW_past (fun z hz => hp.1 z hz)]
      show regPut M x x.k = _
      unfold regPut later2
      rw [if_pos rfl]
    · rw [if_neg hk]
      unfold regPut
      rw [if_neg (Ne.symm hk)]

theorem find_join {a b : List Wr} (ha : Rise a) (hb : Rise b) (key : Int) : findW (joinW a b) key = later2 (findW a key) (findW b key) := by
  rw [(join_spec b a ha).2.2 key, fold_find b _ hb]

theorem later_some (x y : Wr) : later2 (some x) (some y) = some (if cmpW x y < 0 then y else x) := rfl

theorem cmpW_turn (x y : Wr) : cmpW y x = -cmpW x y := wcmp_neg ..

theorem later_comm (a b : Option Wr) : later2 a b = later2 b a := by
  cases a with
  | none => cases b <;> rfl
  | some x =>
    cases b with
    | none => rfl
    | some y =>
      rw [later_some, later_some, cmpW_turn x y]
      by_cases h1 : cmpW x y < 0
      · rw [if_pos h1, if_neg (by omega)]
      · rw [if_neg h1]
        by_cases h2 : cmpW x y = 0
        · rw [if_neg (by omega), cmpW_zero h2]
        · rw [if_pos (by omega)]

theorem later_self (a : Option Wr) : later2 a a = a := by
  cases a with
  | none => rfl
  | some x => rw [later_some, if_neg (by rw [cmpW_self]; omega)]

theorem cmpW_three (x y z : Wr) : T3 (cmpW x y) (cmpW y z) (cmpW x z) := wcmp_three ..

theorem later_assoc (a b c : Option Wr) : later2 (later2 a b) c = later2 a (later2 b c) := by
  cases c with
  | none => rfl
  | some z =>
    cases b with
    | none => rfl
    | some y =>
      cases a with
      | none =>
        show later2 (some y) (some z) = later2 none (later2 (some y) (some z))
        rw [later_some]
        rfl
      | some x =>
        rw [later_some x y, later_some y z]
        have t1 := cmpW_three x y z
        have t2 := cmpW_three z y x
        rw [cmpW_turn y z, cmpW_turn x y, cmpW_turn x z] at t2
        by_cases h1 : cmpW x y < 0
        · rw [if_pos h1, later_some]
          by_cases h2 : cmpW y z < 0
          · rw [if_pos h2, later_some, if_pos (t1.n h1 h2)]
          · rw [if_neg h2, later_some, if_pos h1]
        · rw [if_neg h1, later_some]
          by_cases h2 : cmpW y z < 0
          · rw [if_pos h2, later_some]
          · rw [if_neg h2, later_some, if_neg h1]
            by_cases h3 : cmpW x z < 0
            · exfalso
              rcases t2.on (by omega) (by omega) with h4 | h4 <;> omega
            · rw [if_neg h3]

structure OkM (ws : List Wr) : Prop where
  rise : Rise ws
  keys : ∀ x ∈ ws, 0 ≤ x.k ∧ x.k ≤ 5

theorem OkM.join {a b : List Wr} (ha : OkM a) (hb : OkM b) : OkM (joinW a b) where
  rise := (join_spec b a ha.rise).1
  keys := fun x hx => ((join_spec b a ha.rise).2.1 x hx).elim (ha.keys x) (hb.keys x)

theorem OkM.ext {a b : List Wr} (ha : OkM a) (hb : OkM b) (h : ∀ key, findW a key = findW b key) : a = b := by
  rw [← told_find ha.rise ha.keys, ← told_find hb.rise hb.keys, funext h]

theorem join_comm {a b : List Wr} (ha : OkM a) (hb : OkM b) : joinW a b = joinW b a :=
  (ha.join hb).ext (hb.join ha) fun key => by rw [find_join ha.rise hb.rise, find_join hb.rise ha.rise, later_comm]

theorem join_self {a : List Wr} (ha : OkM a) : joinW a a = a :=
  (ha.join ha).ext ha fun key => by rw [find_join ha.rise ha.rise, later_self]

theorem join_assoc {a b c : List Wr} (ha : OkM a) (hb : OkM b) (hc : OkM c) : joinW (joinW a b) c = joinW a (joinW b c) :=
  ((ha.join hb).join hc).ext (ha.join (hb.join hc)) fun key => by
    rw [find_join (ha.join hb).rise hc.rise, find_join ha.rise hb.rise, find_join ha.rise (hb.join hc).rise, find_join hb.rise hc.rise, later_assoc]

theorem okM {ws : List Wr} (h : mapOkB ws = true) : OkM ws := ⟨((mapOk_iff ws).1 h).2, mapOk_keys h⟩

theorem joinB_yes {us vs : List Wr} (h : mapOkB us = true) (h' : mapOkB vs = true) : joinB us vs = joinW us vs := by
  unfold joinB
  exact if_pos ⟨h, h'⟩

theorem within_iff (us vs : List Wr) : withinB us vs = true ↔ mapOkB us = true ∧ mapOkB vs = true ∧ joinW us vs = vs := by
  unfold withinB
  rw [Bool.and_eq_true, Bool.and_eq_true, same_iff]
  constructor
  · rintro ⟨h1, h2, h3⟩
    rw [joinB_yes h1 h2] at h3
    exact ⟨h1, h2, h3⟩
  · rintro ⟨h1, h2, h3⟩
    refine ⟨h1, h2, ?_⟩
    rw [joinB_yes h1 h2]
    exact h3

theorem within_self (us : List Wr) : withinB us us = mapOkB us := by
  cases h : mapOkB us
  · unfold withinB
    rw [h, Bool.false_and]
  · exact (within_iff us us).2 ⟨h, h, join_self (okM h)⟩

theorem within_anti {us vs : List Wr} (h : withinB us vs = true) (h' : withinB vs us = true) : us = vs := by
  obtain ⟨h1, h2, h3⟩ := (within_iff us vs).1 h
  obtain ⟨_, _, h4⟩ := (within_iff vs us).1 h'
  rw [← h3, join_comm (okM h1) (okM h2), h4]

theorem within_join {us vs ws : List Wr} (h : withinB us vs = true) (hw : mapOkB ws = true) : withinB us (joinB vs ws) = true := by
  obtain ⟨h1, h2, h3⟩ := (within_iff us vs).1 h
  refine (within_iff us _).2 ⟨h1, joinB_mapOk _ _, ?_⟩
  rw [joinB_yes h2 hw, ← join_assoc (okM h1) (okM h2) (okM hw), h3]

/-- What FnWithin asks. -/
theorem within_law (us vs ws : List Wr) : (withinB us vs = true → withinB vs us = true → sameB us vs = true) ∧ (withinB us vs = true → mapOkB ws = true → withinB us (joinB vs ws) = true) :=
  ⟨fun h h' => (same_iff _ _).2 (within_anti h h'), fun h h' => within_join h h'⟩

end Go.Proofs.Ytfapebnilbdheab
