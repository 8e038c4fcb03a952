import Derived.Test.YtidpcjcnhklmpacDoorPack12
import Derived.Test.YtidpcjcnhklmpacDoorPack11
import Derived.Test.YtidpcjcnhklmpacDoorPack3
import Derived.Test.YtidpcjcnhklmpacDoorPack1
import Derived.BigQuiet
import Derived.Deep.QuietTactic
import Derived.WalkSmall
import Derived.Deep.AppendLies
import Derived.OwnWalk
/- Maps joined: whichever comes first, the same comes; within is an order. No program in sight. -/
namespace Go.Proofs.YtidpcjcnhklmpacDoor

theorem dcmp_zero {d e : Dp} (h : dcmp d e = 0) : d = e := by
  obtain ⟨k, c, s, q⟩ := d
  obtain ⟨k', c', s', q'⟩ := e
  unfold dcmp at h
  simp only at h
  by_cases hk : k = k'
  · rw [if_neg (by simp [hk])] at h
    obtain ⟨rfl, rfl, rfl⟩ := tcmp_zero.1 h
    rw [hk]
  · rw [if_pos hk] at h
    exact absurd (sgn_zero.1 h) hk

theorem depsCmp_zero : ∀ {xs ys : List Dp}, depsCmp xs ys = 0 → xs = ys
  | [], [], _ => rfl
  | [], _ :: _, h => by simp [depsCmp] at h
  | _ :: _, [], h => by simp [depsCmp] at h
  | d :: r, e :: t, h => by
    unfold depsCmp at h
    by_cases hd : dcmp d e = 0
    · rw [if_neg (by simp [hd])] at h
      rw [dcmp_zero hd, depsCmp_zero h]
    · rw [if_pos hd] at h
      exact absurd h hd

theorem cmpW_zero {x y : Wr} (h : cmpW x y = 0) : x = y := by
  obtain ⟨k, c, s, q, v, de, xs⟩ := x
  obtain ⟨k', c', s', q', v', de', ys⟩ := y
  unfold cmpW wcmp at h
  simp only at h
  by_cases h1 : tcmp c s q c' s' q' = 0
  · rw [if_neg (by simp [h1])] at h
    obtain ⟨rfl, rfl, rfl⟩ := tcmp_zero.1 h1
    by_cases h2 : k = k'
    · subst h2
      rw [if_neg (by simp)] at h
      by_cases h3 : v = v'
      · subst h3
        rw [if_neg (by simp)] at h
        by_cases h4 : de = de'
        · subst h4
          rw [if_neg (by simp)] at h
          rw [depsCmp_zero h]
        · rw [if_pos h4] at h
          exact absurd (sgn_zero.1 h) (by cases de <;> cases de' <;> simp [bit] at h4 ⊢)
      · rw [if_pos h3] at h
        exact absurd (sgn_zero.1 h) h3
    · rw [if_pos h2] at h
      exact absurd (sgn_zero.1 h) h2
  · rw [if_pos h1] at h
    exact absurd h h1

theorem cmpW_self (x : Wr) : cmpW x x = 0 := by
  have h := wcmp_neg x.k x.c x.s x.q x.v x.de x.xs x.k x.c x.s x.q x.v x.de x.xs
  unfold cmpW
  omega

theorem same_iff (us vs : List Wr) : sameB us vs = true ↔ us = vs := by
  constructor
  · intro h
    unfold sameB at h
    rw [Bool.and_eq_true, decide_eq_true_eq, List.all_eq_true] at h
    refine List.ext_getElem h.1 fun i h1 h2 => ?_
    have h3 := h.2 i (List.mem_range.2 h1)
    have e1 : us.getD i wz = us[i] := by simp [List.getD, h1]
    have e2 : vs.getD i wz = vs[i] := by simp [List.getD, h2]
    rw [decide_eq_true_eq, e1, e2] at h3
    exact cmpW_zero h3
  · rintro rfl
    exact same_true rfl fun i _ => cmpW_self _

/-- The later of two registers. -/
def later2 (a b : Option Wr) : Option Wr := match b with
  | none => a
  | some y => some (laterO a y)

theorem fold_find : ∀ (b : List Wr) (M : Int → Option Wr), Rise b → ∀ key, b.foldl regPut M key = later2 (M key) (findW b key)
  | [], M, _, key => rfl
  | x :: r, M, h, key => by
    have hp := List.pairwise_cons.1 h
    show r.foldl regPut (regPut M x) key = _
    rw [fold_find r (regPut M x) hp.2 key, findW_cons]
    by_cases hk : x.k = key
    · subst hk
      rw [if_pos rfl, findW_past (fun z hz => hp.1 z hz)]
      show regPut M x x.k = _
      unfold regPut later2
      rw [if_pos rfl]
    · rw [if_neg hk]
      unfold regPut
      rw [if_neg (Ne.symm hk)]

theorem find_join {a b : List Wr} (ha : Rise a) (hb : Rise b) (key : Int) : findW (joinW a b) key = later2 (findW a key) (findW b key) := by
  rw [(join_spec b a ha).2.2 key, fold_find b _ hb]

theorem later_some (x y : Wr) : later2 (some x) (some y) = some (if cmpW x y < 0 then y else x) := rfl

theorem cmpW_turn (x y : Wr) : cmpW y x = -cmpW x y := wcmp_neg ..

theorem later_comm (a b : Option Wr) : later2 a b = later2 b a := by
  cases a with
  | none => cases b <;> rfl
  | some x =>
    cases b with
    | none => rfl
    | some y =>
      rw [later_some, later_some, cmpW_turn x y]
      by_cases h1 : cmpW x y < 0
      · rw [if_pos h1, if_neg (by omega)]
      · rw [if_neg h1]
        by_cases h2 : cmpW x y = 0
        · rw [if_neg (by omega), cmpW_zero h2]
        · rw [if_pos (by omega)]

theorem later_self (a : Option Wr) : later2 a a = a := by
  cases a with
  | none => rfl
  | some x => rw [later_some, if_neg (by rw [cmpW_self]; omega)]

theorem cmpW_three (x y z : Wr) : T3 (cmpW x y) (cmpW y z) (cmpW x z) := wcmp_three ..

theorem later_assoc (a b c : Option Wr) : later2 (later2 a b) c = later2 a (later2 b c) := by
  cases c with
  | none => rfl
  | some z =>
    cases b with
    | none => rfl
    | some y =>
      cases a with
      | none =>
        show later2 (some y) (some z) = later2 none (later2 (some y) (some z))
        rw [later_some]
        rfl
      | some x =>
        rw [later_some x y, later_some y z]
        have t1 := cmpW_three x y z
        have t2 := cmpW_three z y x
        rw [cmpW_turn y z, cmpW_turn x y, cmpW_turn x z] at t2
        by_cases h1 : cmpW x y < 0
        · rw [if_pos h1, later_some]
          by_cases h2 : cmpW y z < 0
          · rw [if_pos h2, later_some, if_pos (t1.n h1 h2)]
          · rw [if_neg h2, later_some, if_pos h1]
        · rw [if_neg h1, later_some]
          by_cases h2 : cmpW y z < 0
          · rw [if_pos h2, later_some]
          · rw [if_neg h2, later_some, if_neg h1]
            by_cases h3 : cmpW x z < 0
            · exfalso
              rcases t2.on (by omega) (by omega) with h4 | h4 <;> omega
            · rw [if_neg h3]

structure OkM (ws : List Wr) : Prop where
  rise : Rise ws
  keys : ∀ x ∈ ws, 0 ≤ x.k ∧ x.k ≤ 5

theorem OkM.join {a b : List Wr} (ha : OkM a) (hb : OkM b) : OkM (joinW a b) where
  rise := (join_spec b a ha.rise).1
  keys := fun x hx => ((join_spec b a ha.rise).2.1 x hx).elim (ha.keys x) (hb.keys x)

theorem OkM.ext {a b : List Wr} (ha : OkM a) (hb : OkM b) (h : ∀ key, findW a key = findW b key) : a = b := by
  rw [← told_find ha.rise ha.keys, ← told_find hb.rise hb.keys, funext h]

theorem join_comm {a b : List Wr} (ha : OkM a) (hb : OkM b) : joinW a b = joinW b a :=
  (ha.join hb).ext (hb.join ha) fun key => by rw [find_join ha.rise hb.rise, find_join hb.rise ha.rise, later_comm]

theorem join_self {a : List Wr} (ha : OkM a) : joinW a a = a :=
  (ha.join ha).ext ha fun key => by rw [find_join ha.rise ha.rise, later_self]

theorem join_assoc {a b c : List Wr} (ha : OkM a) (hb : OkM b) (hc : OkM c) : joinW (joinW a b) c = joinW a (joinW b c) :=
  ((ha.join hb).join hc).ext (ha.join (hb.join hc)) fun key => by
    rw [find_join (ha.join hb).rise hc.rise, find_join ha.rise hb.rise, find_join ha.rise (hb.join hc).rise, find_join hb.rise hc.rise, later_assoc]

theorem okM {ws : List Wr} (h : mapOkB ws = true) : OkM ws := ⟨((mapOk_iff ws).1 h).2, mapOk_keys h⟩

theorem joinB_yes {us vs : List Wr} (h : mapOkB us = true) (h' : mapOkB vs = true) : joinB us vs = joinW us vs := by
  unfold joinB
  exact if_pos ⟨h, h'⟩

theorem within_iff (us vs : List Wr) : withinB us vs = true ↔ mapOkB us = true ∧ mapOkB vs = true ∧ joinW us vs = vs := by
  unfold withinB
  rw [Bool.and_eq_true, Bool.and_eq_true, same_iff]
  constructor
  · rintro ⟨h1, h2, h3⟩
    rw [joinB_yes h1 h2] at h3
    exact ⟨h1, h2, h3⟩
  · rintro ⟨h1, h2, h3⟩
    refine ⟨h1, h2, ?_⟩
    rw [joinB_yes h1 h2]
    exact h3

theorem within_self (us : List Wr) : withinB us us = mapOkB us := by
  cases h : mapOkB us
  · unfold withinB
    rw [h, Bool.false_and]
  · exact (within_iff us us).2 ⟨h, h, join_self (okM h)⟩

theorem within_anti {us vs : List Wr} (h : withinB us vs = true) (h' : withinB vs us = true) : us = vs := by
  obtain ⟨h1, h2, h3⟩ := (within_iff us vs).1 h
  obtain ⟨_, _, h4⟩ := (within_iff vs us).1 h'
  rw [← h3, join_comm (okM h1) (okM h2), h4]

theorem within_join {us vs ws : List Wr} (h : withinB us vs = true) (hw : mapOkB ws = true) : withinB us (joinB vs ws) = true := by
  obtain ⟨h1, h2, h3⟩ := (within_iff us vs).1 h
  refine (within_iff us _).2 ⟨h1, joinB_mapOk _ _, ?_⟩
  rw [joinB_yes h2 hw, ← join_assoc (okM h1) (okM h2) (okM hw), h3]

/-- What FnWithin asks. -/
theorem within_law (us vs ws : List Wr) : (withinB us vs = true → withinB vs us = true → sameB us vs = true) ∧ (withinB us vs = true → mapOkB ws = true → withinB us (joinB vs ws) = true) :=
  ⟨fun h h' => (same_iff _ _).2 (within_anti h h'), fun h h' => within_join h h'⟩

end Go.Proofs.YtidpcjcnhklmpacDoor

/- Joins, sameness, within of few writes, in the form in which a law's walk asks. -/
namespace Go.Proofs.YtidpcjcnhklmpacDoor
open Go.ChangeShapes Go.WideShapes Go.ChangeAt Go.RowKit Go.Joins

set_option maxRecDepth 100000 in
theorem join_is (a b : Option Addr) (n m cap cap' : Nat) (us vs : List Wr) (w : World) (hn : us.length = n) (hm : vs.length = m) (hn1 : n ≤ 1000) (hm1 : m ≤ 1000) (hx : Few us) (hy : Few vs) (hi : IsWs w a us) (hj : IsWs w b vs) :
    Calls Tryd.prog 23 #[.slice a n cap, .slice b m cap'] w fun e w' => ∃ ad L cpd, e = .returned (.slice ad L cpd) ∧ (joinB us vs).length = L ∧ L ≤ 6 ∧ IsWs w' ad (joinB us vs) ∧ Below w.heap.size w w' := by
  refine (implMapJoin_any a b n m cap cap' us vs w hn hm (by omega) (by omega) hx hy hi hj).mono ?_
  rintro e w' ⟨v, es, rfl, he, hr, hb⟩
  obtain ⟨ad, cpd, L, rfl, hl, ho⟩ := hr.ownA he
  exact ⟨ad, L, cpd, rfl, hl, by have := joinB_len us vs; omega, ho.isWs (joinB_few _ _), hb⟩

set_option maxRecDepth 100000 in
theorem same_is (r : Bool) (a b : Option Addr) (n m cap cap' : Nat) (us vs : List Wr) (w : World) (hr : sameB us vs = r) (hn : us.length = n) (hm : vs.length = m) (hn1 : n ≤ 1000) (hm1 : m ≤ 1000) (hx : Few us) (hy : Few vs) (hi : IsWs w a us) (hj : IsWs w b vs) :
    Calls Tryd.prog 17 #[.slice a n cap, .slice b m cap'] w fun e w' => e = .returned (.bool r) ∧ Below w.heap.size w w' := by
  subst hr
  exact sameWrites_gen a b n m cap cap' us vs w hn hm (by omega) (by omega) hx hy hi hj

set_option maxRecDepth 100000 in
theorem within_is (r : Bool) (a b : Option Addr) (n m cap cap' : Nat) (us vs : List Wr) (w : World) (hr : withinB us vs = r) (hn : us.length = n) (hm : vs.length = m) (hn1 : n ≤ 1000) (hm1 : m ≤ 1000) (hx : Few us) (hy : Few vs) (hi : IsWs w a us) (hj : IsWs w b vs) :
    Calls Tryd.prog 22 #[.slice a n cap, .slice b m cap'] w fun e w' => e = .returned (.bool r) ∧ Below w.heap.size w w' := by
  subst hr
  exact implWithin_any a b n m cap cap' us vs w hn hm (by omega) (by omega) hx hy hi hj

set_option maxRecDepth 100000 in
theorem specOk_is (r : Bool) (a : Option Addr) (n cap : Nat) (us : List Wr) (w : World) (hr : mapOkB us = r) (hn : us.length = n) (hn1 : n ≤ 1000) (hx : Few us) (hi : IsWs w a us) :
    Calls Tryd.prog 18 #[.slice a n cap] w fun e w' => e = .returned (.bool r) ∧ Below w.heap.size w w' := by
  subst hr
  exact specMapOk_gen a n cap us w hn (by omega) hx hi

set_option maxRecDepth 100000 in
theorem joined_laws {us vs : List Wr} (h : mapOkB us = true) (h' : mapOkB vs = true) : joinB us vs = joinB vs us ∧ joinB us us = us ∧ withinB us (joinB us vs) = true ∧ withinB vs (joinB us vs) = true := by
  have a := okM h
  have b := okM h'
  have e := joinB_mapOk us vs
  rw [joinB_yes h h'] at *
  rw [joinB_yes h' h, joinB_yes h h]
  refine ⟨join_comm a b, join_self a, (within_iff _ _).2 ⟨h, e, ?_⟩, (within_iff _ _).2 ⟨h', e, ?_⟩⟩
  · rw [← join_assoc a a b, join_self a]
  · rw [join_comm a b, ← join_assoc b b a, join_self b]

end Go.Proofs.YtidpcjcnhklmpacDoor

/- What is repaired is no less than it was, and no more than both; what is told to differ differs in its leaf: plain facts. -/
namespace Go.Proofs.YtidpcjcnhklmpacDoor
open Go.ChangeShapes Go.WideShapes Go.ChangeAt Go.RowKit Go.Joins

theorem find_of_mem : ∀ {ws : List Wr}, Rise ws → ∀ {x : Wr}, x ∈ ws → findW ws x.k = some x
  | [], _, _, h => by simp at h
  | y :: r, hr, x, h => by
    obtain ⟨h1, h2⟩ := List.pairwise_cons.1 hr
    rw [findW_cons]
    rcases List.mem_cons.1 h with rfl | h3
    · rw [if_pos rfl]
    · have := h1 x h3
      rw [if_neg (by omega)]
      exact find_of_mem h2 h3

theorem pickK_find {vs : List Wr} (hv : Rise vs) (ks : List Int) (key : Int) : findW (pickK vs ks) key = none ∨ findW (pickK vs ks) key = findW vs key := by
  cases h : findW (pickK vs ks) key with
  | none => exact .inl rfl
  | some x =>
    have h1 := (pickK_mem (findW_mem h)).1
    have h2 := find_of_mem hv h1
    rw [findW_key h] at h2
    exact .inr h2.symm

theorem pickK_join {vs : List Wr} {ks : List Int} (hv : mapOkB vs = true) (hk : ks.Pairwise (· < ·)) : joinW (pickK vs ks) vs = vs := by
  have a := okM (pickK_ok hv hk)
  have b := okM hv
  refine OkM.ext (a.join b) b fun key => ?_
  rw [find_join ((mapOk_iff _).1 (pickK_ok hv hk)).2 ((mapOk_iff _).1 hv).2]
  rcases pickK_find ((mapOk_iff _).1 hv).2 ks key with h | h
  · rw [h]
    cases findW vs key <;> rfl
  · rw [h]
    exact later_self _

theorem rep_leaf {us vs : List Wr} (h : mapOkB us = true) (h' : mapOkB vs = true) {z : Int} (hz : z ∈ repKeys us vs) : leafB us z ≠ leafB vs z := by
  unfold repKeys at hz
  obtain ⟨k, hk, rfl, hne⟩ := mem_diffB hz
  unfold treeB treeW at hne
  rw [if_pos h, if_pos h', treeL_get _ (by omega), treeL_get _ (by omega), tr_leaf, tr_leaf] at hne
  exact hne

theorem repKeys_self (us : List Wr) : repKeys us us = [] := diffB_same _

theorem rep_self {us : List Wr} (h : mapOkB us = true) : repB us us = us := by
  rw [repB_ok h h, repKeys_self]
  rfl

theorem rep_less {us vs : List Wr} (h : mapOkB us = true) (h' : mapOkB vs = true) : withinB us (repB us vs) = true := by
  rw [repB_join h h']
  exact (joined_laws h (pickK_ok h' (repKeys_rise us vs))).2.2.1

theorem rep_more {us vs : List Wr} (h : mapOkB us = true) (h' : mapOkB vs = true) : withinB (repB us vs) (joinB us vs) = true := by
  have hp := pickK_ok h' (repKeys_rise us vs)
  have a := okM h
  have b := okM h'
  have p := okM hp
  refine (within_iff _ _).2 ⟨repB_mapOk us vs, joinB_mapOk us vs, ?_⟩
  rw [repB_ok h h', joinB_yes h h']
  have e := pickK_join h' (repKeys_rise us vs)
  generalize pickK vs (repKeys us vs) = q at *
  rw [join_assoc a p (a.join b), join_comm a b, ← join_assoc p b a, e, join_comm b a, ← join_assoc a a b, join_self a]

theorem rep_same (us vs : List Wr) : sameB (repB us vs) (repB us vs) = true := (same_iff _ _).2 rfl

end Go.Proofs.YtidpcjcnhklmpacDoor

/- The contract of impl.Differ. -/
namespace Go.Proofs.YtidpcjcnhklmpacDoor
open Go.ChangeShapes Go.WideShapes Go.ChangeAt Go.RowKit Go.Joins

set_option maxRecDepth 100000 in
/-- Fifteen numbers, from a block's begin on, as an array's cells. -/
theorem ints_range {w : World} {a : Option Addr} {zs : List Int} (h : IsInts w a zs) (hl : zs.length = 15) : ∃ b, a = some ⟨b, 0, none⟩ ∧ w.rangeAt b 0 (zs.map intV) := by
  rcases h with h | ⟨b, ha, hlt, hc⟩
  · rw [h] at hl
    cases hl
  · refine ⟨b, ha, fun j v hv => ?_⟩
    have hj : j < zs.length := by
      have := (List.getElem?_eq_some_iff.1 hv).1
      simpa using this
    rw [Nat.zero_add, hc j hj]
    rw [List.getElem?_map, List.getElem?_eq_getElem hj] at hv
    simp only [Option.map_some, Option.some.injEq] at hv
    rw [← hv]
    simp [intV, List.getD, hj]

set_option maxRecDepth 100000 in
theorem load_tree {w : World} {b : Nat} {zs : List Int} (h : w.rangeAt b 0 (zs.map intV)) (hl : zs.length = 15) : (Instr.loadAt 74 (.pointer (some ⟨b, 0, none⟩))).run Tryd.prog w = .ok (.agg (zs.map intV).toArray) w :=
  run_loadAt_mid w b 0 74 (zs.map intV) _ h under_tree rfl (by rw [infoTree, List.length_map, hl])

set_option maxRecDepth 100000 in
theorem array_at (b cap : Nat) (w : World) : (Instr.arrayAt 74 (.slice (some ⟨b, 0, none⟩) 15 cap)).run Tryd.prog w = .ok (.pointer (some ⟨b, 0, none⟩)) w := by
  unfold Instr.arrayAt
  rw [Sem.run_bind, run_underlying under_tree]
  rfl

set_option maxRecDepth 100000 in
theorem lasts_row (B : Nat) (zs : List Int) : lasts (fun w w' => Below w.heap.size w w') (fun v w => RowI w B v zs) := fun _ _ _ h hb => h.below hb

set_option maxRecDepth 100000 in
set_option maxHeartbeats 1000000 in
theorem implDiffer_any (a a' : Option Addr) (n m cap cap' : Nat) (xs ys : List Int) (w : World) (hn : xs.length = n) (hm : ys.length = m) (hn1 : n ≤ 1048576) (hm1 : m ≤ 1048576) (h : IsInts w a xs) (h' : IsInts w a' ys) :
    Calls Tryd.prog 20 #[.slice a n cap, .slice a' m cap'] w fun e w' => ∃ v, e = .returned v ∧ RowI w' w.heap.size v (diffB xs ys) ∧ Below w.heap.size w w' := by
  by_cases hb : n = 15 ∧ m = 15
  rotate_left
  · have HE : Hid (diffB xs ys = []) := by
      show _ = _
      unfold diffB
      rw [if_neg (by rw [hn, hm]; exact hb)]
    have hd : ¬ ((n : Int) = 15 ∧ (m : Int) = 15) := by omega
    clear h h' hn hm
    by_cases h1 : (n : Int) = 15
    · have h2 : ¬ (m : Int) = 15 := by omega
      have h3 : n = 15 := by omega
      subst h3
      go_enter Tryd.func20, Tryd.ntmps20
      go_wp2
      go_ret
      exact ⟨_, rfl, by rw [HE.out]; exact World.ownsRow_nil _ _ _ _, Below.refl _ _⟩
    · go_enter Tryd.func20, Tryd.ntmps20
      go_wp2
      go_ret
      exact ⟨_, rfl, by rw [HE.out]; exact World.ownsRow_nil _ _ _ _, Below.refl _ _⟩
  obtain ⟨rfl, rfl⟩ := hb
  have HE : Hid (diffB xs ys = diffL xs ys) := by
    show _ = _
    unfold diffB
    rw [if_pos ⟨hn, hm⟩]
  obtain ⟨b, rfl, -⟩ := ints_range h hn
  obtain ⟨b', rfl, -⟩ := ints_range h' hm
  have HH := Lib.hid h
  have HH' := Lib.hid h'
  have HN := Lib.hid hn
  have HM := Lib.hid hm
  have HC : Hid (∀ W, Calls Tryd.prog 44 #[.agg (xs.map intV).toArray, .agg (ys.map intV).toArray] W fun e w' => ∃ v, e = .returned v ∧ RowI w' W.heap.size v (diffL xs ys) ∧ Below W.heap.size W w') := fun W =>
    leavesApart_any _ _ xs ys W ⟨rfl, hn⟩ ⟨rfl, hm⟩
  clear h h' hn hm
  have HLD : Hid (∀ w', Below w.heap.size w w' → (Instr.loadAt 74 (.pointer (some ⟨b, 0, none⟩))).run Tryd.prog w' = .ok (.agg (xs.map intV).toArray) w' ∧ (Instr.loadAt 74 (.pointer (some ⟨b', 0, none⟩))).run Tryd.prog w' = .ok (.agg (ys.map intV).toArray) w') := fun w' hb => by
    obtain ⟨b1, e1, r1⟩ := ints_range (HH.out.below hb) HN.out
    obtain ⟨b2, e2, r2⟩ := ints_range (HH'.out.below hb) HM.out
    obtain rfl : b = b1 := by simpa using e1
    obtain rfl : b' = b2 := by simpa using e2
    exact ⟨load_tree r1 HN.out, load_tree r2 HM.out⟩
  generalize (xs.map intV).toArray = cs at *
  generalize (ys.map intV).toArray = ds at *
  go_enter Tryd.func20, Tryd.ntmps20
  go_wp2_with fail
  refine wp_region_slots 7 [[(0, false)], [(13, true)], [(14, true)], [(1, false)], [(16, true)], [(17, true)], [(15, true), (18, true)]] (fun w' => Below w.heap.size w w') (fun w w' => Below w.heap.size w w') (by kernel_rfl) (by kernel_rfl) (by rfl) ((Below.refl _ _).drew) (fun _ _ h hb => below_step h h.size hb) ?_
  apply slot_eq
  · intro ρ w' ⟨p1, p2, p3⟩ hbl hn
    simp at hn
    go_simp
    exact ⟨Below.refl _ _, rfl⟩
  apply slot_eq
  · intro ρ w' ⟨p1, p2, p3⟩ hbl hn
    simp at hn
    simp only [execOp, hn, Sem.run_bind, array_at, Result.andThen_ok, Sem.run_pure, got]
    exact ⟨Below.refl _ _, rfl⟩
  apply slot_eq
  · intro ρ w' ⟨p1, p2, p3⟩ hbl hn
    simp at hn
    simp only [execOp, hn, Sem.run_bind, (HLD.out w' hbl).1, Result.andThen_ok, Sem.run_pure, got]
    exact ⟨Below.refl _ _, rfl⟩
  apply slot_eq
  · intro ρ w' ⟨p1, p2, p3⟩ hbl hn
    simp at hn
    go_simp
    exact ⟨Below.refl _ _, rfl⟩
  apply slot_eq
  · intro ρ w' ⟨p1, p2, p3⟩ hbl hn
    simp at hn
    simp only [execOp, hn, Sem.run_bind, array_at, Result.andThen_ok, Sem.run_pure, got]
    exact ⟨Below.refl _ _, rfl⟩
  apply slot_eq
  · intro ρ w' ⟨p1, p2, p3⟩ hbl hn
    simp at hn
    simp only [execOp, hn, Sem.run_bind, (HLD.out w' hbl).2, Result.andThen_ok, Sem.run_pure, got]
    exact ⟨Below.refl _ _, rfl⟩
  refine slot_fact (fun v w' => RowI w' w.heap.size v (diffL xs ys)) (lasts_row _ _) ?_ ?_
  · intro ρ w' ⟨p1, p2, p3⟩ hbl hn
    simp at hn
    obtain ⟨e1, e2⟩ := hn
    go_simp
    exact got_call (HC.out w') fun e w'' ⟨v, he, hr, hb⟩ => ⟨v, he, hb, hr.mono hbl.size⟩
  refine slot_end ?_
  intro vs w3 hS hF
  simp at hF
  obtain ⟨h3, -⟩ := hF
  have HR : Hid (RowI w3 w.heap.size (vs 19) (diffB xs ys)) := by rw [HE.out]; exact h3
  have HB := Lib.hid hS
  clear h3 hS HLD
  simp only [List.take_succ_cons, List.take_zero, List.drop_succ_cons, List.drop_zero, putAll]
  generalize vs 19 = v at *
  go_wp2
  go_ret
  exact ⟨_, rfl, HR.out, HB.out⟩

end Go.Proofs.YtidpcjcnhklmpacDoor

/- The cursor of the drawn inputs: its place in memory, and the contracts of l01Open, pick, once. -/
namespace Go.Proofs.YtidpcjcnhklmpacDoor
open Go.ChangeShapes Go.WideShapes Go.ChangeAt Go.RowKit Go.Joins

/-- Nothing that was there has turned, but for the one block B. -/
structure Hole (B : Nat) (w w' : World) : Prop where
  os : w'.os = w.os
  tape : w'.tape = w.tape
  output : w'.output = w.output
  size : w.heap.size ≤ w'.heap.size
  block : ∀ k, k < w.heap.size → k ≠ B → w'.heap[k]? = w.heap[k]?

theorem Hole.refl (B : Nat) (w : World) : Hole B w w := ⟨rfl, rfl, rfl, Nat.le_refl _, fun _ _ _ => rfl⟩

theorem Hole.trans {B : Nat} {a b c : World} (h : Hole B a b) (k : Hole B b c) : Hole B a c :=
  ⟨k.os.trans h.os, k.tape.trans h.tape, k.output.trans h.output, Nat.le_trans h.size k.size, fun i hi hn => (k.block i (Nat.lt_of_lt_of_le hi h.size) hn).trans (h.block i hi hn)⟩

theorem Hole.of_below {B : Nat} {w w' : World} (h : Below w.heap.size w w') : Hole B w w' := ⟨h.os, h.tape, h.output, h.size, fun k hk _ => h.block k hk⟩

theorem Hole.drew {B : Nat} {w w' : World} (h : Hole B w w') : Hole B w w'.drew := ⟨h.os, h.tape, h.output, h.size, h.block⟩

theorem Hole.drewN {B : Nat} {w w' : World} (h : Hole B w w') (n : Nat) : Hole B w (w'.drewN n) := h.trans (Hole.of_below (below_drewN (Below.refl _ _) n))

theorem Hole.alloc {B : Nat} {w w' : World} (h : Hole B w w') (o : Obj) : Hole B w (w'.alloc o) := h.trans (Hole.of_below ((Below.refl _ _).alloc (Nat.le_refl _) o))

theorem Hole.set {B : Nat} {w w' : World} (h : Hole B w w') (o : Nat) (v : Value) : Hole B w (w'.setCell ⟨B, o, none⟩ v) :=
  h.trans ⟨rfl, rfl, rfl, by simp [World.setCell], fun k _ hn => Below.heap_setCell _ _ _ _ hn⟩

theorem Hole.cell {B : Nat} {w w' : World} (h : Hole B w w') {b o : Nat} (hb : b < w.heap.size) (hn : b ≠ B) : w'.cell? ⟨b, o, none⟩ = w.cell? ⟨b, o, none⟩ := World.cell?_of_block (w := w) (h.block b hb hn)

theorem Hole.frozen {B : Nat} {w w' : World} (h : Hole B w w') {b o : Nat} (hb : b < w.heap.size) (hn : b ≠ B) : w'.frozen? ⟨b, o, none⟩ = w.frozen? ⟨b, o, none⟩ := World.frozen?_of_block (w := w) (h.block b hb hn)

theorem Hole.below {B c : Nat} {w0 w w' : World} (h0 : Below c w0 w) (h : Hole B w w') (hB : c ≤ B) (hc : c ≤ w.heap.size) : Below c w0 w' :=
  h0.trans ⟨h.os, h.tape, h.output, h.size, fun k hk => h.block k (by omega) (by omega)⟩

structure CurAt (w : World) (B : Nat) (a : Option Addr) (len cap : Nat) (at_ seed : Int) : Prop where
  lt : B < w.heap.size
  c0 : w.cell? ⟨B, 0, none⟩ = some (.slice a len cap)
  c1 : w.cell? ⟨B, 1, none⟩ = some (.int .i64 at_)
  c2 : w.cell? ⟨B, 2, none⟩ = some (.int .i64 seed)
  fz : ∀ o, w.frozen? ⟨B, o, none⟩ = false
  p0 : 0 ≤ at_
  s0 : 0 ≤ seed
  s1 : seed ≤ 65520

/-- The code's bytes, in a block that is not the cursor's. -/
def CodeAt (w : World) (B : Nat) (a : Option Addr) (len : Nat) : Prop :=
  len = 0 ∨ ∃ b o, a = some ⟨b, o, none⟩ ∧ b < B ∧ ∀ i, i < len → ∃ z : Int, 0 ≤ z ∧ z ≤ 255 ∧ w.cell? ⟨b, o + i, none⟩ = some (.int .u8 z)

theorem CodeAt.hole {w w' : World} {B : Nat} {a : Option Addr} {len : Nat} (h : CodeAt w B a len) (hB : B < w.heap.size) (hh : Hole B w w') : CodeAt w' B a len := by
  rcases h with h | ⟨b, o, ha, hb, hz⟩
  · exact .inl h
  · refine .inr ⟨b, o, ha, hb, fun i hi => ?_⟩
    obtain ⟨z, z0, z1, hc⟩ := hz i hi
    exact ⟨z, z0, z1, (hh.cell (by omega) (by omega)).trans hc⟩

/-- The cursor stands at most N bytes on. -/
def Cur (w : World) (B : Nat) (a : Option Addr) (len cap : Nat) (N : Int) : Prop := ∃ at_ seed, CurAt w B a len cap at_ seed ∧ at_ ≤ N ∧ CodeAt w B a len ∧ len ≤ 1048576

theorem Cur.below {w w' : World} {B : Nat} {a : Option Addr} {len cap : Nat} {N : Int} (h : Cur w B a len cap N) (hb : Below w.heap.size w w') : Cur w' B a len cap N := by
  obtain ⟨at_, seed, hc, hN, hk, hl⟩ := h
  refine ⟨at_, seed, ⟨Nat.lt_of_lt_of_le hc.lt hb.size, held_cell hb hc.c0 hc.lt, held_cell hb hc.c1 hc.lt, held_cell hb hc.c2 hc.lt, fun o => (hb.frozen (p := ⟨B, o, none⟩) hc.lt).trans (hc.fz o), hc.p0, hc.s0, hc.s1⟩, hN, hk.hole hc.lt (Hole.of_below hb), hl⟩

theorem Cur.more {w : World} {B : Nat} {a : Option Addr} {len cap : Nat} {N M : Int} (h : Cur w B a len cap N) (hM : N ≤ M) : Cur w B a len cap M := by
  obtain ⟨at_, seed, hc, hN, hk⟩ := h
  exact ⟨at_, seed, hc, Int.le_trans hN hM, hk⟩

theorem Cur.lt {w : World} {B : Nat} {a : Option Addr} {len cap : Nat} {N : Int} (h : Cur w B a len cap N) : B < w.heap.size := by
  obtain ⟨_, _, hc, _⟩ := h
  exact hc.lt

theorem mod_lt {x n : Int} (hn : 2 ≤ n) : 0 ≤ x % n ∧ x % n < n := ⟨Int.emod_nonneg _ (by omega), Int.emod_lt_of_pos _ (by omega)⟩

set_option maxHeartbeats 1000000 in
theorem pick_in (B : Nat) (b o len cap : Nat) (at_ n z : Int) (w : World) (c0 : w.cell? ⟨B, 0, none⟩ = some (.slice (some ⟨b, o, none⟩) len cap)) (c1 : w.cell? ⟨B, 1, none⟩ = some (.int .i64 at_)) (fz : ∀ o, w.frozen? ⟨B, o, none⟩ = false)
    (hz : w.cell? ⟨b, o + at_.toNat, none⟩ = some (.int .u8 z)) (z0 : 0 ≤ z) (z1 : z ≤ 255) (p0 : 0 ≤ at_) (p1 : at_ < len) (hl : len ≤ 1048576) (hn : 2 ≤ n) (hn' : n ≤ 100000) :
    Calls Tryd.prog 27 #[.pointer (some ⟨B, 0, none⟩), .int .i64 n] w fun e w' => e = .returned (.int .i64 (z % n)) ∧ ∃ m, w' = (w.drewN m).setCell ⟨B, 1, none⟩ (.int .i64 (at_ + 1)) := by
  go_enter Tryd.func27, Tryd.ntmps27
  go_wp2_with fail
  go_quiet (fail)
  go_wp2_with fail
  go_quiet (fail)
  go_wp2
  go_ret
  exact ⟨rfl, _, rfl⟩

set_option maxHeartbeats 1000000 in
theorem pick_out (B : Nat) (b o len cap : Nat) (at_ seed n z : Int) (w : World) (hne : b ≠ B) (c0 : w.cell? ⟨B, 0, none⟩ = some (.slice (some ⟨b, o, none⟩) len cap)) (c1 : w.cell? ⟨B, 1, none⟩ = some (.int .i64 at_)) (c2 : w.cell? ⟨B, 2, none⟩ = some (.int .i64 seed)) (fz : ∀ o, w.frozen? ⟨B, o, none⟩ = false)
    (hz : w.cell? ⟨b, o + (at_ % len).toNat, none⟩ = some (.int .u8 z)) (z0 : 0 ≤ z) (z1 : z ≤ 255) (p0 : 0 ≤ at_) (p2 : at_ ≤ 1000000) (p1 : (len : Int) ≤ at_) (s0 : 0 ≤ seed) (s1 : seed ≤ 65520) (hl0 : (0 : Int) < len) (hl : len ≤ 1048576) (hn : 2 ≤ n) (hn' : n ≤ 100000) :
    Calls Tryd.prog 27 #[.pointer (some ⟨B, 0, none⟩), .int .i64 n] w fun e w' => e = .returned (.int .i64 (((seed * 1103 + 12345) % 65521 / 7 + z) % n)) ∧ ∃ m m', w' = ((((w.drewN m).setCell ⟨B, 2, none⟩ (.int .i64 ((seed * 1103 + 12345) % 65521))).drewN m').setCell ⟨B, 1, none⟩ (.int .i64 (at_ + 1))) := by
  have i1 : (0 : Int) ≤ at_ % len := Int.emod_nonneg _ (by omega)
  have i2 : at_ % len < (len : Int) := Int.emod_lt_of_pos _ hl0
  go_enter Tryd.func27, Tryd.ntmps27
  go_wp2_with fail
  go_quiet (fail)
  go_wp2_with fail
  go_quiet (fail)
  go_wp2
  go_ret
  exact ⟨rfl, _, _, rfl⟩

set_option maxHeartbeats 1000000 in
theorem pick_nil (B : Nat) (a : Option Addr) (cap : Nat) (at_ seed n : Int) (w : World) (c0 : w.cell? ⟨B, 0, none⟩ = some (.slice a 0 cap)) (c1 : w.cell? ⟨B, 1, none⟩ = some (.int .i64 at_)) (c2 : w.cell? ⟨B, 2, none⟩ = some (.int .i64 seed)) (fz : ∀ o, w.frozen? ⟨B, o, none⟩ = false)
    (p0 : 0 ≤ at_) (p2 : at_ ≤ 1000000) (s0 : 0 ≤ seed) (s1 : seed ≤ 65520) (hn : 2 ≤ n) (hn' : n ≤ 100000) :
    Calls Tryd.prog 27 #[.pointer (some ⟨B, 0, none⟩), .int .i64 n] w fun e w' => e = .returned (.int .i64 (0 % n)) ∧ ∃ m m', w' = ((((w.drewN m).setCell ⟨B, 2, none⟩ (.int .i64 ((seed * 1103 + 12345) % 65521))).drewN m').setCell ⟨B, 1, none⟩ (.int .i64 (at_ + 1))) := by
  go_enter Tryd.func27, Tryd.ntmps27
  go_wp2_with fail
  go_quiet (fail)
  go_wp2
  go_ret
  exact ⟨by simp, _, 0, rfl⟩

theorem cell_set_same {w : World} {B o : Nat} {u v : Value} (h : w.cell? ⟨B, o, none⟩ = some u) : (w.setCell ⟨B, o, none⟩ v).cell? ⟨B, o, none⟩ = some v := World.cell?_setCell_same _ _ _ h

theorem cell_set_off {w : World} {B o o' : Nat} {u v : Value} (h : w.cell? ⟨B, o', none⟩ = some u) (hn : o ≠ o') : (w.setCell ⟨B, o, none⟩ v).cell? ⟨B, o', none⟩ = some u :=
  (World.cell?_setCell_other _ _ _ _ (fun e => hn (by injection e))).trans h

theorem cur_set1 {w : World} {B : Nat} {a : Option Addr} {len cap : Nat} {at_ seed p : Int} (h : CurAt w B a len cap at_ seed) (hp : 0 ≤ p) : CurAt (w.setCell ⟨B, 1, none⟩ (.int .i64 p)) B a len cap p seed :=
  ⟨by simpa [World.setCell] using h.lt, cell_set_off h.c0 (by omega), cell_set_same h.c1, cell_set_off h.c2 (by omega), fun o => by rw [World.frozen?_setCell]; exact h.fz o, hp, h.s0, h.s1⟩

theorem cur_set2 {w : World} {B : Nat} {a : Option Addr} {len cap : Nat} {at_ seed p : Int} (h : CurAt w B a len cap at_ seed) (hp : 0 ≤ p) (hq : p ≤ 65520) : CurAt (w.setCell ⟨B, 2, none⟩ (.int .i64 p)) B a len cap at_ p :=
  ⟨by simpa [World.setCell] using h.lt, cell_set_off h.c0 (by omega), cell_set_off h.c1 (by omega), cell_set_same h.c2, fun o => by rw [World.frozen?_setCell]; exact h.fz o, h.p0, hp, hq⟩

theorem cur_drewN {w : World} {B : Nat} {a : Option Addr} {len cap : Nat} {at_ seed : Int} (h : CurAt w B a len cap at_ seed) (n : Nat) : CurAt (w.drewN n) B a len cap at_ seed := by
  have hb : Below w.heap.size w (w.drewN n) := below_drewN (Below.refl _ _) n
  exact ⟨Nat.lt_of_lt_of_le h.lt hb.size, held_cell hb h.c0 h.lt, held_cell hb h.c1 h.lt, held_cell hb h.c2 h.lt, fun o => (hb.frozen (p := ⟨B, o, none⟩) h.lt).trans (h.fz o), h.p0, h.s0, h.s1⟩

theorem pick_any (B : Nat) (a : Option Addr) (len cap : Nat) (N n : Int) (w : World) (hN : N ≤ 1000000) (hn : 2 ≤ n) (hn' : n ≤ 100000) (h : Cur w B a len cap N) :
    Calls Tryd.prog 27 #[.pointer (some ⟨B, 0, none⟩), .int .i64 n] w fun e w' => ∃ r : Int, e = .returned (.int .i64 r) ∧ 0 ≤ r ∧ r < n ∧ Cur w' B a len cap (N + 1) ∧ Hole B w w' := by
  obtain ⟨at_, seed, hc, hN', hk, hl⟩ := h
  have hs : 0 ≤ (seed * 1103 + 12345) % 65521 ∧ (seed * 1103 + 12345) % 65521 ≤ 65520 := by
    have := hc.s0
    have := hc.s1
    omega
  have hp := hc.p0
  rcases hk with h0 | ⟨b, o, rfl, hb, hz⟩
  · subst h0
    refine (pick_nil B a cap at_ seed n w hc.c0 hc.c1 hc.c2 hc.fz hc.p0 (by omega) hc.s0 hc.s1 hn hn').mono ?_
    rintro e w' ⟨rfl, m, m', rfl⟩
    exact ⟨_, rfl, (mod_lt hn).1, (mod_lt hn).2, ⟨at_ + 1, _, cur_set1 (cur_drewN (cur_set2 (cur_drewN hc m) hs.1 hs.2) m') (by omega), by omega, .inl rfl, hl⟩, ((((Hole.refl B w).drewN m).set 2 _).drewN m').set 1 _⟩
  · by_cases hlt : at_ < len
    · obtain ⟨z, z0, z1, hzc⟩ := hz at_.toNat (by omega)
      refine (pick_in B b o len cap at_ n z w hc.c0 hc.c1 hc.fz hzc z0 z1 hc.p0 hlt hl hn hn').mono ?_
      rintro e w' ⟨rfl, m, rfl⟩
      have hh : Hole B w ((w.drewN m).setCell ⟨B, 1, none⟩ (.int .i64 (at_ + 1))) := ((Hole.refl B w).drewN m).set 1 _
      exact ⟨_, rfl, (mod_lt hn).1, (mod_lt hn).2, ⟨at_ + 1, seed, cur_set1 (cur_drewN hc m) (by omega), by omega, (CodeAt.hole (.inr ⟨b, o, rfl, hb, hz⟩) hc.lt hh), hl⟩, hh⟩
    · by_cases h0 : len = 0
      · subst h0
        refine (pick_nil B _ cap at_ seed n w hc.c0 hc.c1 hc.c2 hc.fz hc.p0 (by omega) hc.s0 hc.s1 hn hn').mono ?_
        rintro e w' ⟨rfl, m, m', rfl⟩
        exact ⟨_, rfl, (mod_lt hn).1, (mod_lt hn).2, ⟨at_ + 1, _, cur_set1 (cur_drewN (cur_set2 (cur_drewN hc m) hs.1 hs.2) m') (by omega), by omega, .inl rfl, hl⟩, ((((Hole.refl B w).drewN m).set 2 _).drewN m').set 1 _⟩
      · have hl0 : (0 : Int) < len := by omega
        have i1 : (0 : Int) ≤ at_ % len := Int.emod_nonneg _ (by omega)
        have i2 : at_ % len < (len : Int) := Int.emod_lt_of_pos _ hl0
        obtain ⟨z, z0, z1, hzc⟩ := hz (at_ % len).toNat (by omega)
        refine (pick_out B b o len cap at_ seed n z w (by omega) hc.c0 hc.c1 hc.c2 hc.fz hzc z0 z1 hc.p0 (by omega) (by omega) hc.s0 hc.s1 hl0 hl hn hn').mono ?_
        rintro e w' ⟨rfl, m, m', rfl⟩
        have hh : Hole B w ((((w.drewN m).setCell ⟨B, 2, none⟩ (.int .i64 ((seed * 1103 + 12345) % 65521))).drewN m').setCell ⟨B, 1, none⟩ (.int .i64 (at_ + 1))) := ((((Hole.refl B w).drewN m).set 2 _).drewN m').set 1 _
        exact ⟨_, rfl, (mod_lt hn).1, (mod_lt hn).2, ⟨at_ + 1, _, cur_set1 (cur_drewN (cur_set2 (cur_drewN hc m) hs.1 hs.2) m') (by omega), by omega, (CodeAt.hole (.inr ⟨b, o, rfl, hb, hz⟩) hc.lt hh), hl⟩, hh⟩

set_option maxHeartbeats 400000 in
theorem once_any (B : Nat) (a : Option Addr) (len cap : Nat) (N n : Int) (w : World) (hN : N ≤ 1000000) (hn : 2 ≤ n) (hn' : n ≤ 100000) (h : Cur w B a len cap N) :
    Calls Tryd.prog 60 #[.pointer (some ⟨B, 0, none⟩), .int .i64 n] w fun e w' => ∃ r : Bool, e = .returned (.bool r) ∧ Cur w' B a len cap (N + 1) ∧ Hole B w w' := by
  have HC : Hid (Cur w B a len cap N) := h
  clear h
  go_enter Tryd.func60, Tryd.ntmps60
  go_wp2_with fail
  refine (pick_any B a len cap N n _ hN hn hn' HC.out).mono ?_
  rintro e w1 ⟨r, rfl, r0, r1, hc1, hh1⟩
  have HC1 : Hid (Cur w1 B a len cap (N + 1)) := hc1
  have HH1 : Hid (Hole B w w1) := hh1
  clear hc1 hh1
  go_wp2
  go_ret
  exact ⟨_, rfl, HC1.out, HH1.out⟩

theorem Hole.setNew {B R : Nat} {w w' : World} (h : Hole B w w') (hR : w.heap.size ≤ R) (o : Nat) (v : Value) : Hole B w (w'.setCell ⟨R, o, none⟩ v) :=
  ⟨h.os, h.tape, h.output, by simpa [World.setCell] using h.size, fun k hk hn => (Below.heap_setCell _ _ _ _ (by show k ≠ R; omega)).trans (h.block k hk hn)⟩

theorem Cur.setOther {w : World} {B R : Nat} {a : Option Addr} {len cap : Nat} {N : Int} (h : Cur w B a len cap N) (hR : B < R) (o : Nat) (v : Value) : Cur (w.setCell ⟨R, o, none⟩ v) B a len cap N := by
  obtain ⟨at_, seed, hc, hN, hk, hl⟩ := h
  have hne : ∀ b o', b < R → (Addr.mk R o none) ≠ ⟨b, o', none⟩ := fun b o' hb e => by
    have : R = b := by injection e
    omega
  refine ⟨at_, seed, ⟨by simpa [World.setCell] using hc.lt, (World.cell?_setCell_other _ _ _ _ (hne _ _ hR)).trans hc.c0, (World.cell?_setCell_other _ _ _ _ (hne _ _ hR)).trans hc.c1, (World.cell?_setCell_other _ _ _ _ (hne _ _ hR)).trans hc.c2, fun o => by rw [World.frozen?_setCell]; exact hc.fz o, hc.p0, hc.s0, hc.s1⟩, hN, ?_, hl⟩
  rcases hk with h0 | ⟨b, o', ha, hb, hz⟩
  · exact .inl h0
  · refine .inr ⟨b, o', ha, hb, fun i hi => ?_⟩
    obtain ⟨z, z0, z1, hcz⟩ := hz i hi
    exact ⟨z, z0, z1, (World.cell?_setCell_other _ _ _ _ (hne _ _ (by omega))).trans hcz⟩

/-- A tag in a block of its own. -/
structure TagBox (w : World) (b : Nat) (c s q : Int) : Prop where
  lt : b < w.heap.size
  c0 : w.cell? ⟨b, 0, none⟩ = some (.int .i64 c)
  c1 : w.cell? ⟨b, 1, none⟩ = some (.int .i64 s)
  c2 : w.cell? ⟨b, 2, none⟩ = some (.int .i64 q)
  fz : ∀ o, w.frozen? ⟨b, o, none⟩ = false

theorem TagBox.start (w : World) (c s q : Int) (t : Nat) : TagBox (w.alloc (.cells #[.int .i64 c, .int .i64 s, .int .i64 q] t)) w.heap.size c s q :=
  ⟨by simp, by simp [go_sem], by simp [go_sem], by simp [go_sem], fun o => by simp [go_sem]⟩

theorem TagBox.hole {w w' : World} {B b : Nat} {c s q : Int} (h : TagBox w b c s q) (hh : Hole B w w') (hn : b ≠ B) : TagBox w' b c s q :=
  ⟨Nat.lt_of_lt_of_le h.lt hh.size, (hh.cell h.lt hn).trans h.c0, (hh.cell h.lt hn).trans h.c1, (hh.cell h.lt hn).trans h.c2, fun o => (hh.frozen h.lt hn).trans (h.fz o)⟩

theorem ints_cell (w : World) (l : List Int) (t i : Nat) (hi : i < l.length) : (w.alloc (.cells (l.map (Value.int .i64)).toArray t)).cell? ⟨w.heap.size, i, none⟩ = some (.int .i64 (l.getD i 0)) := by
  simp [go_sem, List.getD, hi]

set_option maxHeartbeats 1000000 in
theorem raw_any (B : Nat) (a : Option Addr) (len cap : Nat) (N : Int) (w : World) (hN : N ≤ 100000) (h : Cur w B a len cap N) :
    Calls Tryd.prog 26 #[.pointer (some ⟨B, 0, none⟩)] w fun e w' => ∃ r : Int, e = .returned (.int .i64 r) ∧ Cur w' B a len cap (N + 2) ∧ Hole B w w' := by
  have HC : Hid (Cur w B a len cap N) := h
  clear h
  go_enter Tryd.func26, Tryd.ntmps26
  go_wp2_with fail
  refine (pick_any B a len cap N 8 _ (by omega) (by omega) (by omega) HC.out).mono ?_
  rintro e w1 ⟨r, rfl, r0, r1, hc1, hh1⟩
  have HC1 : Hid (Cur w1 B a len cap (N + 1)) := hc1
  have HH1 : Hid (Hole B w w1) := hh1
  clear hc1 hh1
  by_cases k0 : r = 0
  · subst k0
    go_wp2_with fail
    refine (pick_any B a len cap (N + 1) 256 _ (by omega) (by omega) (by omega) HC1.out).mono ?_
    rintro e w2 ⟨r2, rfl, q0, q1, hc2, hh2⟩
    have HC2 : Hid (Cur w2 B a len cap (N + 2)) := hc2.more (by omega)
    have HH2 : Hid (Hole B w w2) := HH1.out.trans hh2
    clear hc2 hh2
    go_wp2
    go_ret
    exact ⟨_, rfl, HC2.out, HH2.out⟩
  · by_cases k1 : r = 1
    · subst k1
      go_wp2_with fail
      have HA : Hid (Below w1.heap.size w1 (w1.alloc (.cells ((([9223372036854775807, -9223372036854775808, 4611686018427387904, 1000, 1001, -1000, 100000, 100001] : List Int).map (Value.int .i64)).toArray) 3))) := (Below.refl _ _).alloc (Nat.le_refl _) _
      refine (pick_any B a len cap (N + 1) 8 _ (by omega) (by omega) (by omega) (HC1.out.below HA.out)).mono ?_
      rintro e w2 ⟨r2, rfl, q0, q1, hc2, hh2⟩
      have HC2 : Hid (Cur w2 B a len cap (N + 2)) := hc2.more (by omega)
      have HH2 : Hid (Hole B w w2) := (HH1.out.trans (Hole.of_below HA.out)).trans hh2
      have hcell : w2.cell? ⟨w1.heap.size, r2.toNat, none⟩ = some (.int .i64 _) := (hh2.cell (by simp) (by have := HC1.out.lt; omega)).trans (ints_cell w1 [9223372036854775807, -9223372036854775808, 4611686018427387904, 1000, 1001, -1000, 100000, 100001] _ r2.toNat (by simp; omega))
      generalize List.getD [9223372036854775807, -9223372036854775808, 4611686018427387904, 1000, 1001, -1000, 100000, 100001] r2.toNat 0 = v at hcell
      clear hc2 hh2 HA
      go_wp2
      go_ret
      exact ⟨_, rfl, HC2.out, HH2.out⟩
    · have k0' : (r == 0) = false := by simp [k0]
      have k1' : (r == 1) = false := by simp [k1]
      clear k0 k1
      go_wp2_with fail
      refine (pick_any B a len cap (N + 1) 14 _ (by omega) (by omega) (by omega) HC1.out).mono ?_
      rintro e w2 ⟨r2, rfl, q0, q1, hc2, hh2⟩
      have HC2 : Hid (Cur w2 B a len cap (N + 2)) := hc2.more (by omega)
      have HH2 : Hid (Hole B w w2) := HH1.out.trans hh2
      clear hc2 hh2
      go_wp2
      go_ret
      exact ⟨_, rfl, HC2.out, HH2.out⟩

end Go.Proofs.YtidpcjcnhklmpacDoor

/- The contracts of l01Open and of the cursor's tag. -/
namespace Go.Proofs.YtidpcjcnhklmpacDoor
open Go.ChangeShapes Go.WideShapes Go.ChangeAt Go.RowKit Go.Joins

/-- What a code that came in is: bytes in a block that was there. -/
def Bytes (w : World) (a : Option Addr) (len : Nat) : Prop :=
  len = 0 ∨ ∃ b o, a = some ⟨b, o, none⟩ ∧ b < w.heap.size ∧ ∀ i, i < len → ∃ z : Int, 0 ≤ z ∧ z ≤ 255 ∧ w.cell? ⟨b, o + i, none⟩ = some (.int .u8 z)

theorem Bytes.below {w w' : World} {a : Option Addr} {len : Nat} (h : Bytes w a len) (hb : Below w.heap.size w w') : Bytes w' a len := by
  rcases h with h | ⟨b, o, ha, hlt, hz⟩
  · exact .inl h
  · refine .inr ⟨b, o, ha, Nat.lt_of_lt_of_le hlt hb.size, fun i hi => ?_⟩
    obtain ⟨z, z0, z1, hc⟩ := hz i hi
    exact ⟨z, z0, z1, held_cell hb hc hlt⟩

theorem cur_start {w : World} {a : Option Addr} {len cap : Nat} (sd : Int) (t : Nat) (h : Bytes w a len) (hl : len ≤ 1048576) (s0 : 0 ≤ sd) (s1 : sd ≤ 65520) :
    Cur (w.alloc (.cells #[.slice a len cap, .int .i64 0, .int .i64 sd] t)) w.heap.size a len cap 0 := by
  refine ⟨0, sd, ⟨by simp, by simp [go_sem], by simp [go_sem], by simp [go_sem], fun o => by simp [go_sem], by omega, s0, s1⟩, by omega, ?_, hl⟩
  rcases h with h | ⟨b, o, ha, hlt, hz⟩
  · exact .inl h
  · refine .inr ⟨b, o, ha, hlt, fun i hi => ?_⟩
    obtain ⟨z, z0, z1, hc⟩ := hz i hi
    exact ⟨z, z0, z1, held_cell ((Below.refl _ _).alloc (Nat.le_refl _) _) hc hlt⟩

set_option maxHeartbeats 400000 in
theorem open_any (a : Option Addr) (len cap : Nat) (w : World) (h : Bytes w a len) (hl : len ≤ 1048576) :
    Calls Tryd.prog 24 #[.slice a len cap] w fun e w' => e = .returned (.pointer (some ⟨w.heap.size, 0, none⟩)) ∧ Cur w' w.heap.size a len cap 0 ∧ Below w.heap.size w w' := by
  have HB : Hid (Bytes w a len) := h
  clear h
  go_enter Tryd.func24, Tryd.ntmps24
  go_wp2
  go_ret
  exact ⟨rfl, cur_start _ _ HB.out hl (by omega) (by omega), (Below.refl _ _).alloc (Nat.le_refl _) _⟩

theorem TagBox.set0 {w : World} {b : Nat} {c s q : Int} (h : TagBox w b c s q) (x : Int) : TagBox (w.setCell ⟨b, 0, none⟩ (.int .i64 x)) b x s q :=
  ⟨by simpa [World.setCell] using h.lt, cell_set_same h.c0, cell_set_off h.c1 (by omega), cell_set_off h.c2 (by omega), fun o => by rw [World.frozen?_setCell]; exact h.fz o⟩

theorem TagBox.set1 {w : World} {b : Nat} {c s q : Int} (h : TagBox w b c s q) (x : Int) : TagBox (w.setCell ⟨b, 1, none⟩ (.int .i64 x)) b c x q :=
  ⟨by simpa [World.setCell] using h.lt, cell_set_off h.c0 (by omega), cell_set_same h.c1, cell_set_off h.c2 (by omega), fun o => by rw [World.frozen?_setCell]; exact h.fz o⟩

theorem TagBox.set2 {w : World} {b : Nat} {c s q : Int} (h : TagBox w b c s q) (x : Int) : TagBox (w.setCell ⟨b, 2, none⟩ (.int .i64 x)) b c s x :=
  ⟨by simpa [World.setCell] using h.lt, cell_set_off h.c0 (by omega), cell_set_off h.c1 (by omega), cell_set_same h.c2, fun o => by rw [World.frozen?_setCell]; exact h.fz o⟩

/-- How a tag's drawing ends, out of any world in which both boxes stand. -/
theorem tag_end {B R : Nat} {a : Option Addr} {len cap : Nat} {N : Int} {w w' : World} {c s q : Int} (hR : w.heap.size ≤ R) (hB : B < w.heap.size) (hc : Cur w' B a len cap N) (hh : Hole B w w') :
    Cur (((w'.setCell ⟨R, 0, none⟩ (.int .i64 c)).setCell ⟨R, 1, none⟩ (.int .i64 s)).setCell ⟨R, 2, none⟩ (.int .i64 q)) B a len cap N ∧ Hole B w (((w'.setCell ⟨R, 0, none⟩ (.int .i64 c)).setCell ⟨R, 1, none⟩ (.int .i64 s)).setCell ⟨R, 2, none⟩ (.int .i64 q)) :=
  ⟨((hc.setOther (by omega) 0 _).setOther (by omega) 1 _).setOther (by omega) 2 _, ((hh.setNew hR 0 _).setNew hR 1 _).setNew hR 2 _⟩

set_option maxHeartbeats 2000000 in
theorem tag_any (B : Nat) (a : Option Addr) (len cap : Nat) (N : Int) (w : World) (hN : N ≤ 10000) (h : Cur w B a len cap N) :
    Calls Tryd.prog 89 #[.pointer (some ⟨B, 0, none⟩)] w fun e w' => ∃ c s q : Int, e = .returned (tagV c s q) ∧ Cur w' B a len cap (N + 9) ∧ Hole B w w' := by
  have HC : Hid (Cur w B a len cap N) := h
  have hB := h.lt
  clear h
  go_enter Tryd.func89, Tryd.ntmps89
  go_wp2_with fail
  have HRb : Hid (TagBox (w.alloc (.cells #[.int .i64 0, .int .i64 0, .int .i64 0] 78)) w.heap.size 0 0 0) := TagBox.start _ _ _ _ _
  have HA : Hid (Below w.heap.size w (w.alloc (.cells #[.int .i64 0, .int .i64 0, .int .i64 0] 78))) := (Below.refl _ _).alloc (Nat.le_refl _) _
  refine (pick_any B a len cap N 12 _ (by omega) (by omega) (by omega) (HC.out.below HA.out)).mono ?_
  rintro e w1 ⟨r1, rfl, q10, q11, hc1, hh1⟩
  have HC1 : Hid (Cur w1 B a len cap (N + 1)) := hc1
  have HR1 : Hid (TagBox w1 w.heap.size 0 0 0) := HRb.out.hole hh1 (by omega)
  have HH1 : Hid (Hole B w w1) := (Hole.of_below HA.out).trans hh1
  clear hc1 hh1 HRb HA
  go_wp2_with fail
  refine (pick_any B a len cap (N + 1) 4 _ (by omega) (by omega) (by omega) HC1.out).mono ?_
  rintro e w2 ⟨r2, rfl, q20, q21, hc2, hh2⟩
  have HC2 : Hid (Cur w2 B a len cap (N + 2)) := hc2.more (by omega)
  have HR2 : Hid (TagBox w2 w.heap.size 0 0 0) := HR1.out.hole hh2 (by omega)
  have HH2 : Hid (Hole B w w2) := HH1.out.trans hh2
  clear hc2 hh2 HC1 HR1 HH1
  go_wp2_with fail
  refine (pick_any B a len cap (N + 2) 6 _ (by omega) (by omega) (by omega) HC2.out).mono ?_
  rintro e w3 ⟨r3, rfl, q30, q31, hc3, hh3⟩
  have HC3 : Hid (Cur w3 B a len cap (N + 3)) := hc3.more (by omega)
  have HR3 : Hid (TagBox w3 w.heap.size 0 0 0) := HR2.out.hole hh3 (by omega)
  have HH3 : Hid (Hole B w w3) := HH2.out.trans hh3
  clear hc3 hh3 HC2 HR2 HH2
  have hz3 := HR3.out.lt
  go_wp2_with fail
  have HA : Hid (Below w3.heap.size w3 (w3.alloc (.cells #[.int .i64 (1 + r1), .int .i64 r2, .int .i64 (1 + r3)] 78))) := (Below.refl _ _).alloc (Nat.le_refl _) _
  have HT : Hid (TagBox (w3.alloc (.cells #[.int .i64 (1 + r1), .int .i64 r2, .int .i64 (1 + r3)] 78)) w3.heap.size (1 + r1) r2 (1 + r3)) := TagBox.start _ _ _ _ _
  refine (once_any B a len cap (N + 3) 14 _ (by omega) (by omega) (by omega) (HC3.out.below HA.out)).mono ?_
  rintro e w4 ⟨b4, rfl, hc4, hh4⟩
  have HC4 : Hid (Cur w4 B a len cap (N + 4)) := hc4.more (by omega)
  have HR4 : Hid (TagBox w4 w.heap.size 0 0 0) := (HR3.out.hole (Hole.of_below (B := B) HA.out) (by omega)).hole hh4 (by omega)
  have HT4 : Hid (TagBox w4 w3.heap.size (1 + r1) r2 (1 + r3)) := HT.out.hole hh4 (by omega)
  have HH4 : Hid (Hole B w w4) := (HH3.out.trans (Hole.of_below HA.out)).trans hh4
  clear hc4 hh4 HC3 HR3 HH3 HA HT
  generalize 1 + r1 = c at *
  generalize 1 + r3 = q at *
  cases b4
  · have x0 := HR4.out.c0
    have x1 := HR4.out.c1
    have x2 := HR4.out.c2
    have xf := HR4.out.fz
    have y0 := HT4.out.c0
    have y1 := HT4.out.c1
    have y2 := HT4.out.c2
    go_wp2
    have HE := tag_end (R := w.heap.size) (c := c) (s := r2) (q := q) (Nat.le_refl _) hB (HC4.out.more (by omega : N + 4 ≤ N + 9)) HH4.out
    exact bodyPost_ret (v := tagV c r2 q) (by simp [results, Tryd.results89, go_sem, x0, x1, x2]) rfl ⟨c, r2, q, rfl, HE.1, HE.2⟩
  · have xne : w3.heap.size ≠ w.heap.size := by omega
    go_wp2_with fail
    refine (pick_any B a len cap (N + 4) 3 _ (by omega) (by omega) (by omega) HC4.out).mono ?_
    rintro e w5 ⟨r5, rfl, q50, q51, hc5, hh5⟩
    have HC5 : Hid (Cur w5 B a len cap (N + 5)) := hc5.more (by omega)
    have HR5 : Hid (TagBox w5 w.heap.size 0 0 0) := HR4.out.hole hh5 (by omega)
    have HT5 : Hid (TagBox w5 w3.heap.size c r2 q) := HT4.out.hole hh5 (by omega)
    have HH5 : Hid (Hole B w w5) := HH4.out.trans hh5
    clear hc5 hh5 HC4 HR4 HT4 HH4
    by_cases k0 : r5 = 0
    · subst k0
      go_wp2_with fail
      refine (raw_any B a len cap (N + 5) _ (by omega) HC5.out).mono ?_
      rintro e w6 ⟨v, rfl, hc6, hh6⟩
      have HC6 : Hid (Cur w6 B a len cap (N + 7)) := hc6.more (by omega)
      have HR6 : Hid (TagBox w6 w.heap.size 0 0 0) := HR5.out.hole hh6 (by omega)
      have HT6 : Hid (TagBox w6 w3.heap.size c r2 q) := HT5.out.hole hh6 (by omega)
      have HH6 : Hid (Hole B w w6) := HH5.out.trans hh6
      clear hc6 hh6 HC5 HR5 HT5 HH5
      go_wp2_with fail
      have HA : Hid (Below w6.heap.size w6 (w6.alloc (.cells ((([v, 100000, 100001] : List Int).map (Value.int .i64)).toArray) 3))) := (Below.refl _ _).alloc (Nat.le_refl _) _
      refine (pick_any B a len cap (N + 7) 3 _ (by omega) (by omega) (by omega) (HC6.out.below HA.out)).mono ?_
      rintro e w7 ⟨r7, rfl, q70, q71, hc7, hh7⟩
      have hB6 := HC6.out.lt
      have hcell : w7.cell? ⟨w6.heap.size, r7.toNat, none⟩ = some (.int .i64 _) := (hh7.cell (by simp) (by omega)).trans (ints_cell w6 [v, 100000, 100001] _ r7.toNat (by simp; omega))
      generalize List.getD [v, 100000, 100001] r7.toNat 0 = u at hcell
      have HC7 : Hid (Cur w7 B a len cap (N + 8)) := hc7.more (by omega)
      have HR7 : Hid (TagBox w7 w.heap.size 0 0 0) := (HR6.out.hole (Hole.of_below (B := B) HA.out) (by omega)).hole hh7 (by omega)
      have HT7 : Hid (TagBox w7 w3.heap.size c r2 q) := (HT6.out.hole (Hole.of_below (B := B) HA.out) (by omega)).hole hh7 (by omega)
      have HH7 : Hid (Hole B w w7) := (HH6.out.trans (Hole.of_below HA.out)).trans hh7
      clear hc7 hh7 HC6 HR6 HT6 HH6 HA
      have x0 := HR7.out.c0
      have x1 := HR7.out.c1
      have x2 := HR7.out.c2
      have xf := HR7.out.fz
      have y0 := HT7.out.c0
      have y1 := HT7.out.c1
      have y2 := HT7.out.c2
      have yf := HT7.out.fz
      go_wp2
      have HE := tag_end (R := w.heap.size) (c := u) (s := r2) (q := q) (Nat.le_refl _) hB ((HC7.out.setOther (R := w3.heap.size) (by omega) 0 (.int .i64 u)).more (by omega : N + 8 ≤ N + 9)) (HH7.out.setNew (R := w3.heap.size) (by omega) 0 (.int .i64 u))
      exact bodyPost_ret (v := tagV u r2 q) (by simp [results, Tryd.results89, go_sem, x0, x1, x2]) rfl ⟨u, r2, q, rfl, HE.1, HE.2⟩
    · by_cases k1 : r5 = 1
      · subst k1
        go_wp2_with fail
        refine (raw_any B a len cap (N + 5) _ (by omega) HC5.out).mono ?_
        rintro e w6 ⟨v, rfl, hc6, hh6⟩
        have HC6 : Hid (Cur w6 B a len cap (N + 7)) := hc6.more (by omega)
        have HR6 : Hid (TagBox w6 w.heap.size 0 0 0) := HR5.out.hole hh6 (by omega)
        have HT6 : Hid (TagBox w6 w3.heap.size c r2 q) := HT5.out.hole hh6 (by omega)
        have HH6 : Hid (Hole B w w6) := HH5.out.trans hh6
        clear hc6 hh6 HC5 HR5 HT5 HH5
        have x0 := HR6.out.c0
        have x1 := HR6.out.c1
        have x2 := HR6.out.c2
        have xf := HR6.out.fz
        have y0 := HT6.out.c0
        have y1 := HT6.out.c1
        have y2 := HT6.out.c2
        have yf := HT6.out.fz
        go_wp2
        have HE := tag_end (R := w.heap.size) (c := c) (s := v) (q := q) (Nat.le_refl _) hB ((HC6.out.setOther (R := w3.heap.size) (by omega) 1 (.int .i64 v)).more (by omega : N + 7 ≤ N + 9)) (HH6.out.setNew (R := w3.heap.size) (by omega) 1 (.int .i64 v))
        exact bodyPost_ret (v := tagV c v q) (by simp [results, Tryd.results89, go_sem, x0, x1, x2]) rfl ⟨c, v, q, rfl, HE.1, HE.2⟩
      · have k0' : (r5 == 0) = false := by simp [k0]
        have k1' : (r5 == 1) = false := by simp [k1]
        clear k0 k1
        go_wp2_with fail
        refine (raw_any B a len cap (N + 5) _ (by omega) HC5.out).mono ?_
        rintro e w6 ⟨v, rfl, hc6, hh6⟩
        have HC6 : Hid (Cur w6 B a len cap (N + 7)) := hc6.more (by omega)
        have HR6 : Hid (TagBox w6 w.heap.size 0 0 0) := HR5.out.hole hh6 (by omega)
        have HT6 : Hid (TagBox w6 w3.heap.size c r2 q) := HT5.out.hole hh6 (by omega)
        have HH6 : Hid (Hole B w w6) := HH5.out.trans hh6
        clear hc6 hh6 HC5 HR5 HT5 HH5
        go_wp2_with fail
        have HA : Hid (Below w6.heap.size w6 (w6.alloc (.cells ((([v, 1000, 1001] : List Int).map (Value.int .i64)).toArray) 3))) := (Below.refl _ _).alloc (Nat.le_refl _) _
        refine (pick_any B a len cap (N + 7) 3 _ (by omega) (by omega) (by omega) (HC6.out.below HA.out)).mono ?_
        rintro e w7 ⟨r7, rfl, q70, q71, hc7, hh7⟩
        have hB6 := HC6.out.lt
        have hcell : w7.cell? ⟨w6.heap.size, r7.toNat, none⟩ = some (.int .i64 _) := (hh7.cell (by simp) (by omega)).trans (ints_cell w6 [v, 1000, 1001] _ r7.toNat (by simp; omega))
        generalize List.getD [v, 1000, 1001] r7.toNat 0 = u at hcell
        have HC7 : Hid (Cur w7 B a len cap (N + 8)) := hc7.more (by omega)
        have HR7 : Hid (TagBox w7 w.heap.size 0 0 0) := (HR6.out.hole (Hole.of_below (B := B) HA.out) (by omega)).hole hh7 (by omega)
        have HT7 : Hid (TagBox w7 w3.heap.size c r2 q) := (HT6.out.hole (Hole.of_below (B := B) HA.out) (by omega)).hole hh7 (by omega)
        have HH7 : Hid (Hole B w w7) := (HH6.out.trans (Hole.of_below HA.out)).trans hh7
        clear hc7 hh7 HC6 HR6 HT6 HH6 HA
        have x0 := HR7.out.c0
        have x1 := HR7.out.c1
        have x2 := HR7.out.c2
        have xf := HR7.out.fz
        have y0 := HT7.out.c0
        have y1 := HT7.out.c1
        have y2 := HT7.out.c2
        have yf := HT7.out.fz
        go_wp2
        have HE := tag_end (R := w.heap.size) (c := c) (s := r2) (q := u) (Nat.le_refl _) hB ((HC7.out.setOther (R := w3.heap.size) (by omega) 2 (.int .i64 u)).more (by omega : N + 8 ≤ N + 9)) (HH7.out.setNew (R := w3.heap.size) (by omega) 2 (.int .i64 u))
        exact bodyPost_ret (v := tagV c r2 u) (by simp [results, Tryd.results89, go_sem, x0, x1, x2]) rfl ⟨c, r2, u, rfl, HE.1, HE.2⟩

end Go.Proofs.YtidpcjcnhklmpacDoor

/- The contract of the cursor's deps. -/
namespace Go.Proofs.YtidpcjcnhklmpacDoor
open Go.ChangeShapes Go.WideShapes Go.ChangeAt Go.RowKit Go.Joins

theorem Cur.belowAt {w w' : World} {B c : Nat} {a : Option Addr} {len cap : Nat} {N : Int} (h : Cur w B a len cap N) (hb : Below c w w') (hB : B < c) : Cur w' B a len cap N := by
  obtain ⟨at_, seed, hc, hN, hk, hl⟩ := h
  have hcell : ∀ b o, b < c → w'.cell? ⟨b, o, none⟩ = w.cell? ⟨b, o, none⟩ := fun b o h => hb.cell (p := ⟨b, o, none⟩) h
  refine ⟨at_, seed, ⟨Nat.lt_of_lt_of_le hc.lt hb.size, (hcell _ _ hB).trans hc.c0, (hcell _ _ hB).trans hc.c1, (hcell _ _ hB).trans hc.c2, fun o => (hb.frozen (p := ⟨B, o, none⟩) hB).trans (hc.fz o), hc.p0, hc.s0, hc.s1⟩, hN, ?_, hl⟩
  rcases hk with h0 | ⟨b, o, ha, hlt, hz⟩
  · exact .inl h0
  · refine .inr ⟨b, o, ha, hlt, fun i hi => ?_⟩
    obtain ⟨z, z0, z1, hcz⟩ := hz i hi
    exact ⟨z, z0, z1, (hcell _ _ (by omega)).trans hcz⟩

theorem Hole.belowAt {B : Nat} {w0 w w' : World} (h : Hole B w0 w) (hb : Below w0.heap.size w w') : Hole B w0 w' :=
  ⟨hb.os.trans h.os, hb.tape.trans h.tape, hb.output.trans h.output, Nat.le_trans h.size hb.size, fun k hk hn => (hb.block k hk).trans (h.block k hk hn)⟩

def flat (ds : List Dp) : List Value := ds.flatMap fun d => [.int .i64 d.k, .int .i64 d.c, .int .i64 d.s, .int .i64 d.q]

theorem flat_length : ∀ ds : List Dp, (flat ds).length = ds.length * 4
  | [] => rfl
  | d :: r => by
    have := flat_length r
    simp only [flat, List.flatMap_cons, List.length_append, List.length_cons, List.length_nil] at this ⊢
    omega

theorem flat_snoc (ds : List Dp) (d : Dp) : flat (ds ++ [d]) = flat ds ++ [.int .i64 d.k, .int .i64 d.c, .int .i64 d.s, .int .i64 d.q] := by
  simp [flat]

theorem flat_at : ∀ (ds : List Dp) (i : Nat), i < ds.length → (flat ds)[i * 4]? = some (.int .i64 (ds.getD i dz).k) ∧ (flat ds)[i * 4 + 1]? = some (.int .i64 (ds.getD i dz).c) ∧ (flat ds)[i * 4 + 2]? = some (.int .i64 (ds.getD i dz).s) ∧ (flat ds)[i * 4 + 3]? = some (.int .i64 (ds.getD i dz).q)
  | [], _, h => by simp at h
  | d :: r, 0, _ => by simp [flat]
  | d :: r, i + 1, h => by
    have ih := flat_at r i (by simpa using h)
    have e : flat (d :: r) = [.int .i64 d.k, .int .i64 d.c, .int .i64 d.s, .int .i64 d.q] ++ flat r := by simp [flat]
    rw [e]
    have g : (d :: r).getD (i + 1) dz = r.getD i dz := by simp
    rw [g]
    refine ⟨?_, ?_, ?_, ?_⟩
    · rw [List.getElem?_append_right (by simp; omega)]
      simpa [show (i + 1) * 4 - 4 = i * 4 by omega] using ih.1
    · rw [List.getElem?_append_right (by simp; omega)]
      simpa [show (i + 1) * 4 + 1 - 4 = i * 4 + 1 by omega] using ih.2.1
    · rw [List.getElem?_append_right (by simp; omega)]
      simpa [show (i + 1) * 4 + 2 - 4 = i * 4 + 2 by omega] using ih.2.2.1
    · rw [List.getElem?_append_right (by simp; omega)]
      simpa [show (i + 1) * 4 + 3 - 4 = i * 4 + 3 by omega] using ih.2.2.2

/-- A list of dependencies of the call's own: its slice, and the row that it leads to. -/
structure OwnDeps (w : World) (base g cap : Nat) (ds : List Dp) : Prop where
  le : base ≤ g
  lt : g < w.heap.size
  own : w.ownsRow base 102 4 (.slice (some ⟨g, 0, none⟩) ds.length cap) ds.length (flat ds)

theorem OwnDeps.holds {w : World} {base g cap : Nat} {ds : List Dp} (h : OwnDeps w base g cap ds) : HoldsDeps w g 0 ds := by
  intro i hi
  obtain ⟨_, h1 | ⟨g', cap', cur, hv, _, hb, _, _, _, htake⟩⟩ := h.own
  · obtain ⟨h1, _⟩ := h1
    cases h1
  · have hg : g = g' := by
      injection hv with h1
      injection h1 with h1
      injection h1
    subst hg
    have hc : ∀ j, j < ds.length * 4 → w.cell? ⟨g, j, none⟩ = (flat ds)[j]? := by
      intro j hj
      rw [cell_of_row w g j cur _ _ hb, ← htake, List.getElem?_take_of_lt hj]
      simp
    have ha := flat_at ds i hi
    rw [Nat.zero_add]
    exact ⟨(hc _ (by omega)).trans ha.1, (hc _ (by omega)).trans ha.2.1, (hc _ (by omega)).trans ha.2.2.1, (hc _ (by omega)).trans ha.2.2.2⟩

theorem OwnDeps.hole {w w' : World} {B base g cap : Nat} {ds : List Dp} (h : OwnDeps w base g cap ds) (hh : Hole B w w') (hB : B < base) : OwnDeps w' base g cap ds := by
  refine ⟨h.le, Nat.lt_of_lt_of_le h.lt hh.size, h.own.1, ?_⟩
  rcases h.own.2 with h1 | ⟨g', cap', cur, hv, hb, hblk, r1, r2, r3, r4⟩
  · exact .inl h1
  · have hg : g = g' := by
      injection hv with h1
      injection h1 with h1
      injection h1
    subst hg
    exact .inr ⟨g, cap', cur, hv, hb, (hh.block g h.lt (by have := h.le; omega)).trans hblk, r1, r2, r3, r4⟩

theorem infoDep' : (Tryd.prog.info? 102).map (fun i => (i.zero, i.size, i.bytes)) = some (some (depV 0 0 0 0), 4, 32) := by kernel_rfl

theorem own_start (w : World) (base : Nat) (hb : base ≤ w.heap.size) : OwnDeps (w.alloc (.cells #[] 102)) base w.heap.size 0 [] :=
  ⟨hb, by simp, World.ownsRow_made w #[] 0 hb (by simp [maxLen]) (by simp)⟩

/-- Behind an append of one element. -/
theorem own_next {w W w1 : World} {base g g' cap' : Nat} {ds : List Dp} {d : Dp} (hle : base ≤ g) (hW : Below w.heap.size w W)
    (hown1 : w1.ownsRow base 102 4 (.slice (some ⟨g', 0, none⟩) (ds.length + 1) cap') (ds.length + 1) (flat ds ++ [.int .i64 d.k, .int .i64 d.c, .int .i64 d.s, .int .i64 d.q])) (hgrow : W.grownBy w1 (some g)) (hlt : g' < w1.heap.size) (hb : base ≤ w.heap.size) :
    OwnDeps w1 base g' cap' (ds ++ [d]) ∧ Below base w w1 := by
  have e : (ds ++ [d]).length = ds.length + 1 := by simp
  refine ⟨⟨?_, hlt, by rw [e, flat_snoc]; exact hown1⟩, ?_⟩
  · rcases hown1.2 with h1 | ⟨g2, _, _, hv, hb2, _⟩
    · obtain ⟨h1, _⟩ := h1
      cases h1
    · have hg : g' = g2 := by
        injection hv with h1
        injection h1 with h1
        injection h1
      omega
  · exact (hW.mono hb).trans ((Below.refl base W).grown hgrow (Nat.le_trans hb hW.size) (fun k hk => by injection hk with hk; omega))

set_option maxRecDepth 100000 in
set_option maxHeartbeats 4000000 in
theorem deps_any (B : Nat) (a : Option Addr) (len cap : Nat) (N : Int) (w : World) (hN : N ≤ 5000) (h : Cur w B a len cap N) :
    Calls Tryd.prog 90 #[.pointer (some ⟨B, 0, none⟩)] w fun e w' => ∃ (g cp : Nat) (ds : List Dp), e = .returned (.slice (some ⟨g, 0, none⟩) ds.length cp) ∧ ds.length ≤ 7 ∧ OwnDeps w' w.heap.size g cp ds ∧ Cur w' B a len cap (N + 40) ∧ Hole B w w' := by
  have HC : Hid (Cur w B a len cap N) := h
  have hB := h.lt
  obtain ⟨i0, hi0, hz0, hz1, hz2⟩ := info_parts infoDep'
  have HI0 : Hid (Tryd.prog.info? 102 = some i0) := hi0
  have HZ0 : Hid (i0.zero = some (depV 0 0 0 0)) := hz0
  have HZ1 : Hid (i0.size = 4) := hz1
  have HZ2 : Hid (i0.bytes = 32) := hz2
  clear h hi0 hz0 hz1 hz2
  go_enter Tryd.func90, Tryd.ntmps90
  go_wp2
  go_loopw [3, 4] (fun o i wr => ∃ (j g cp : Nat) (ds : List Dp), j ≤ 6 ∧ ds.length ≤ j ∧ i = .int .i64 j ∧ o = .slice (some ⟨g, 0, none⟩) ds.length cp ∧ Hid (OwnDeps wr w.heap.size g cp ds) ∧ Hid (Cur wr B a len cap (N + 4 * j)) ∧ Hid (Hole B w wr)) (fun _ i _ => 6 - (intOf i).toNat)
  case atStart => exact ⟨0, w.heap.size, 0, [], by omega, by simp, rfl, rfl, own_start w _ (Nat.le_refl _), (HC.out.below ((Below.refl _ _).alloc (Nat.le_refl _) _)).more (by omega), Hole.of_below ((Below.refl _ _).alloc (Nat.le_refl _) _)⟩
  case round =>
    obtain ⟨j, g, cp, ds, hj, hds, rfl, rfl, HO, HC1, HH⟩ := hrel
    by_cases hj' : j < 6
    · have i1 : (j : Int) < 6 := by omega
      go_wp2_with fail
      refine (pick_any B a len cap (N + 4 * j) 4 _ (by omega) (by omega) (by omega) HC1.out).mono ?_
      rintro e w1 ⟨r1, rfl, q10, q11, hc1, hh1⟩
      have HC2 : Hid (Cur w1 B a len cap (N + 4 * j + 1)) := hc1
      have HO2 : Hid (OwnDeps w1 w.heap.size g cp ds) := HO.out.hole hh1 hB
      have HH2 : Hid (Hole B w w1) := HH.out.trans hh1
      clear hc1 hh1 HO HC1 HH
      by_cases k0 : r1 = 0
      · subst k0
        go_wp2_with fail
        refine (pick_any B a len cap (N + 4 * j + 1) 4 _ (by omega) (by omega) (by omega) HC2.out).mono ?_
        rintro e w2 ⟨r2, rfl, q20, q21, hc2, hh2⟩
        have HC3 : Hid (Cur w2 B a len cap (N + 4 * j + 2)) := hc2.more (by omega)
        have HO3 : Hid (OwnDeps w2 w.heap.size g cp ds) := HO2.out.hole hh2 hB
        have HH3 : Hid (Hole B w w2) := HH2.out.trans hh2
        clear hc2 hh2 HO2 HC2 HH2
        go_wp2_with fail
        refine (pick_any B a len cap (N + 4 * j + 2) 4 _ (by omega) (by omega) (by omega) HC3.out).mono ?_
        rintro e w3 ⟨r3, rfl, q30, q31, hc3, hh3⟩
        have HC4 : Hid (Cur w3 B a len cap (N + 4 * j + 3)) := hc3.more (by omega)
        have HO4 : Hid (OwnDeps w3 w.heap.size g cp ds) := HO3.out.hole hh3 hB
        have HH4 : Hid (Hole B w w3) := HH3.out.trans hh3
        clear hc3 hh3 HO3 HC3 HH3
        go_wp2_with fail
        refine (pick_any B a len cap (N + 4 * j + 3) 4 _ (by omega) (by omega) (by omega) HC4.out).mono ?_
        rintro e w4 ⟨r4, rfl, q40, q41, hc4, hh4⟩
        have HC5 : Hid (Cur w4 B a len cap (N + 4 * j + 4)) := hc4.more (by omega)
        have HO5 : Hid (OwnDeps w4 w.heap.size g cp ds) := HO4.out.hole hh4 hB
        have HH5 : Hid (Hole B w w4) := HH4.out.trans hh4
        clear hc4 hh4 HO4 HC4 HH4
        have hzw4 : w.heap.size ≤ w4.heap.size := HH5.out.size
        go_wp2_with (at_builtin; refine wpList_append_lies _ (by rfl) _ _ _ (by rfl) w.heap.size 102 i0 _ 4 32 Tryd.underlying79 HI0.out HZ0.out HZ1.out HZ2.out (by rfl) (by omega) (.slice (some ⟨g, 0, none⟩) ds.length cp) ds.length (flat ds) (by rfl) (HO5.out.own.alloc _) ⟨w4.heap.size, 0, none⟩ 1 1 [.int .i64 (j : Int), .int .i64 (1 + r2), .int .i64 r3, .int .i64 (1 + r4)] (by rfl) (by rfl) (World.news_of_block (cs := #[.int .i64 (j : Int), .int .i64 (1 + r2), .int .i64 r3, .int .i64 (1 + r4)]) (t := 102) (fr := (0, 0)) (heap_alloc_new w4 _)) (by simp [Value.oneCell']) (by omega) (by simp [maxLen]; omega) (by omega) (by simp; omega) (w4.heap.size + 1) (by simp) ?_; intro g' cp' w5 hown1 hgrow hat hlt)
        obtain ⟨hO6, hb6⟩ := own_next (d := ⟨(j : Int), 1 + r2, r3, 1 + r4⟩) HO5.out.le ((Below.refl w4.heap.size w4).alloc (Nat.le_refl _) _) hown1 hgrow hlt hzw4
        have HO6 : Hid (OwnDeps w5 w.heap.size g' cp' (ds ++ [⟨(j : Int), 1 + r2, r3, 1 + r4⟩])) := hO6
        have HC6 : Hid (Cur w5 B a len cap (N + 4 * (j + 1 : Nat))) := (HC5.out.belowAt hb6 hB).more (by omega)
        have HH6 : Hid (Hole B w w5) := HH5.out.belowAt hb6
        clear hO6 hb6 hown1 hgrow hat hlt HO5 HC5 HH5
        have HL : Hid ((ds ++ [(⟨(j : Int), 1 + r2, r3, 1 + r4⟩ : Dp)]).length = ds.length + 1) := by simp [Hid]
        go_wp2
        exact ⟨⟨j + 1, g', cp', ds ++ [⟨(j : Int), 1 + r2, r3, 1 + r4⟩], by omega, by rw [HL.out]; omega, by go_num, by rw [HL.out], HO6, HC6, HH6⟩, by simp [intOf]; omega⟩
      · have k0' : (r1 == 0) = false := by simp [k0]
        clear k0
        have HC3 : Hid (Cur w1 B a len cap (N + 4 * (j + 1 : Nat))) := HC2.out.more (by omega)
        go_wp2
        exact ⟨⟨j + 1, g, cp, ds, by omega, by omega, by go_num, rfl, HO2, HC3, HH2⟩, by simp [intOf]; omega⟩
    · have hj6 : j = 6 := by omega
      subst hj6
      go_wp2_with fail
      refine (once_any B a len cap (N + 24) 16 _ (by omega) (by omega) (by omega) (HC1.out.more (by omega))).mono ?_
      rintro e w1 ⟨b1, rfl, hc1, hh1⟩
      have HC2 : Hid (Cur w1 B a len cap (N + 25)) := hc1.more (by omega)
      have HO2 : Hid (OwnDeps w1 w.heap.size g cp ds) := HO.out.hole hh1 hB
      have HH2 : Hid (Hole B w w1) := HH.out.trans hh1
      clear hc1 hh1 HO HC1 HH
      cases b1
      · go_wp2
        go_ret
        exact ⟨g, cp, ds, rfl, by omega, HO2.out, HC2.out.more (by omega), HH2.out⟩
      · go_wp2_with fail
        refine (raw_any B a len cap (N + 25) _ (by omega) HC2.out).mono ?_
        rintro e w2 ⟨v, rfl, hc2, hh2⟩
        have HC3 : Hid (Cur w2 B a len cap (N + 27)) := hc2.more (by omega)
        have HO3 : Hid (OwnDeps w2 w.heap.size g cp ds) := HO2.out.hole hh2 hB
        have HH3 : Hid (Hole B w w2) := HH2.out.trans hh2
        clear hc2 hh2 HO2 HC2 HH2
        go_wp2_with fail
        refine (tag_any B a len cap (N + 27) _ (by omega) HC3.out).mono ?_
        rintro e w4 ⟨c, s, q, rfl, hc4, hh4⟩
        have HC5 : Hid (Cur w4 B a len cap (N + 36)) := hc4.more (by omega)
        have HO5 : Hid (OwnDeps w4 w.heap.size g cp ds) := HO3.out.hole hh4 hB
        have HH5 : Hid (Hole B w w4) := HH3.out.trans hh4
        clear hc4 hh4 HO3 HC3 HH3
        have hzw4 : w.heap.size ≤ w4.heap.size := HH5.out.size
        go_wp2_with (at_builtin; refine wpList_append_lies _ (by rfl) _ _ _ (by rfl) w.heap.size 102 i0 _ 4 32 Tryd.underlying79 HI0.out HZ0.out HZ1.out HZ2.out (by rfl) (by omega) (.slice (some ⟨g, 0, none⟩) ds.length cp) ds.length (flat ds) (by rfl) (HO5.out.own.alloc _) ⟨w4.heap.size, 0, none⟩ 1 1 [.int .i64 v, .int .i64 c, .int .i64 s, .int .i64 q] (by rfl) (by rfl) (World.news_of_block (cs := #[.int .i64 v, .int .i64 c, .int .i64 s, .int .i64 q]) (t := 102) (fr := (0, 0)) (heap_alloc_new w4 _)) (by simp [Value.oneCell']) (by omega) (by simp [maxLen]; omega) (by omega) (by simp; omega) (w4.heap.size + 1) (by simp) ?_; intro g' cp' w5 hown1 hgrow hat hlt)
        obtain ⟨hO6, hb6⟩ := own_next (d := ⟨v, c, s, q⟩) HO5.out.le ((Below.refl w4.heap.size w4).alloc (Nat.le_refl _) _) hown1 hgrow hlt hzw4
        have HO6 : Hid (OwnDeps w5 w.heap.size g' cp' (ds ++ [⟨v, c, s, q⟩])) := hO6
        have HC6 : Hid (Cur w5 B a len cap (N + 40)) := (HC5.out.belowAt hb6 hB).more (by omega)
        have HH6 : Hid (Hole B w w5) := HH5.out.belowAt hb6
        clear hO6 hb6 hown1 hgrow hat hlt HO5 HC5 HH5
        have HL : Hid ((ds ++ [(⟨v, c, s, q⟩ : Dp)]).length = ds.length + 1) := by simp [Hid]
        go_wp2
        go_ret
        exact ⟨g', cp', ds ++ [⟨v, c, s, q⟩], by rw [HL.out]; rfl, by rw [HL.out]; omega, HO6.out, HC6.out, HH6.out⟩

end Go.Proofs.YtidpcjcnhklmpacDoor
