import Derived.Test.YtidpcjcnhklmpabGreatPack12
import Derived.Test.YtidpcjcnhklmpabGreatPack11
import Derived.Test.YtidpcjcnhklmpabGreatPack7
import Derived.Shelf.SlGeneric
import Derived.Shelf.SlSortCmp.WholeK
import Derived.Ground.SlsfProg
import Derived.Test.YtidpcjcnhklmpabGreatProg
import Derived.Test.YtidpcjcnhklmpabGreatPack4
import Derived.Sort.Grow
import Derived.Test.YtidpcjcnhklmpabGreatPack8
import Derived.Test.YtidpcjcnhklmpabGreatPack6
/- Maps joined: whichever comes first, the same comes; within is an order. No program in sight. -/
namespace Go.Proofs.YtidpcjcnhklmpabGreat

theorem dcmp_zero {d e : Dp} (h : dcmp d e = 0) : d = e := by
  obtain ⟨k, c, s, q⟩ := d
  obtain ⟨k', c', s', q'⟩ := e
  unfold dcmp at h
  simp only at h
  by_cases hk : k = k'
  · rw [if_neg (by simp [hk])] at h
    obtain ⟨rfl, rfl, rfl⟩ := tcmp_zero.1 h
    rw [hk]
  · rw [if_pos hk] at h
    exact absurd (sgn_zero.1 h) hk

theorem depsCmp_zero : ∀ {xs ys : List Dp}, depsCmp xs ys = 0 → xs = ys
  | [], [], _ => rfl
  | [], _ :: _, h => by simp [depsCmp] at h
  | _ :: _, [], h => by simp [depsCmp] at h
  | d :: r, e :: t, h => by
    unfold depsCmp at h
    by_cases hd : dcmp d e = 0
    · rw [if_neg (by simp [hd])] at h
      rw [dcmp_zero hd, depsCmp_zero h]
    · rw [if_pos hd] at h
      exact absurd h hd

theorem cmpW_zero {x y : Wr} (h : cmpW x y = 0) : x = y := by
  obtain ⟨k, c, s, q, v, de, xs⟩ := x
  obtain ⟨k', c', s', q', v', de', ys⟩ := y
  unfold cmpW wcmp at h
  simp only at h
  by_cases h1 : tcmp c s q c' s' q' = 0
  · rw [if_neg (by simp [h1])] at h
    obtain ⟨rfl, rfl, rfl⟩ := tcmp_zero.1 h1
    by_cases h2 : k = k'
    · subst h2
      rw [if_neg (by simp)] at h
      by_cases h3 : v = v'
      · subst h3
        rw [if_neg (by simp)] at h
        by_cases h4 : de = de'
        · subst h4
          rw [if_neg (by simp)] at h
          rw [depsCmp_zero h]
        · rw [if_pos h4] at h
          exact absurd (sgn_zero.1 h) (by cases de <;> cases de' <;> simp [bit] at h4 ⊢)
      · rw [if_pos h3] at h
        exact absurd (sgn_zero.1 h) h3
    · rw [if_pos h2] at h
      exact absurd (sgn_zero.1 h) h2
  · rw [if_pos h1] at h
    exact absurd h h1

theorem cmpW_self (x : Wr) : cmpW x x = 0 := by
  have h := wcmp_neg x.k x.c x.s x.q x.v x.de x.xs x.k x.c x.s x.q x.v x.de x.xs
  unfold cmpW
  omega

theorem same_iff (us vs : List Wr) : sameB us vs = true ↔ us = vs := by
  constructor
  · intro h
    unfold sameB at h
    rw [Bool.and_eq_true, decide_eq_true_eq, List.all_eq_true] at h
    refine List.ext_getElem h.1 fun i h1 h2 => ?_
    have h3 := h.2 i (List.mem_range.2 h1)
    have e1 : us.getD i wz = us[i] := by simp [List.getD, h1]
    have e2 : vs.getD i wz = vs[i] := by simp [List.getD, h2]
    rw [decide_eq_true_eq, e1, e2] at h3
    exact cmpW_zero h3
  · rintro rfl
    exact same_true rfl fun i _ => cmpW_self _

/-- The later of two registers. -/
def later2 (a b : Option Wr) : Option Wr := match b with
  | none => a
  | some y => some (laterO a y)

theorem fold_find : ∀ (b : List Wr) (M : Int → Option Wr), Rise b → ∀ key, b.foldl regPut M key = later2 (M key) (findW b key)
  | [], M, _, key => rfl
  | x :: r, M, h, key => by
    have hp := List.pairwise_cons.1 h
    show r.foldl regPut (regPut M x) key = _
    rw [fold_find r (regPut M x) hp.2 key, findW_cons]
    by_cases hk : x.k = key
    · subst hk
      rw [if_pos rfl, findW_past (fun z hz => hp.1 z hz)]
      show regPut M x x.k = _
      unfold regPut later2
      rw [if_pos rfl]
    · rw [if_neg hk]
      unfold regPut
      rw [if_neg (Ne.symm hk)]

theorem find_join {a b : List Wr} (ha : Rise a) (hb : Rise b) (key : Int) : findW (joinW a b) key = later2 (findW a key) (findW b key) := by
  rw [(join_spec b a ha).2.2 key, fold_find b _ hb]

theorem later_some (x y : Wr) : later2 (some x) (some y) = some (if cmpW x y < 0 then y else x) := rfl

theorem cmpW_turn (x y : Wr) : cmpW y x = -cmpW x y := wcmp_neg ..

theorem later_comm (a b : Option Wr) : later2 a b = later2 b a := by
  cases a with
  | none => cases b <;> rfl
  | some x =>
    cases b with
    | none => rfl
    | some y =>
      rw [later_some, later_some, cmpW_turn x y]
      by_cases h1 : cmpW x y < 0
      · rw [if_pos h1, if_neg (by omega)]
      · rw [if_neg h1]
        by_cases h2 : cmpW x y = 0
        · rw [if_neg (by omega), cmpW_zero h2]
        · rw [if_pos (by omega)]

theorem later_self (a : Option Wr) : later2 a a = a := by
  cases a with
  | none => rfl
  | some x => rw [later_some, if_neg (by rw [cmpW_self]; omega)]

theorem cmpW_three (x y z : Wr) : T3 (cmpW x y) (cmpW y z) (cmpW x z) := wcmp_three ..

theorem later_assoc (a b c : Option Wr) : later2 (later2 a b) c = later2 a (later2 b c) := by
  cases c with
  | none => rfl
  | some z =>
    cases b with
    | none => rfl
    | some y =>
      cases a with
      | none =>
        show later2 (some y) (some z) = later2 none (later2 (some y) (some z))
        rw [later_some]
        rfl
      | some x =>
        rw [later_some x y, later_some y z]
        have t1 := cmpW_three x y z
        have t2 := cmpW_three z y x
        rw [cmpW_turn y z, cmpW_turn x y, cmpW_turn x z] at t2
        by_cases h1 : cmpW x y < 0
        · rw [if_pos h1, later_some]
          by_cases h2 : cmpW y z < 0
          · rw [if_pos h2, later_some, if_pos (t1.n h1 h2)]
          · rw [if_neg h2, later_some, if_pos h1]
        · rw [if_neg h1, later_some]
          by_cases h2 : cmpW y z < 0
          · rw [if_pos h2, later_some]
          · rw [if_neg h2, later_some, if_neg h1]
            by_cases h3 : cmpW x z < 0
            · exfalso
              rcases t2.on (by omega) (by omega) with h4 | h4 <;> omega
            · rw [if_neg h3]

structure OkM (ws : List Wr) : Prop where
  rise : Rise ws
  keys : ∀ x ∈ ws, 0 ≤ x.k ∧ x.k ≤ 5

theorem OkM.join {a b : List Wr} (ha : OkM a) (hb : OkM b) : OkM (joinW a b) where
  rise := (join_spec b a ha.rise).1
  keys := fun x hx => ((join_spec b a ha.rise).2.1 x hx).elim (ha.keys x) (hb.keys x)

theorem OkM.ext {a b : List Wr} (ha : OkM a) (hb : OkM b) (h : ∀ key, findW a key = findW b key) : a = b := by
  rw [← told_find ha.rise ha.keys, ← told_find hb.rise hb.keys, funext h]

theorem join_comm {a b : List Wr} (ha : OkM a) (hb : OkM b) : joinW a b = joinW b a :=
  (ha.join hb).ext (hb.join ha) fun key => by rw [find_join ha.rise hb.rise, find_join hb.rise ha.rise, later_comm]

theorem join_self {a : List Wr} (ha : OkM a) : joinW a a = a :=
  (ha.join ha).ext ha fun key => by rw [find_join ha.rise ha.rise, later_self]

theorem join_assoc {a b c : List Wr} (ha : OkM a) (hb : OkM b) (hc : OkM c) : joinW (joinW a b) c = joinW a (joinW b c) :=
  ((ha.join hb).join hc).ext (ha.join (hb.join hc)) fun key => by
    rw [find_join (ha.join hb).rise hc.rise, find_join ha.rise hb.rise, find_join ha.rise (hb.join hc).rise, find_join hb.rise hc.rise, later_assoc]

theorem okM {ws : List Wr} (h : mapOkB ws = true) : OkM ws := ⟨((mapOk_iff ws).1 h).2, mapOk_keys h⟩

theorem joinB_yes {us vs : List Wr} (h : mapOkB us = true) (h' : mapOkB vs = true) : joinB us vs = joinW us vs := by
  unfold joinB
  exact if_pos ⟨h, h'⟩

theorem within_iff (us vs : List Wr) : withinB us vs = true ↔ mapOkB us = true ∧ mapOkB vs = true ∧ joinW us vs = vs := by
  unfold withinB
  rw [Bool.and_eq_true, Bool.and_eq_true, same_iff]
  constructor
  · rintro ⟨h1, h2, h3⟩
    rw [joinB_yes h1 h2] at h3
    exact ⟨h1, h2, h3⟩
  · rintro ⟨h1, h2, h3⟩
    refine ⟨h1, h2, ?_⟩
    rw [joinB_yes h1 h2]
    exact h3

theorem within_self (us : List Wr) : withinB us us = mapOkB us := by
  cases h : mapOkB us
  · unfold withinB
    rw [h, Bool.false_and]
  · exact (within_iff us us).2 ⟨h, h, join_self (okM h)⟩

theorem within_anti {us vs : List Wr} (h : withinB us vs = true) (h' : withinB vs us = true) : us = vs := by
  obtain ⟨h1, h2, h3⟩ := (within_iff us vs).1 h
  obtain ⟨_, _, h4⟩ := (within_iff vs us).1 h'
  rw [← h3, join_comm (okM h1) (okM h2), h4]

theorem within_join {us vs ws : List Wr} (h : withinB us vs = true) (hw : mapOkB ws = true) : withinB us (joinB vs ws) = true := by
  obtain ⟨h1, h2, h3⟩ := (within_iff us vs).1 h
  refine (within_iff us _).2 ⟨h1, joinB_mapOk _ _, ?_⟩
  rw [joinB_yes h2 hw, ← join_assoc (okM h1) (okM h2) (okM hw), h3]

/-- What FnWithin asks. -/
theorem within_law (us vs ws : List Wr) : (withinB us vs = true → withinB vs us = true → sameB us vs = true) ∧ (withinB us vs = true → mapOkB ws = true → withinB us (joinB vs ws) = true) :=
  ⟨fun h h' => (same_iff _ _).2 (within_anti h h'), fun h h' => within_join h h'⟩

end Go.Proofs.YtidpcjcnhklmpabGreat

/- Contracts of impl.Lacks, impl.Covered, impl.IsCut, spec.IsCut. -/
namespace Go.Proofs.YtidpcjcnhklmpabGreat
open Go.ChangeShapes Go.WideShapes Go.ChangeAt Go.RowKit Go.Joins
attribute [local go_sem ↓] Go.wp_at_zero Go.wp_at_succ

set_option maxHeartbeats 4000000 in
theorem implLacks_any (a ad : Option Addr) (n m cap cd : Nat) (ws : List Wr) (ds : List Dp) (w : World) (hn : ws.length = n) (hm : n ≤ 1048576) (hl : ds.length = m) (hml : m ≤ 1048576) (hh : IsWs w a ws) (hd : IsDeps w ad ds) :
    Calls Tryz.prog 33 #[.slice a n cap, .slice ad m cd] w fun e w' => ∃ v, e = .returned v ∧ RowD w' w.heap.size v (lacksL ws ds) ∧ Below w.heap.size w w' := by
  have HH : Hid (IsWs w a ws) := hh
  have HD : Hid (IsDeps w ad ds) := hd
  have HN : Hid (ws.length = n) := hn
  have HL : Hid (ds.length = m) := hl
  clear hh hd hn hl
  obtain ⟨i0, hi0, hx0⟩ := Option.map_eq_some_iff.1 infoDep
  simp only [Prod.mk.injEq] at hx0
  have HI0 := Lib.hid hi0
  have HX0 := Lib.hid hx0
  clear hi0 hx0
  have HR0 : Hid (RowD w w.heap.size (.slice none 0 0) (lacksL ws (ds.take 0))) := World.ownsRow_nil _ _ _ _
  go_enter Tryz.func33, Tryz.ntmps33
  go_wp2
  go_loopw [5, 10] (fun t i wr => ∃ (k : Nat) (v : Value), k ≤ m ∧ i = .int .i64 k ∧ v = t ∧ Hid (RowD wr w.heap.size v (lacksL ws (ds.take k))) ∧ Hid (Below w.heap.size w wr)) (fun _ i _ => m - (intOf i).toNat)
  case atStart => exact ⟨0, _, Nat.zero_le _, rfl, rfl, HR0, Below.refl _ _⟩
  case round =>
    clear HR0
    obtain ⟨k, v, hk, rfl, rfl, HR, HB⟩ := hrel
    by_cases hk' : k < m
    · have hkd : k < ds.length := by rw [HL.out]; exact hk'
      obtain ⟨b, o, rfl, hz, e0, e1, e2, e3⟩ := HD.out.at HB.out hkd
      have i1 : (0 : Int) ≤ (k : Int) := by omega
      have i2 : (k : Int) < (m : Int) := by omega
      have hln := lacks_len ws ds k
      have HC : Hid (∀ W, Below wr.heap.size wr W → Calls Tryz.prog 15 #[.slice a n cap, .int .i64 (ds.getD k dz).k, tagV (ds.getD k dz).c (ds.getD k dz).s (ds.getD k dz).q] W fun e w' => e = .returned (.bool (hasB ws (ds.getD k dz).k (ds.getD k dz).c (ds.getD k dz).s (ds.getD k dz).q)) ∧ Below W.heap.size W w') := fun W hW =>
        implMapHas_any a n cap _ _ _ _ ws _ HN.out hm (HH.out.below (below_step HB.out HB.out.size hW))
      have HM : Hid (hasB ws (ds.getD k dz).k (ds.getD k dz).c (ds.getD k dz).s (ds.getD k dz).q = false → lacksL ws (ds.take (k + 1)) = lacksL ws (ds.take k) ++ [ds.getD k dz]) := fun h => lacks_more hkd (by unfold lacking; rw [h]; rfl)
      have HS : Hid (hasB ws (ds.getD k dz).k (ds.getD k dz).c (ds.getD k dz).s (ds.getD k dz).q = true → lacksL ws (ds.take (k + 1)) = lacksL ws (ds.take k)) := fun h => lacks_same hkd (by unfold lacking; rw [h]; rfl)
      clear HD
      generalize ds.getD k dz = d at *
      obtain ⟨dk, dc, dd, dq⟩ := d
      simp only at e0 e1 e2 e3 HC HM HS
      have HBX : Hid (Below wr.heap.size wr (wr.alloc (.cells #[.int .i64 dk, .int .i64 dc, .int .i64 dd, .int .i64 dq] 63))) := (Below.refl _ _).alloc (Nat.le_refl _) _
      cases hb : hasB ws dk dc dd dq
      · have HE := Lib.hid (HM.out hb)
        rw [hb] at HC
        clear hb HM HS
        generalize lacksL ws (ds.take k) = zs at *
        go_wp2_with fail
        refine (HC.out _ HBX.out).mono ?_
        rintro e wq ⟨rfl, hq⟩
        have HBQ : Hid (Below w.heap.size w wq) := below_step HB.out HB.out.size (below_step HBX.out HBX.out.size hq)
        have HRQ := Lib.hid (HR.out.below (below_step HBX.out HBX.out.size hq))
        have z0 : wq.cell? ⟨wr.heap.size, 0, none⟩ = some (.int .i64 dk) := box_cells hq 0 (by simp)
        have z1 : wq.cell? ⟨wr.heap.size, 1, none⟩ = some (.int .i64 dc) := box_cells hq 1 (by simp)
        have z2 : wq.cell? ⟨wr.heap.size, 2, none⟩ = some (.int .i64 dd) := box_cells hq 2 (by simp)
        have z3 : wq.cell? ⟨wr.heap.size, 3, none⟩ = some (.int .i64 dq) := box_cells hq 3 (by simp)
        have hwq : w.heap.size ≤ wq.heap.size := HBQ.out.size
        clear hq HC HR HB HBX
        have HBC : Hid (Below wq.heap.size wq (wq.alloc (.cells #[.int .i64 dk, .int .i64 dc, .int .i64 dd, .int .i64 dq] 63))) := (Below.refl _ _).alloc (Nat.le_refl _) _
        have HRC := Lib.hid (HRQ.out.below HBC.out)
        have HBD := Lib.hid (below_step HBQ.out HBQ.out.size HBC.out)
        go_wp2_with (at_builtin; refine wpList_append_lies _ (by rfl) _ _ _ (by rfl) w.heap.size 63 i0 (depV 0 0 0 0) 4 32 Tryz.underlying33 HI0.out HX0.out.1 HX0.out.2.1 HX0.out.2.2 (by rfl) (by omega) v zs.length (zs.flatMap dpVals) (by rfl) HRC.out ⟨wq.heap.size, 0, none⟩ 1 1 (dpVals ⟨dk, dc, dd, dq⟩) (by rfl) (by rfl) (oneD_cells wq _ ⟨dk, dc, dd, dq⟩) (dp_one _) (by omega) (by unfold maxLen; omega) (by omega) (by simp; omega) _ rfl ?_; intro g3 cp3 w5 hown hgrow hg3 _; refine Hid.out ?_)
        refine Lib.hid ?_
        have HB5 : Hid (Below w.heap.size w w5) := HBD.out.grown hgrow HBD.out.size fun j hj => (World.ownsRow.lt HRC.out j hj).1
        have HR5 : Hid (RowD w5 w.heap.size (.slice (some ⟨g3, 0, none⟩) (zs.length + 1) cp3) (lacksL ws (ds.take (k + 1)))) := by
          refine Lib.hid ?_
          rw [HE.out]
          unfold RowD
          rw [List.length_append, List.flatMap_append]
          simpa using hown
        clear hown hgrow
        go_wp2
        exact ⟨⟨k + 1, _, by omega, by go_num, rfl, HR5, HB5⟩, by simp [intOf]; omega⟩
      · have HE := Lib.hid (HS.out hb)
        rw [hb] at HC
        clear hb HM HS
        go_wp2_with fail
        refine (HC.out _ HBX.out).mono ?_
        rintro e wq ⟨rfl, hq⟩
        have HBQ : Hid (Below w.heap.size w wq) := below_step HB.out HB.out.size (below_step HBX.out HBX.out.size hq)
        have HRQ : Hid (RowD wq w.heap.size v (lacksL ws (ds.take (k + 1)))) := by
          rw [HE.out]
          exact HR.out.below (below_step HBX.out HBX.out.size hq)
        clear hq HC HR HB HBX
        go_wp2
        exact ⟨⟨k + 1, _, by omega, by go_num, rfl, HRQ, HBQ⟩, by simp [intOf]; omega⟩
    · have hkk : k = m := by omega
      subst hkk
      have HF : Hid (RowD wr w.heap.size v (lacksL ws ds)) := by
        have h := HR.out
        rw [List.take_of_length_le (by rw [HL.out]; exact Nat.le_refl _)] at h
        exact h
      go_wp2
      go_ret
      exact ⟨_, rfl, HF.out, HB.out⟩

set_option maxHeartbeats 1000000 in
theorem implCovered_any (a ad : Option Addr) (n m cap cd : Nat) (ws : List Wr) (ds : List Dp) (w : World) (hn : ws.length = n) (hm : n ≤ 1048576) (hl : ds.length = m) (hml : m ≤ 1048576) (hh : IsWs w a ws) (hd : IsDeps w ad ds) :
    Calls Tryz.prog 14 #[.slice a n cap, .slice ad m cd] w fun e w' => e = .returned (.bool (covB ws ds)) ∧ Below w.heap.size w w' := by
  have HC : Hid (Calls Tryz.prog 33 #[.slice a n cap, .slice ad m cd] w fun e w' => ∃ v, e = .returned v ∧ RowD w' w.heap.size v (lacksL ws ds) ∧ Below w.heap.size w w') := implLacks_any a ad n m cap cd ws ds w hn hm hl hml hh hd
  have HE : Hid (covB ws ds = (((lacksL ws ds).length : Int) == 0)) := by
    unfold covB
    show _ = _
    rw [Bool.eq_iff_iff]
    simp
  clear hh hd hn hl
  go_enter Tryz.func14, Tryz.ntmps14
  go_wp2_with fail
  refine HC.out.mono ?_
  rintro e w1 ⟨v, rfl, hrow, hb⟩
  obtain ⟨al, cl, rfl, -⟩ := hrow.form
  have HB := Lib.hid hb
  clear hrow hb HC
  go_wp2
  go_ret
  exact ⟨ret_bool HE.out.symm, HB.out⟩

def cutB (ws : List Wr) : Bool := mapOkB ws && ws.all fun x => covB ws x.xs

theorem cut_false {ws : List Wr} {k : Nat} (h : k < ws.length) (hk : covB ws (ws.getD k wz).xs = false) : cutB ws = false := by
  unfold cutB
  rw [Bool.and_eq_false_iff]
  refine .inr ?_
  rw [List.all_eq_false]
  refine ⟨ws.getD k wz, ?_, by rw [hk]; simp⟩
  have e : ws.getD k wz = ws[k] := by simp [List.getD, h]
  rw [e]
  exact List.getElem_mem h

theorem cut_true {ws : List Wr} {n : Nat} (hn : ws.length = n) (hm : mapOkB ws = true) (h : ∀ j, j < n → covB ws (ws.getD j wz).xs = true) : cutB ws = true := by
  unfold cutB
  rw [hm, Bool.true_and, List.all_eq_true]
  intro x hx
  obtain ⟨i, hi, rfl⟩ := List.mem_iff_getElem.1 hx
  have := h i (by rw [← hn]; exact hi)
  simpa [List.getD, hi] using this

theorem upto_next {P : Nat → Prop} {k : Nat} (h : ∀ j, j < k → P j) (hk : P k) : ∀ j, j < k + 1 → P j := fun j hj => by
  by_cases e : j < k
  · exact h j e
  · have : j = k := by omega
    rw [this]
    exact hk

set_option maxHeartbeats 2000000 in
theorem implIsCut_any (a : Option Addr) (n cap : Nat) (ws : List Wr) (w : World) (hn : ws.length = n) (hm : n ≤ 1048576) (hx : Few ws) (hh : IsWs w a ws) :
    Calls Tryz.prog 17 #[.slice a n cap] w fun e w' => e = .returned (.bool (cutB ws)) ∧ Below w.heap.size w w' := by
  have HH : Hid (IsWs w a ws) := hh
  have HN : Hid (ws.length = n) := hn
  have HX : Hid (Few ws) := hx
  have HC : Hid (Calls Tryz.prog 36 #[.slice a n cap] w fun e w' => e = .returned (.bool (mapOkB ws)) ∧ Below w.heap.size w w') := implMapOk_any a n cap ws w hn hm hx hh
  clear hh hn hx
  cases ha : mapOkB ws
  · have HE : Hid (cutB ws = false) := by unfold cutB; rw [ha, Bool.false_and]; exact Lib.hid rfl
    rw [ha] at HC
    clear ha
    go_enter Tryz.func17, Tryz.ntmps17
    go_wp2_with fail
    refine HC.out.mono ?_
    rintro e w1 ⟨rfl, hb⟩
    have HB1 := Lib.hid hb
    clear hb
    go_wp2
    go_ret
    exact ⟨ret_bool HE.out.symm, HB1.out⟩
  have HA := Lib.hid ha
  rw [ha] at HC
  clear ha
  go_enter Tryz.func17, Tryz.ntmps17
  go_wp2_with fail
  refine HC.out.mono ?_
  rintro e w1 ⟨rfl, hb⟩
  have HB1 := Lib.hid hb
  clear hb HC
  go_wp2
  go_loopw [10] (fun i wr => ∃ k : Nat, k ≤ n ∧ i = .int .i64 k ∧ Hid (∀ j, j < k → covB ws (ws.getD j wz).xs = true) ∧ Hid (Below w.heap.size w wr)) (fun i _ => n - (intOf i).toNat)
  case atStart => exact ⟨0, Nat.zero_le _, rfl, fun j hj => absurd hj (Nat.not_lt_zero j), HB1⟩
  case round =>
    clear HB1
    obtain ⟨k, hk, rfl, HK, HB⟩ := hrel
    by_cases hk' : k < n
    · obtain ⟨b1, o1, ad, cp, ha1, hz, ⟨e0, e1, e2, e3, e4, e5, e6⟩, hd⟩ := HH.out.at HB.out HN.out hk'
      have i1 : (0 : Int) ≤ (k : Int) := by omega
      have i2 : (k : Int) < (n : Int) := by omega
      have hkm : k < ws.length := by rw [HN.out]; exact hk'
      have HW : Hid (∀ W, Below wr.heap.size wr W → Calls Tryz.prog 14 #[.slice a n cap, .slice ad (ws.getD k wz).xs.length cp] W fun e w' => e = .returned (.bool (covB ws (ws.getD k wz).xs)) ∧ Below W.heap.size W w') := fun W hW => implCovered_any a ad n _ cap cp ws _ W HN.out hm rfl (HX.out k hkm) (HH.out.below (below_step HB.out HB.out.size hW)) (hd.below hW)
      subst ha1
      have HK1 : Hid (covB ws (ws.getD k wz).xs = true → ∀ j, j < k + 1 → covB ws (ws.getD j wz).xs = true) := fun h1 => upto_next HK.out h1
      have HF1 : Hid (covB ws (ws.getD k wz).xs = false → cutB ws = false) := fun h1 => cut_false hkm h1
      clear hd HH HK
      generalize ws.getD k wz = x at *
      obtain ⟨xk, xc, xs', xq, xv, xd, xx⟩ := x
      simp only at e0 e1 e2 e3 e4 e5 e6 HW HK1 HF1
      cases h1 : covB ws xx
      · have HF := Lib.hid (HF1.out h1)
        rw [h1] at HW
        clear h1 HK1 HF1
        go_wp2_with fail
        refine (HW.out _ ((Below.refl _ _).alloc (Nat.le_refl _) _)).mono ?_
        rintro e w2 ⟨rfl, hb⟩
        have HB2 : Hid (Below w.heap.size w w2) := below_step HB.out HB.out.size (BoxIn.start hb).below
        clear hb
        go_wp2
        go_ret
        exact ⟨ret_bool HF.out.symm, HB2.out⟩
      · have HK2 := Lib.hid (HK1.out h1)
        rw [h1] at HW
        clear h1 HK1 HF1
        go_wp2_with fail
        refine (HW.out _ ((Below.refl _ _).alloc (Nat.le_refl _) _)).mono ?_
        rintro e w2 ⟨rfl, hb⟩
        have HB2 : Hid (Below w.heap.size w w2) := below_step HB.out HB.out.size (BoxIn.start hb).below
        clear hb
        go_wp2
        exact ⟨⟨k + 1, by omega, by go_num, HK2, HB2⟩, by simp [intOf]; omega⟩
    · have hkk : k = n := by omega
      subst hkk
      have HF : Hid (cutB ws = true) := cut_true HN.out HA.out HK.out
      go_wp2
      go_ret
      exact ⟨ret_bool HF.out.symm, HB.out⟩

end Go.Proofs.YtidpcjcnhklmpabGreat

/- Two cuts, joined, are a cut: with no program in sight. -/
namespace Go.Proofs.YtidpcjcnhklmpabGreat
open Go.ChangeShapes Go.WideShapes Go.ChangeAt Go.RowKit Go.Joins

theorem has_join_left : ∀ (vs : List Wr) {us : List Wr}, Rise us → ∀ {key c s q : Int}, hasB us key c s q = true → hasB (joinW us vs) key c s q = true
  | [], _, _, _, _, _, _, h => h
  | x :: r, _, hr, key, c, s, q, h => has_join_left r (rise_putW hr x) ((has_put hr x key c s q).2 (.inl h))

theorem has_join_mem : ∀ (vs : List Wr) {us : List Wr}, Rise us → ∀ {y : Wr}, y ∈ vs → ∀ {c s q : Int}, 0 ≤ tcmp y.c y.s y.q c s q → hasB (joinW us vs) y.k c s q = true
  | [], _, _, _, hy, _, _, _, _ => by simp at hy
  | x :: r, _, hr, y, hy, c, s, q, h => by
    rcases List.mem_cons.1 hy with rfl | hy
    · exact has_join_left r (rise_putW hr y) ((has_put hr y y.k c s q).2 (.inr ⟨rfl, h⟩))
    · exact has_join_mem r (rise_putW hr x) hy h

theorem has_mem {us : List Wr} {key c s q : Int} (h : hasB us key c s q = true) : ∃ u ∈ us, u.k = key ∧ 0 ≤ tcmp u.c u.s u.q c s q := by
  unfold hasB at h
  cases hf : findW us key with
  | none => rw [hf] at h; cases h
  | some u =>
    rw [hf] at h
    exact ⟨u, findW_mem hf, findW_key hf, by simpa using h⟩

theorem has_join_right {us vs : List Wr} (hr : Rise us) {key c s q : Int} (h : hasB vs key c s q = true) : hasB (joinW us vs) key c s q = true := by
  obtain ⟨u, hu, hk, ht⟩ := has_mem h
  rw [← hk]
  exact has_join_mem vs hr hu ht

theorem cut_parts {ws : List Wr} (h : cutB ws = true) : mapOkB ws = true ∧ ∀ x ∈ ws, covB ws x.xs = true := by
  unfold cutB at h
  rw [Bool.and_eq_true] at h
  exact ⟨h.1, fun x hx => List.all_eq_true.1 h.2 x hx⟩

theorem cut_of {ws : List Wr} (h : mapOkB ws = true) (h' : ∀ x ∈ ws, covB ws x.xs = true) : cutB ws = true := by
  unfold cutB
  rw [h, Bool.true_and, List.all_eq_true]
  exact h'

theorem cut_join {us vs : List Wr} (hu : cutB us = true) (hv : cutB vs = true) : cutB (joinB us vs) = true := by
  obtain ⟨hu1, hu2⟩ := cut_parts hu
  obtain ⟨hv1, hv2⟩ := cut_parts hv
  refine cut_of (joinB_mapOk us vs) fun x hx => ?_
  have hr := ((mapOk_iff us).1 hu1).2
  have e : joinB us vs = joinW us vs := by
    unfold joinB
    rw [if_pos ⟨hu1, hv1⟩]
  rw [e] at hx ⊢
  rw [cov_iff]
  intro d hd
  obtain ⟨-, h2, -⟩ := join_spec vs us hr
  rcases h2 x hx with h | h
  · exact has_join_left vs hr ((cov_iff _ _).1 (hu2 x h) d hd)
  · exact has_join_right hr ((cov_iff _ _).1 (hv2 x h) d hd)

end Go.Proofs.YtidpcjcnhklmpabGreat

/- The widest, with no program in sight: with more that has come no less is shown; seen again nothing changes; what fits is covered in it, what is held is not. -/
namespace Go.Proofs.YtidpcjcnhklmpabGreat
open Go.ChangeShapes Go.WideShapes Go.ChangeAt Go.RowKit Go.Joins

theorem le_trans' {a b c : List Wr} (ha : OkM a) (hb : OkM b) (hc : OkM c) (h : joinW a b = b) (h' : joinW b c = c) : joinW a c = c := by
  have := join_assoc ha hb hc
  rw [h, h'] at this
  exact this.symm

theorem le_sup {a b : List Wr} (ha : OkM a) (hb : OkM b) : joinW a (joinW a b) = joinW a b := by
  rw [← join_assoc ha ha hb, join_self ha]

theorem le_sup' {a b : List Wr} (ha : OkM a) (hb : OkM b) : joinW b (joinW a b) = joinW a b := by
  rw [join_comm ha hb]
  exact le_sup hb ha

theorem sup_le {a b c : List Wr} (ha : OkM a) (hb : OkM b) (hc : OkM c) (h : joinW a c = c) (h' : joinW b c = c) : joinW (joinW a b) c = c := by
  rw [join_assoc ha hb hc, h', h]

theorem le_anti {a b : List Wr} (ha : OkM a) (hb : OkM b) (h : joinW a b = b) (h' : joinW b a = a) : a = b := by
  rw [← h', join_comm hb ha, h]

theorem okM_one {x : Wr} (h : 0 ≤ x.k ∧ x.k ≤ 5) : OkM [x] := ⟨List.pairwise_singleton _ _, fun y hy => by
  have : y = x := by simpa using hy
  rw [this]
  exact h⟩

theorem put_join (a : List Wr) (x : Wr) : putW a x = joinW a [x] := rfl

theorem allTo_okM {us vs : List Wr} {st : Nat → Bool} (hu : OkM us) (hv : ∀ x ∈ vs, 0 ≤ x.k ∧ x.k ≤ 5) : ∀ k, k ≤ vs.length → OkM (allTo us vs st k)
  | 0, _ => hu
  | k + 1, hk => by
    have ih := allTo_okM hu hv (st := st) k (by omega)
    have hm : vs.getD k wz ∈ vs := by
      have e : vs.getD k wz = vs[k] := by simp [List.getD, show k < vs.length by omega]
      rw [e]
      exact List.getElem_mem (by omega)
    cases hb : st k
    · rw [allTo_no hb]
      exact ih
    · rw [allTo_yes hb, put_join]
      exact ih.join (okM_one (hv _ hm))

theorem allTo_le {us vs : List Wr} {st : Nat → Bool} {z : List Wr} (hu : OkM us) (hz : OkM z) (hv : ∀ x ∈ vs, 0 ≤ x.k ∧ x.k ≤ 5) (h : joinW us z = z) (hs : ∀ j, j < vs.length → st j = true → joinW [vs.getD j wz] z = z) : ∀ k, k ≤ vs.length → joinW (allTo us vs st k) z = z
  | 0, _ => h
  | k + 1, hk => by
    have ih := allTo_le hu hz hv h hs (st := st) k (by omega)
    have ho := allTo_okM hu hv (st := st) k (by omega)
    have hm : vs.getD k wz ∈ vs := by
      have e : vs.getD k wz = vs[k] := by simp [List.getD, show k < vs.length by omega]
      rw [e]
      exact List.getElem_mem (by omega)
    cases hb : st k
    · rw [allTo_no hb]
      exact ih
    · rw [allTo_yes hb, put_join]
      exact sup_le ho (okM_one (hv _ hm)) hz ih (hs k (by omega) hb)

theorem le_allTo {us vs : List Wr} {st : Nat → Bool} (hu : OkM us) (hv : ∀ x ∈ vs, 0 ≤ x.k ∧ x.k ≤ 5) : ∀ k, k ≤ vs.length → joinW us (allTo us vs st k) = allTo us vs st k
  | 0, _ => join_self hu
  | k + 1, hk => by
    have ih := le_allTo hu hv (st := st) k (by omega)
    have ho := allTo_okM hu hv (st := st) k (by omega)
    have hm : vs.getD k wz ∈ vs := by
      have e : vs.getD k wz = vs[k] := by simp [List.getD, show k < vs.length by omega]
      rw [e]
      exact List.getElem_mem (by omega)
    cases hb : st k
    · rw [allTo_no hb]
      exact ih
    · rw [allTo_yes hb, put_join]
      have h1 := okM_one (hv _ hm)
      exact le_trans' hu ho (ho.join h1) ih (le_sup ho h1)

theorem one_allTo {us vs : List Wr} {st : Nat → Bool} (hu : OkM us) (hv : ∀ x ∈ vs, 0 ≤ x.k ∧ x.k ≤ 5) {j : Nat} (hst : st j = true) : ∀ k, k ≤ vs.length → j < k → joinW [vs.getD j wz] (allTo us vs st k) = allTo us vs st k
  | 0, _, h => by omega
  | k + 1, hk, hj => by
    have ho := allTo_okM hu hv (st := st) k (by omega)
    have hmem : ∀ i, i < vs.length → vs.getD i wz ∈ vs := fun i hi => by
      have e : vs.getD i wz = vs[i] := by simp [List.getD, hi]
      rw [e]
      exact List.getElem_mem hi
    have hjm := okM_one (hv _ (hmem j (by omega)))
    by_cases e : j = k
    · subst e
      rw [allTo_yes hst, put_join]
      exact le_sup' ho hjm
    · have ih := one_allTo hu hv hst k (by omega) (by omega)
      cases hb : st k
      · rw [allTo_no hb]
        exact ih
      · rw [allTo_yes hb, put_join]
        have h1 := okM_one (hv _ (hmem k (by omega)))
        exact le_trans' hjm ho (ho.join h1) ih (le_sup ho h1)

theorem wid_all {us vs : List Wr} (h : rightB us vs = true) : widL us vs = allOf us vs (fixS us vs) := by
  rw [widL_right h, fitL_right h]
  unfold allOf
  rw [allTo_join]

theorem right_of {us vs : List Wr} (h : mapOkB us = true) (h' : ∀ x ∈ vs, okW x = true) : rightB us vs = true := by
  unfold rightB
  rw [h, Bool.true_and, List.all_eq_true]
  exact h'

theorem right_keys {us vs : List Wr} (h : rightB us vs = true) : OkM us ∧ (∀ x ∈ vs, 0 ≤ x.k ∧ x.k ≤ 5) ∧ mapOkB us = true := by
  obtain ⟨h1, h2, h3⟩ := right_parts h
  exact ⟨⟨h1, fun x hx => okW_key (h2 x hx)⟩, fun x hx => okW_key (h3 x hx), (mapOk_iff us).2 ⟨h2, h1⟩⟩

theorem fix_self {us vs : List Wr} {j : Nat} (hj : j < vs.length) (h : fixS us vs j = true) : covB (allOf us vs (fixS us vs)) (vs.getD j wz).xs = true := by
  have h1 := fix_fixed us vs j hj
  rw [h] at h1
  unfold nextS at h1
  rw [Bool.and_eq_true] at h1
  exact h1.2

/-- With more that has come, no less fits. -/
theorem fix_more {us vs rest : List Wr} (hr : Rise us) {j : Nat} (hj : j < vs.length) (h : fixS us vs j = true) : fixS us (vs ++ rest) j = true := by
  have hg : ∀ i, i < vs.length → (vs ++ rest).getD i wz = vs.getD i wz := fun i hi => by simp [List.getD, List.getElem?_append_left hi]
  have hl : vs.length ≤ (vs ++ rest).length := by simp
  refine fix_great hr (T := fun i => decide (i < vs.length) && fixS us vs i) (fun i hi hT => ?_) _ j (by omega) (by simp [hj, h])
  rw [Bool.and_eq_true, decide_eq_true_eq] at hT
  rw [hg i hT.1, cov_iff]
  intro d hd
  have h1 := (cov_iff _ _).1 (fix_self hT.1 hT.2) d hd
  unfold allOf at h1 ⊢
  rw [has_allTo vs _ hr] at h1
  rw [has_allTo (vs ++ rest) _ hr]
  rcases h1 with h1 | ⟨p, hp, h2, h3⟩
  · exact .inl h1
  · exact .inr ⟨p, by omega, by simp [hp, h2], by rw [hg p hp]; exact h3⟩

theorem wider {us vs rest : List Wr} (h : rightB us (vs ++ rest) = true) : withinB (widL us vs) (widL us (vs ++ rest)) = true := by
  obtain ⟨hu, hv, hm⟩ := right_keys h
  obtain ⟨hr, hu2, hv2⟩ := right_parts h
  have h0 : rightB us vs = true := right_of hm fun x hx => hv2 x (by simp [hx])
  refine (within_iff _ _).2 ⟨widL_mapOk _ _, widL_mapOk _ _, ?_⟩
  have hz := okM (widL_mapOk us (vs ++ rest))
  rw [wid_all h0]
  refine allTo_le hu hz (fun x hx => hv x (by simp [hx])) ?_ (fun j hj hs => ?_) _ (Nat.le_refl _)
  · rw [wid_all h]
    exact le_allTo hu hv _ (Nat.le_refl _)
  · have hg : (vs ++ rest).getD j wz = vs.getD j wz := by simp [List.getD, List.getElem?_append_left hj]
    rw [wid_all h, ← hg]
    have hl : vs.length ≤ (vs ++ rest).length := by simp
    exact one_allTo hu hv (fix_more hr hj hs) _ (Nat.le_refl _) (by omega)

/-- Seen again, nothing changes. -/
theorem wid_again {us vs : List Wr} (h : rightB us vs = true) : widL (widL us vs) vs = widL us vs := by
  obtain ⟨hu, hv, hm⟩ := right_keys h
  obtain ⟨hr, hu2, hv2⟩ := right_parts h
  have hx := okM (widL_mapOk us vs)
  have h2 : rightB (widL us vs) vs = true := right_of (widL_mapOk us vs) hv2
  have hS : ∀ j, j < vs.length → fixS (widL us vs) vs j = true → fixS us vs j = true := fun j hj hf => by
    refine fix_great hr (T := fun i => fixS us vs i || fixS (widL us vs) vs i) (fun i hi hT => ?_) _ j hj (by simp [hf])
    rw [cov_iff]
    intro d hd
    have hup : ∀ {key c s q : Int}, hasB (allOf us vs (fixS us vs)) key c s q = true → hasB (allOf us vs (fun i => fixS us vs i || fixS (widL us vs) vs i)) key c s q = true := fun {key c s q} h1 => by
      unfold allOf at h1 ⊢
      rw [has_allTo vs _ hr] at h1 ⊢
      rcases h1 with h1 | ⟨p, hp, h2, h3⟩
      · exact .inl h1
      · exact .inr ⟨p, hp, by simp [h2], h3⟩
    rw [Bool.or_eq_true] at hT
    rcases hT with hT | hT
    · exact hup ((cov_iff _ _).1 (fix_self hi hT) d hd)
    · have h1 := (cov_iff _ _).1 (fix_self hi hT) d hd
      unfold allOf at h1
      rw [has_allTo vs _ hx.rise] at h1
      rcases h1 with h1 | ⟨p, hp, h2, h3⟩
      · rw [wid_all h] at h1
        exact hup h1
      · unfold allOf
        rw [has_allTo vs _ hr]
        exact .inr ⟨p, hp, by simp [h2], h3⟩
  rw [wid_all h2]
  refine le_anti (allTo_okM hx hv _ (Nat.le_refl _)) hx (allTo_le hx hx hv (join_self hx) (fun j hj hs => ?_) _ (Nat.le_refl _)) (le_allTo hx hv _ (Nat.le_refl _))
  rw [wid_all h]
  exact one_allTo hu hv (hS j hj hs) _ (Nat.le_refl _) hj

end Go.Proofs.YtidpcjcnhklmpabGreat

/- The widest, with no program in sight: all that fits is covered in it and had, nothing that is held is; it has all of the map, and the widest of a cut is one. -/
namespace Go.Proofs.YtidpcjcnhklmpabGreat
open Go.ChangeShapes Go.WideShapes Go.ChangeAt Go.RowKit Go.Joins

theorem those_from {vs : List Wr} {st : Nat → Bool} {fit : Bool} : ∀ k, ∀ x ∈ thoseTo vs st fit k, ∃ j, j < k ∧ st j = fit ∧ x = vs.getD j wz
  | 0, x, hx => by simp [thoseTo] at hx
  | k + 1, x, hx => by
    by_cases h : st k = fit
    · rw [those_yes h] at hx
      rcases List.mem_append.1 hx with hx | hx
      · obtain ⟨j, h1, h2, h3⟩ := those_from k x hx
        exact ⟨j, by omega, h2, h3⟩
      · exact ⟨k, by omega, h, by simpa using hx⟩
    · rw [those_no h] at hx
      obtain ⟨j, h1, h2, h3⟩ := those_from k x hx
      exact ⟨j, by omega, h2, h3⟩

theorem those_sum (vs : List Wr) (st : Nat → Bool) : ∀ k, (thoseTo vs st true k).length + (thoseTo vs st false k).length = k
  | 0 => rfl
  | k + 1 => by
    have ih := those_sum vs st k
    cases h : st k
    · rw [those_no (fit := true) (by simp [h]), those_yes (fit := false) h]
      simp
      omega
    · rw [those_yes (fit := true) h, those_no (fit := false) (by simp [h])]
      simp
      omega

theorem fit_sum {us vs : List Wr} (h : rightB us vs = true) : (fitL us vs true).length + (fitL us vs false).length = vs.length := by
  rw [fitL_right h, fitL_right h]
  exact those_sum vs _ _

/-- What fits is covered in the widest, and the widest has it. -/
theorem fit_cov {us vs : List Wr} {x : Wr} (hx : x ∈ fitL us vs true) : covB (widL us vs) x.xs = true ∧ hasB (widL us vs) x.k x.c x.s x.q = true := by
  cases h : rightB us vs
  · rw [fitL_wrong h] at hx
    simp at hx
  · obtain ⟨hr, _, _⟩ := right_parts h
    rw [fitL_right h] at hx
    obtain ⟨j, hj, hs, rfl⟩ := those_from _ _ hx
    rw [wid_all h]
    refine ⟨fix_self hj hs, ?_⟩
    unfold allOf
    rw [has_allTo vs _ hr]
    exact .inr ⟨j, hj, hs, rfl, by rw [tcmp_self]; omega⟩

/-- What is held is not covered in the widest. -/
theorem held_not {us vs : List Wr} {x : Wr} (hx : x ∈ fitL us vs false) : covB (widL us vs) x.xs = false := by
  cases h : rightB us vs
  · rw [fitL_wrong h] at hx
    simp at hx
  · obtain ⟨hr, _, _⟩ := right_parts h
    rw [fitL_right h] at hx
    obtain ⟨j, hj, hs, rfl⟩ := those_from _ _ hx
    rw [wid_all h]
    cases hc : covB (allOf us vs (fixS us vs)) (vs.getD j wz).xs
    · rfl
    · have hup : ∀ {ds : List Dp}, covB (allOf us vs (fixS us vs)) ds = true → covB (allOf us vs (fun i => fixS us vs i || decide (i = j))) ds = true := fun {ds} h1 => cov_mono hr (fun i _ h2 => by simp [h2]) h1
      have : fixS us vs j = true := fix_great hr (T := fun i => fixS us vs i || decide (i = j)) (fun i hi hT => by
        rw [Bool.or_eq_true, decide_eq_true_eq] at hT
        rcases hT with hT | rfl
        · exact hup (fix_self hi hT)
        · exact hup hc) _ j hj (by simp)
      rw [hs] at this
      cases this

theorem wid_has {us vs : List Wr} (h : rightB us vs = true) : withinB us (widL us vs) = true := by
  obtain ⟨hu, hv, hm⟩ := right_keys h
  refine (within_iff _ _).2 ⟨hm, widL_mapOk _ _, ?_⟩
  rw [wid_all h]
  exact le_allTo hu hv _ (Nat.le_refl _)

theorem allTo_from {us vs : List Wr} {st : Nat → Bool} : ∀ k, ∀ x ∈ allTo us vs st k, x ∈ us ∨ ∃ j, j < k ∧ st j = true ∧ x = vs.getD j wz
  | 0, x, hx => .inl hx
  | k + 1, x, hx => by
    have ih := allTo_from (us := us) (vs := vs) (st := st) k
    have more : x ∈ allTo us vs st k → x ∈ us ∨ ∃ j, j < k + 1 ∧ st j = true ∧ x = vs.getD j wz := fun h => by
      rcases ih x h with h | ⟨j, h1, h2, h3⟩
      · exact .inl h
      · exact .inr ⟨j, by omega, h2, h3⟩
    cases hb : st k
    · rw [allTo_no hb] at hx
      exact more hx
    · rw [allTo_yes hb] at hx
      rcases put_mem _ _ x hx with h | h
      · exact .inr ⟨k, by omega, hb, h⟩
      · exact more h

theorem wid_cut {us vs : List Wr} (h : rightB us vs = true) (hc : cutB us = true) : cutB (widL us vs) = true := by
  obtain ⟨hr, _, _⟩ := right_parts h
  obtain ⟨_, h2⟩ := cut_parts hc
  refine cut_of (widL_mapOk _ _) fun x hx => ?_
  rw [wid_all h] at hx ⊢
  rcases allTo_from _ x hx with h1 | ⟨j, hj, hs, rfl⟩
  · rw [cov_iff]
    intro d hd
    unfold allOf
    rw [has_allTo vs _ hr]
    exact .inl ((cov_iff _ _).1 (h2 x h1) d hd)
  · exact fix_self hj hs

theorem wid_nil {us : List Wr} (h : rightB us [] = true) : widL us [] = us := by
  rw [wid_all h]
  rfl

end Go.Proofs.YtidpcjcnhklmpabGreat

/- What the latest writes of each key cover, with no program in sight: striking out the latest of a key while it lacks something ends at what fits. -/
namespace Go.Proofs.YtidpcjcnhklmpabGreat
open Go.ChangeShapes Go.WideShapes Go.ChangeAt Go.RowKit Go.Joins

def wrd (x : Wr) : Int := x.c * 4096 + x.s * 1024 + x.q

def wrdD (d : Dp) : Int := d.c * 4096 + d.s * 1024 + d.q

def headW : List Wr → Int
  | [] => 0
  | x :: _ => wrd x

/-- What the cover c has. -/
def chas (c : Nat → Int) (ds : List Dp) : Bool := ds.all fun d => decide (wrdD d ≤ c d.k.toNat)

def tops (L : Nat → List Wr) (k : Nat) : Int := headW (L k)

def strip (x : Wr) : Wr := ⟨x.k, x.c, x.s, x.q, 0, false, []⟩

theorem okW_parts {x : Wr} (h : okW x = true) : (0 ≤ x.k ∧ x.k ≤ 5) ∧ tagOkB x.c x.s x.q = true ∧ depsOkB x.xs = true := by
  have hk := okW_key h
  unfold okW writeOkB at h
  simp only [Bool.and_eq_true] at h
  exact ⟨hk, h.2.1, h.2.2.2.1⟩

theorem depsOk_each {xs : List Dp} (h : depsOkB xs = true) {d : Dp} (hd : d ∈ xs) : (0 ≤ d.k ∧ d.k ≤ 5) ∧ tagOkB d.c d.s d.q = true := by
  unfold depsOkB at h
  rw [List.all_eq_true] at h
  obtain ⟨i, hi, rfl⟩ := List.mem_iff_getElem.1 hd
  have h1 := h i (List.mem_range.2 hi)
  have e : xs.getD i dz = xs[i] := by simp [List.getD, hi]
  unfold depGood at h1
  rw [e] at h1
  simp only [Bool.and_eq_true, btw, decide_eq_true_eq] at h1
  exact ⟨by omega, by simp_all⟩

theorem chas_iff (c : Nat → Int) (ds : List Dp) : chas c ds = true ↔ ∀ d ∈ ds, wrdD d ≤ c d.k.toNat := by
  unfold chas
  rw [List.all_eq_true]
  exact ⟨fun h d hd => by simpa using h d hd, fun h d hd => by simpa using h d hd⟩

theorem findW_mem_rise : ∀ {ws : List Wr}, Rise ws → ∀ {u : Wr}, u ∈ ws → findW ws u.k = some u
  | [], _, _, h => by simp at h
  | x :: r, hr, u, h => by
    rw [findW_cons]
    have hr' := List.pairwise_cons.1 hr
    rcases List.mem_cons.1 h with rfl | h
    · rw [if_pos rfl]
    · have := hr'.1 u h
      rw [if_neg (by omega)]
      exact findW_mem_rise hr'.2 h

theorem has_of_mem {us : List Wr} (hr : Rise us) {u : Wr} (hu : u ∈ us) {c s q : Int} (h : 0 ≤ tcmp u.c u.s u.q c s q) : hasB us u.k c s q = true := by
  unfold hasB
  rw [findW_mem_rise hr hu]
  simpa using h

theorem mem_of_has {us : List Wr} {key c s q : Int} (h : hasB us key c s q = true) : ∃ u ∈ us, u.k = key ∧ 0 ≤ tcmp u.c u.s u.q c s q := by
  unfold hasB at h
  cases hf : findW us key with
  | none => rw [hf] at h; cases h
  | some u =>
    rw [hf] at h
    exact ⟨u, findW_mem hf, findW_key hf, by simpa using h⟩

/-- Of each key some of the writes that came, the latest first: all that m has, and all that fits. -/
structure Rows6 (us vs : List Wr) (L : Nat → List Wr) : Prop where
  src : ∀ k x, x ∈ L k → x.k = (k : Int) ∧ tagOkB x.c x.s x.q = true ∧ ((x.xs = [] ∧ ∃ u ∈ us, u.k = x.k ∧ u.c = x.c ∧ u.s = x.s ∧ u.q = x.q) ∨ x ∈ vs)
  olds : ∀ u ∈ us, ∃ x ∈ L u.k.toNat, x.xs = [] ∧ x.c = u.c ∧ x.s = u.s ∧ x.q = u.q
  news : ∀ j, j < vs.length → fixS us vs j = true → vs.getD j wz ∈ L (vs.getD j wz).k.toNat
  down : ∀ k, (L k).Pairwise fun x y => wrd y ≤ wrd x

theorem getV_mem {vs : List Wr} {j : Nat} (h : j < vs.length) : vs.getD j wz ∈ vs := by
  have e : vs.getD j wz = vs[j] := by simp [List.getD, h]
  rw [e]
  exact List.getElem_mem h

theorem Rows6.top {us vs : List Wr} {L : Nat → List Wr} (h : Rows6 us vs L) {k : Nat} {x : Wr} (hx : x ∈ L k) : wrd x ≤ tops L k := by
  unfold tops
  have hd := h.down k
  cases hl : L k with
  | nil => rw [hl] at hx; simp at hx
  | cons y r =>
    rw [hl] at hx hd
    show wrd x ≤ wrd y
    rcases List.mem_cons.1 hx with rfl | hx
    · exact Int.le_refl _
    · exact (List.pairwise_cons.1 hd).1 x hx

theorem word_le {x : Wr} {d : Dp} (hx : tagOkB x.c x.s x.q = true) (hd : tagOkB d.c d.s d.q = true) : wrdD d ≤ wrd x ↔ 0 ≤ tcmp x.c x.s x.q d.c d.s d.q := word_order hx hd

/-- What all that fits covers is covered by the tops. -/
theorem Rows6.up {us vs : List Wr} {L : Nat → List Wr} (hr : Rise us) (hu : ∀ x ∈ us, okW x = true) (hv : ∀ x ∈ vs, okW x = true) (h : Rows6 us vs L) {d : Dp} (hd : tagOkB d.c d.s d.q = true) (hc : hasB (allOf us vs (fixS us vs)) d.k d.c d.s d.q = true) : wrdD d ≤ tops L d.k.toNat := by
  unfold allOf at hc
  rw [has_allTo vs _ hr] at hc
  rcases hc with hc | ⟨j, hj, h1, h2, h3⟩
  · obtain ⟨u, hm, hk, ht⟩ := mem_of_has hc
    obtain ⟨x, hx, -, e1, e2, e3⟩ := h.olds u hm
    have hok := (okW_parts (hu u hm)).2.1
    rw [← hk]
    refine Int.le_trans ?_ (h.top hx)
    refine (word_le ?_ hd).2 ?_
    · rw [e1, e2, e3]; exact hok
    · rw [e1, e2, e3]; exact ht
  · have hm := h.news j hj h1
    have hok := (okW_parts (hv _ (getV_mem hj))).2.1
    rw [h2] at hm
    exact Int.le_trans ((word_le hok hd).2 h3) (h.top hm)

theorem Rows6.fits {us vs : List Wr} {L : Nat → List Wr} (hr : Rise us) (hu : ∀ x ∈ us, okW x = true) (hv : ∀ x ∈ vs, okW x = true) (h : Rows6 us vs L) {j : Nat} (hj : j < vs.length) (hf : fixS us vs j = true) : chas (tops L) (vs.getD j wz).xs = true := by
  rw [chas_iff]
  intro d hd
  have h1 := fix_fixed us vs j hj
  rw [hf] at h1
  unfold nextS at h1
  rw [Bool.and_eq_true] at h1
  exact h.up hr hu hv (depsOk_each (okW_parts (hv _ (getV_mem hj))).2.2 hd).2 ((cov_iff _ _).1 h1.2 d hd)

/-- The latest of a key, which lacks something, goes. -/
theorem Rows6.step {us vs : List Wr} {L : Nat → List Wr} (hr : Rise us) (hu : ∀ x ∈ us, okW x = true) (hv : ∀ x ∈ vs, okW x = true) (h : Rows6 us vs L) {k : Nat} {x : Wr} {t : List Wr} (hk : L k = x :: t) (hc : chas (tops L) x.xs = false) : Rows6 us vs (fun i => if i = k then t else L i) where
  src i y hy := by
    by_cases e : i = k
    · subst e
      simp only [if_true] at hy
      exact h.src i y (by rw [hk]; exact List.mem_cons_of_mem _ hy)
    · simp only [if_neg e] at hy
      exact h.src i y hy
  olds u hm := by
    obtain ⟨y, hy, e0, e1⟩ := h.olds u hm
    refine ⟨y, ?_, e0, e1⟩
    by_cases e : u.k.toNat = k
    · simp only [if_pos e]
      rw [e, hk] at hy
      rcases List.mem_cons.1 hy with rfl | hy
      · rw [e0] at hc
        simp [chas] at hc
      · exact hy
    · simp only [if_neg e]
      exact hy
  news j hj hf := by
    have hm := h.news j hj hf
    have hh := h.fits hr hu hv hj hf
    by_cases e : (vs.getD j wz).k.toNat = k
    · simp only [if_pos e]
      rw [e, hk] at hm
      rcases List.mem_cons.1 hm with hm | hm
      · rw [hm, hc] at hh
        cases hh
      · exact hm
    · simp only [if_neg e]
      exact hm
  down i := by
    by_cases e : i = k
    · subst e
      simp only [if_true]
      have := h.down i
      rw [hk] at this
      exact (List.pairwise_cons.1 this).2
    · simp only [if_neg e]
      exact h.down i

/-- Where no latest lacks anything, what the tops cover is what fits. -/
theorem Rows6.done {us vs : List Wr} {L : Nat → List Wr} (hr : Rise us) (hu : ∀ x ∈ us, okW x = true) (hv : ∀ x ∈ vs, okW x = true) (h : Rows6 us vs L) (hE : ∀ k x t, k < 6 → L k = x :: t → chas (tops L) x.xs = true) : ∀ j, j < vs.length → chas (tops L) (vs.getD j wz).xs = fixS us vs j := by
  intro j hj
  cases hf : fixS us vs j
  · cases hc : chas (tops L) (vs.getD j wz).xs
    · rfl
    · have hT := fix_great (us := us) (vs := vs) hr (T := fun i => chas (tops L) (vs.getD i wz).xs) (fun i hi hci => by
        rw [cov_iff]
        intro d hd
        have hdk := depsOk_each (okW_parts (hv _ (getV_mem hi))).2.2 hd
        have hle := (chas_iff _ _).1 hci d hd
        have hb := tagOk_bounds hdk.2
        have hkk : ((d.k.toNat : Nat) : Int) = d.k := by omega
        unfold allOf
        rw [has_allTo vs _ hr]
        cases hl : L d.k.toNat with
        | nil =>
          unfold tops at hle
          rw [hl] at hle
          have h0 : wrdD d ≤ 0 := hle
          unfold wrdD at h0
          omega
        | cons y r =>
          have hy : y ∈ L d.k.toNat := by rw [hl]; exact List.mem_cons_self
          obtain ⟨e1, e2, e3⟩ := h.src _ y hy
          have hle2 : wrdD d ≤ wrd y := by
            unfold tops at hle
            rw [hl] at hle
            exact hle
          have ht := (word_le e2 hdk.2).1 hle2
          rcases e3 with ⟨-, u, hm, k1, k2, k3, k4⟩ | hm
          · refine .inl ?_
            have := has_of_mem hr hm (c := d.c) (s := d.s) (q := d.q) (by rw [k2, k3, k4]; exact ht)
            rw [k1, e1, hkk] at this
            exact this
          · obtain ⟨p, hp, rfl⟩ := List.mem_iff_getElem.1 hm
            have eg : vs.getD p wz = vs[p] := by simp [List.getD, hp]
            refine .inr ⟨p, hp, ?_, ?_, ?_⟩
            · simp only [eg]
              exact hE _ _ _ (by omega) hl
            · rw [eg, e1, hkk]
            · rw [eg]; exact ht) vs.length j hj hc
      unfold fixS at hf
      rw [hT] at hf
      cases hf
  · exact h.fits hr hu hv hj hf

/-- The rows at the start, ahead of their sorting. -/
def startL (us vs : List Wr) (k : Nat) : List Wr := (us.filter fun x => x.k == (k : Int)).map strip ++ vs.filter fun x => x.k == (k : Int)

theorem rows6_start {us vs : List Wr} {L : Nat → List Wr} (hu : ∀ x ∈ us, okW x = true) (hv : ∀ x ∈ vs, okW x = true) (hp : ∀ k, k < 6 → (L k).Perm (startL us vs k)) (h6 : ∀ k, 6 ≤ k → L k = []) (hs : ∀ k, (L k).Pairwise fun x y => wrd y ≤ wrd x) : Rows6 us vs L where
  src k x hx := by
    by_cases h : k < 6
    · have hm := (hp k h).mem_iff.1 hx
      unfold startL at hm
      rcases List.mem_append.1 hm with hm | hm
      · obtain ⟨u, h1, rfl⟩ := List.mem_map.1 hm
        rw [List.mem_filter] at h1
        have hk : u.k = (k : Int) := by simpa using h1.2
        exact ⟨hk, (okW_parts (hu u h1.1)).2.1, .inl ⟨rfl, u, h1.1, rfl, rfl, rfl, rfl⟩⟩
      · rw [List.mem_filter] at hm
        have hk : x.k = (k : Int) := by simpa using hm.2
        exact ⟨hk, (okW_parts (hv x hm.1)).2.1, .inr hm.1⟩
    · rw [h6 k (by omega)] at hx
      simp at hx
  olds u hm := by
    have hk := (okW_parts (hu u hm)).1
    refine ⟨strip u, (hp _ (by omega)).mem_iff.2 ?_, rfl, rfl, rfl, rfl⟩
    unfold startL
    refine List.mem_append_left _ (List.mem_map.2 ⟨u, List.mem_filter.2 ⟨hm, ?_⟩, rfl⟩)
    simp
    omega
  news j hj _ := by
    have hm := getV_mem hj
    have hk := (okW_parts (hv _ hm)).1
    refine (hp _ (by omega)).mem_iff.2 ?_
    unfold startL
    refine List.mem_append_right _ (List.mem_filter.2 ⟨hm, ?_⟩)
    simp only [beq_iff_eq]
    omega
  down := hs

end Go.Proofs.YtidpcjcnhklmpabGreat

/-
  DERIVED: THE SHELF's CONTRACTS AT THIS DUMP, IN PLAIN WORDS (tools/lay-plain.mjs out of 'YtidpcjcnhklmpabGreatShelfSort.lean', which tools/lay-shelf.mjs wrote): THE SAME DECLARATIONS UNDER THE SAME NAMES: 'import', 'namespace', 'open', 'def', 'theorem' AND NOTHING ELSE: no command of the shelf's: FOR A HAND-IN. Each laying: the table of numbers ('.._ren') and one theorem, a field a fact of the dump's own or the kernel's comparison; each contract: ONE APPLICATION.
-/
namespace Go.Proofs
open Go.Shelf
def Tryz.sortW_ren : Go.Shelf.Ren := ⟨fun | 6 => 84 | 15 => 89 | 14 => 88 | 28 => 99 | 29 => 100 | 20 => 91 | 21 => 92 | 22 => 93 | 23 => 94 | 24 => 95 | 25 => 96 | 26 => 97 | 27 => 98 | 46 => 102 | 47 => 103 | 48 => 104 | 49 => 105 | 50 => 106 | 57 => 107 | n => n, fun | 22 => 24 | 24 => 35 | 25 => 49 | 3 => 3 | 39 => 96 | 0 => 0 | 53 => 108 | 55 => 71 | 4 => 4 | 46 => 101 | 45 => 100 | 50 => 105 | 5 => 5 | 9 => 9 | 66 => 111 | 70 => 115 | 76 => 117 | 77 => 118 | n => n, fun | n => n⟩
theorem Tryz.sortW : Go.Proofs.SlLaysF0.n6 Tryz.prog Tryz.sortW_ren := {
  mixed := by kernel_rfl
  f6 := ⟨Tryz.f84.name, by decide, Tryz.func84.trans (congrArg some (by kernel_rfl))⟩
  f14 := ⟨Tryz.f88.name, by decide, Tryz.func88.trans (congrArg some (by kernel_rfl))⟩
  f15 := Tryz.func89.trans (congrArg some (by kernel_rfl))
  f20 := ⟨Tryz.f91.name, by decide, Tryz.func91.trans (congrArg some (by kernel_rfl))⟩
  f21 := ⟨Tryz.f92.name, by decide, Tryz.func92.trans (congrArg some (by kernel_rfl))⟩
  f22 := ⟨Tryz.f93.name, by decide, Tryz.func93.trans (congrArg some (by kernel_rfl))⟩
  f23 := ⟨Tryz.f94.name, by decide, Tryz.func94.trans (congrArg some (by kernel_rfl))⟩
  f24 := ⟨Tryz.f95.name, by decide, Tryz.func95.trans (congrArg some (by kernel_rfl))⟩
  f25 := ⟨Tryz.f96.name, by decide, Tryz.func96.trans (congrArg some (by kernel_rfl))⟩
  f26 := ⟨Tryz.f97.name, by decide, Tryz.func97.trans (congrArg some (by kernel_rfl))⟩
  f27 := ⟨Tryz.f98.name, by decide, Tryz.func98.trans (congrArg some (by kernel_rfl))⟩
  f28 := Tryz.func99.trans (congrArg some (by kernel_rfl))
  f29 := Tryz.func100.trans (congrArg some (by kernel_rfl))
  f46 := ⟨Tryz.f102.name, by decide, Tryz.func102.trans (congrArg some (by kernel_rfl))⟩
  f47 := Tryz.func103.trans (congrArg some (by kernel_rfl))
  f48 := Tryz.func104.trans (congrArg some (by kernel_rfl))
  f49 := ⟨Tryz.f105.name, by decide, Tryz.func105.trans (congrArg some (by kernel_rfl))⟩
  f50 := ⟨Tryz.f106.name, by decide, Tryz.func106.trans (congrArg some (by kernel_rfl))⟩
  f57 := ⟨Tryz.f107.name, by decide, Tryz.func107.trans (congrArg some (by kernel_rfl))⟩
  t0 := Tryz.underlying0
  a0 := Tryz.isAgg0
  z0 := Tryz.sizeOf0
  v0 := Tryz.zeroValue0
  t3 := Tryz.underlying3
  a3 := Tryz.isAgg3
  z3 := Tryz.sizeOf3
  v3 := Tryz.zeroValue3
  t4 := Tryz.underlying4
  a4 := Tryz.isAgg4
  z4 := Tryz.sizeOf4
  v4 := Tryz.zeroValue4
  t5 := Tryz.underlying5
  a5 := Tryz.isAgg5
  z5 := Tryz.sizeOf5
  v5 := Tryz.zeroValue5
  t9 := Tryz.underlying9
  a9 := Tryz.isAgg9
  z9 := Tryz.sizeOf9
  v9 := Tryz.zeroValue9
  t22 := Tryz.underlying24
  a22 := Tryz.isAgg24
  z22 := Tryz.sizeOf24
  v22 := Tryz.zeroValue24
  t25 := Tryz.underlying49
  a25 := Tryz.isAgg49
  z25 := Tryz.sizeOf49
  v25 := Tryz.zeroValue49
  t39 := Tryz.underlying96
  a39 := Tryz.isAgg96
  z39 := Tryz.sizeOf96
  v39 := Tryz.zeroValue96
  t45 := Tryz.underlying100
  a45 := Tryz.isAgg100
  z45 := Tryz.sizeOf100
  v45 := Tryz.zeroValue100
  t46 := Tryz.underlying101
  a46 := Tryz.isAgg101
  z46 := Tryz.sizeOf101
  v46 := Tryz.zeroValue101
  t50 := Tryz.underlying105
  a50 := Tryz.isAgg105
  z50 := Tryz.sizeOf105
  v50 := Tryz.zeroValue105
  t53 := Tryz.underlying108
  a53 := Tryz.isAgg108
  z53 := Tryz.sizeOf108
  v53 := Tryz.zeroValue108
  t55 := Tryz.underlying71
  a55 := Tryz.isAgg71
  z55 := Tryz.sizeOf71
  v55 := Tryz.zeroValue71
  t66 := Tryz.underlying111
  a66 := Tryz.isAgg111
  z66 := Tryz.sizeOf111
  v66 := Tryz.zeroValue111
  t70 := Tryz.underlying115
  a70 := Tryz.isAgg115
  z70 := Tryz.sizeOf115
  v70 := Tryz.zeroValue115
  t76 := Tryz.underlying117
  a76 := Tryz.isAgg117
  z76 := Tryz.sizeOf117
  v76 := Tryz.zeroValue117
  t77 := Tryz.underlying118
  a77 := Tryz.isAgg118
  z77 := Tryz.sizeOf118
  v77 := Tryz.zeroValue118 }
end Go.Proofs

/- The contract of impl.TagCmp, to the world: blocks behind, draws ahead, nothing else. -/
namespace Go.Proofs.YtidpcjcnhklmpabGreat
open Go.ChangeShapes Go.WideShapes Go.ChangeAt Go.RowKit
attribute [local go_sem ↓] Go.wp_at_zero Go.wp_at_succ

/-- Some draws, then some blocks behind. -/
def Laid (w w' : World) : Prop := ∃ q os', w' = Go.Sort.grow (w.drewN q) os'

theorem Laid.refl (w : World) : Laid w w := ⟨0, #[], by simp [Go.Sort.grow, World.drewN]⟩

theorem Laid.alloc {w w' : World} (h : Laid w w') (o : Obj) : Laid w (w'.alloc o) := by
  obtain ⟨q, os', rfl⟩ := h
  exact ⟨q, os' ++ #[o], by rw [Go.Sort.alloc_eq_grow, Go.Sort.grow_grow]⟩

theorem Laid.drew {w w' : World} (h : Laid w w') : Laid w w'.drew := by
  obtain ⟨q, os', rfl⟩ := h
  exact ⟨q + 1, os', by simp [Go.Sort.grow, World.drewN, World.drew, Nat.add_assoc]⟩

theorem Laid.trans {w w' w2 : World} (h : Laid w w') (h' : Laid w' w2) : Laid w w2 := by
  obtain ⟨q, os', rfl⟩ := h
  obtain ⟨q', os2, rfl⟩ := h'
  exact ⟨q + q', os' ++ os2, by simp [Go.Sort.grow, World.drewN, Nat.add_assoc]⟩

set_option maxHeartbeats 400000 in
theorem lTagCmp_eq (c s q : Int) (w : World) :
    Calls Tryz.prog 35 #[tagV c s q, tagV c s q] w fun e w' => e = .returned (.int .i64 0) ∧ Laid w w' := by
  go_enter Tryz.func35, Tryz.ntmps35
  go_wp2_with fail
  go_ret
  exact ⟨rfl, ((Laid.refl _).alloc _).alloc _⟩

set_option maxHeartbeats 1000000 in
theorem lTagCmp_ne1 (c s q c' s' q' : Int) (w : World) (h : ¬ c = c') :
    Calls Tryz.prog 35 #[tagV c s q, tagV c' s' q'] w fun e w' => e = .returned (.int .i64 (orI [sgn c c', sgn s s', sgn q q'])) ∧ Laid w w' := by
  go_enter Tryz.func35, Tryz.ntmps35
  go_wp2_with fail
  go_region_held3 (fun w' => w'.cell? ⟨w.heap.size, 0, none⟩ = some (.int .i64 c) ∧ w'.cell? ⟨w.heap.size, 1, none⟩ = some (.int .i64 s) ∧ w'.cell? ⟨w.heap.size, 2, none⟩ = some (.int .i64 q) ∧ w'.cell? ⟨w.heap.size + 1, 0, none⟩ = some (.int .i64 c') ∧ w'.cell? ⟨w.heap.size + 1, 1, none⟩ = some (.int .i64 s') ∧ w'.cell? ⟨w.heap.size + 1, 2, none⟩ = some (.int .i64 q')) (go_keep)
    (first | (go_at_call 66; refine (compare_any _ _ _).mono ?_; rintro e w' ⟨rfl, rfl⟩) | (go_at_call 65; refine (or_any _ [sgn c c', sgn s s', sgn q q'] _ _ (by simp) (by exact three_cells _ _ _ _ _ _ (by simp))).mono ?_; rintro e w' ⟨rfl, rfl⟩))
  all_goals
    go_wp2
    go_ret
    exact ⟨rfl, ((((Laid.refl _).alloc _).alloc _).alloc _).drew⟩

set_option maxHeartbeats 1000000 in
theorem lTagCmp_ne2 (c s q s' q' : Int) (w : World) (h : ¬ s = s') :
    Calls Tryz.prog 35 #[tagV c s q, tagV c s' q'] w fun e w' => e = .returned (.int .i64 (orI [sgn c c, sgn s s', sgn q q'])) ∧ Laid w w' := by
  go_enter Tryz.func35, Tryz.ntmps35
  go_wp2_with fail
  go_region_held3 (fun w' => w'.cell? ⟨w.heap.size, 0, none⟩ = some (.int .i64 c) ∧ w'.cell? ⟨w.heap.size, 1, none⟩ = some (.int .i64 s) ∧ w'.cell? ⟨w.heap.size, 2, none⟩ = some (.int .i64 q) ∧ w'.cell? ⟨w.heap.size + 1, 0, none⟩ = some (.int .i64 c) ∧ w'.cell? ⟨w.heap.size + 1, 1, none⟩ = some (.int .i64 s') ∧ w'.cell? ⟨w.heap.size + 1, 2, none⟩ = some (.int .i64 q')) (go_keep)
    (first | (go_at_call 66; refine (compare_any _ _ _).mono ?_; rintro e w' ⟨rfl, rfl⟩) | (go_at_call 65; refine (or_any _ [sgn c c, sgn s s', sgn q q'] _ _ (by simp) (by exact three_cells _ _ _ _ _ _ (by simp))).mono ?_; rintro e w' ⟨rfl, rfl⟩))
  all_goals
    go_wp2
    go_ret
    exact ⟨rfl, ((((Laid.refl _).alloc _).alloc _).alloc _).drew⟩

set_option maxHeartbeats 1000000 in
theorem lTagCmp_ne3 (c s q q' : Int) (w : World) (h : ¬ q = q') :
    Calls Tryz.prog 35 #[tagV c s q, tagV c s q'] w fun e w' => e = .returned (.int .i64 (orI [sgn c c, sgn s s, sgn q q'])) ∧ Laid w w' := by
  go_enter Tryz.func35, Tryz.ntmps35
  go_wp2_with fail
  go_region_held3 (fun w' => w'.cell? ⟨w.heap.size, 0, none⟩ = some (.int .i64 c) ∧ w'.cell? ⟨w.heap.size, 1, none⟩ = some (.int .i64 s) ∧ w'.cell? ⟨w.heap.size, 2, none⟩ = some (.int .i64 q) ∧ w'.cell? ⟨w.heap.size + 1, 0, none⟩ = some (.int .i64 c) ∧ w'.cell? ⟨w.heap.size + 1, 1, none⟩ = some (.int .i64 s) ∧ w'.cell? ⟨w.heap.size + 1, 2, none⟩ = some (.int .i64 q')) (go_keep)
    (first | (go_at_call 66; refine (compare_any _ _ _).mono ?_; rintro e w' ⟨rfl, rfl⟩) | (go_at_call 65; refine (or_any _ [sgn c c, sgn s s, sgn q q'] _ _ (by simp) (by exact three_cells _ _ _ _ _ _ (by simp))).mono ?_; rintro e w' ⟨rfl, rfl⟩))
  all_goals
    go_wp2
    go_ret
    exact ⟨rfl, ((((Laid.refl _).alloc _).alloc _).alloc _).drew⟩

theorem lTagCmp_any (c s q c' s' q' : Int) (w : World) :
    Calls Tryz.prog 35 #[tagV c s q, tagV c' s' q'] w fun e w' => e = .returned (.int .i64 (tcmp c s q c' s' q')) ∧ Laid w w' := by
  rw [← orI_three]
  by_cases h1 : c = c'
  · by_cases h2 : s = s'
    · by_cases h3 : q = q'
      · subst h1 h2 h3
        rw [orI_three, tcmp_self]
        exact lTagCmp_eq c s q w
      · subst h1 h2
        exact lTagCmp_ne3 c s q q' w h3
    · subst h1
      exact lTagCmp_ne2 c s q s' q' w h2
  · exact lTagCmp_ne1 c s q c' s' q' w h1

end Go.Proofs.YtidpcjcnhklmpabGreat

/- slices.SortFunc over writes, the latest tag first. -/
namespace Go.Proofs.YtidpcjcnhklmpabGreat
open Go.ChangeShapes Go.WideShapes Go.ChangeAt Go.RowKit Go.Joins
attribute [local go_sem ↓] Go.wp_at_zero Go.wp_at_succ

/-- By tags, the latest first. -/
def laterC (x y : EnG) : Int := tcmp y.x.c y.x.s y.x.q x.x.c x.x.s x.x.q

/-- The row's cells hold these writes. -/
def HoldsE (w : World) (g : Nat) (es : List EnG) : Prop := @Go.Sort.HoldsK EnG ⟨ezG⟩ wrValsG 7 w g 0 es.toArray

theorem tcmp_ntrans {c s q c' s' q' c2 s2 q2 : Int} (h : 0 ≤ tcmp c s q c' s' q') (h' : 0 ≤ tcmp c' s' q' c2 s2 q2) : 0 ≤ tcmp c s q c2 s2 q2 := by
  have t := tcmp_three c2 s2 q2 c' s' q' c s q
  rw [tcmp_neg c' s' q' c2 s2 q2, tcmp_neg c s q c' s' q', tcmp_neg c s q c2 s2 q2] at t
  rcases t.on (by omega) (by omega) with h1 | h1 <;> omega

theorem laterC_swo : Go.Sort.SWO (Go.Proofs.ltOf laterC) where
  irrefl x := by
    unfold Go.Proofs.ltOf laterC
    rw [tcmp_self]
    rfl
  trans x y z h1 h2 := by
    unfold Go.Proofs.ltOf laterC at *
    rw [decide_eq_true_eq] at *
    rcases (tcmp_three z.x.c z.x.s z.x.q y.x.c y.x.s y.x.q x.x.c x.x.s x.x.q).on (by omega) (by omega) with h | h <;> omega
  ntrans x y z h1 h2 := by
    unfold Go.Proofs.ltOf laterC at *
    rw [decide_eq_false_iff_not] at *
    have := tcmp_ntrans (Int.not_lt.1 h2) (Int.not_lt.1 h1)
    omega

set_option maxHeartbeats 1000000 in
theorem laterF_any (x y : EnG) (w : World) :
    Calls Tryz.prog 85 #[.agg (wrValsG x).toArray, .agg (wrValsG y).toArray] w fun e w' => e = .returned (.int .i64 (laterC x y)) ∧ Laid w w' := by
  obtain ⟨⟨xk, xc, xs', xq, xv, xd, xx⟩, xa, xg, xcp⟩ := x
  obtain ⟨⟨yk, yc, ys, yq, yv, yd, yy⟩, ya, yg, ycp⟩ := y
  unfold laterC wrValsG
  simp only
  have HL : Hid (Laid w ((w.alloc (.cells #[.int .i64 xk, .int .i64 xc, .int .i64 xs', .int .i64 xq, .int .i64 xv, .bool xd, .slice xa xx.length xcp] 35)).alloc (.cells #[.int .i64 yk, .int .i64 yc, .int .i64 ys, .int .i64 yq, .int .i64 yv, .bool yd, .slice ya yy.length ycp] 35))) := ((Laid.refl _).alloc _).alloc _
  go_enter Tryz.func85, Tryz.ntmps85
  go_wp2_with fail
  refine (lTagCmp_any _ _ _ _ _ _ _).mono ?_
  rintro e w1 ⟨rfl, hl⟩
  have HL1 := Lib.hid (HL.out.trans hl)
  clear hl HL
  go_wp2
  go_ret
  exact ⟨rfl, HL1.out⟩

theorem grown_sorted (w : World) (g n : Nat) (d : Array EnG) (os : Array Obj) : w.grownBy (@sortWorldK EnG ⟨ezG⟩ wrValsG 7 w g 0 n d os) (some g) := by
  refine ⟨rfl, rfl, rfl, @size_sortWorldK_c EnG ⟨ezG⟩ wrValsG 7 w g 0 n d os, fun k hk hne => ?_⟩
  unfold sortWorldK
  rw [Go.Sort.heap_grow_old _ _ (by rw [@Go.Sort.size_putRowK EnG ⟨ezG⟩]; exact hk)]
  have : g ≠ k := fun e => hne (by rw [e])
  simp [Go.Sort.putRowK, Go.Sort.putRow, Go.Sort.mapBlock, Go.Sort.ahead, Array.getElem?_modify, this]

theorem sorted_pair {es : List EnG} (h : ∀ i j, i < j → j < es.length → 0 ≤ tcmp (es.getD i ezG).x.c (es.getD i ezG).x.s (es.getD i ezG).x.q (es.getD j ezG).x.c (es.getD j ezG).x.s (es.getD j ezG).x.q) : es.Pairwise fun x y => 0 ≤ tcmp x.x.c x.x.s x.x.q y.x.c y.x.s y.x.q := by
  rw [List.pairwise_iff_getElem]
  intro i j hi hj hij
  have := h i j hij hj
  simpa [List.getD, hi, hj] using this

theorem sortW_any (g n cap : Nat) (es : List EnG) (w : World) (hn : es.length = n) (hm : n ≤ 2097152) (hg : g < w.heap.size) (hH : HoldsE w g es) :
    Calls Tryz.prog 84 #[.slice (some ⟨g, 0, none⟩) n cap, .func (.func 85) #[] #[]] w fun e w' => e = .returned (.tuple #[]) ∧ ∃ es' : List EnG, es'.Perm es ∧ (es'.Pairwise fun x y => 0 ≤ tcmp x.x.c x.x.s x.x.q y.x.c y.x.s y.x.q) ∧ HoldsE w' g es' ∧ w.grownBy w' (some g) := by
  have eg : ∀ args w, (callFunc 85 args).run Tryz.prog w = .ok (.enter 85 args) w := enters_of Tryz.func85 (by kernel_rfl) rfl
  have hs : es.toArray.size = n := by simpa using hn
  have hc : @CmpLays EnG ⟨ezG⟩ Tryz.prog 85 #[] wrValsG 7 laterC g 0 es.toArray.size w := fun m os dk _ x y => by
    have := laterF_any x y (@sortWorldK EnG ⟨ezG⟩ wrValsG 7 w g 0 m dk os)
    simpa [Laid] using this
  have hcon := @AnyQ.slices_SortFunc Tryz.prog _ EnG ⟨ezG⟩ Tryz.sortW 7 Tryz.isAgg35 Tryz.sizeOf35 wrValsG (fun _ => rfl) (fun x v hv => valsG_one [x] v (by simpa using hv)) laterC laterC_swo 85 #[] g 0 cap es.toArray w eg hc hH hg (by rw [hs]; omega)
  rw [hs] at hcon
  refine Calls.mono (R := fun e w' => e = .returned (.tuple #[]) ∧ ∃ d' n' os, @Go.Sort.PermIn EnG ⟨ezG⟩ 0 n es.toArray d' ∧ @Go.Sort.SortedIn EnG ⟨ezG⟩ (Go.Proofs.ltOf laterC) 0 n d' ∧ w' = @sortWorldK EnG ⟨ezG⟩ wrValsG 7 w g 0 n' d' os) hcon ?_
  rintro e w' ⟨rfl, d', n', os, ⟨hp1, -, hp3⟩, hso, rfl⟩
  have hd : d'.size = n := by rw [hp1]; exact hs
  refine ⟨rfl, d'.toList, ?_, ?_, ?_, grown_sorted w g n' d' os⟩
  · have e1 : d'.extract 0 n = d' := by rw [← hd]; simp
    have e2 : es.toArray.extract 0 n = es.toArray := by rw [← hs]; simp
    rw [e1, e2] at hp3
    exact hp3
  · refine sorted_pair fun i j hij hj => ?_
    have hj' : j < d'.size := by simpa using hj
    have h := hso i j (Nat.zero_le _) hij (by omega)
    unfold Go.Proofs.ltOf laterC at h
    rw [decide_eq_false_iff_not, Int.not_lt] at h
    have gi : @getElem! (Array EnG) Nat EnG _ _ ⟨ezG⟩ d' i = d'.toList.getD i ezG := by
      rw [@getElem!_pos _ _ _ _ _ _ ⟨ezG⟩ d' i (by omega)]
      simp [List.getD, show i < d'.size by omega]
    have gj : @getElem! (Array EnG) Nat EnG _ _ ⟨ezG⟩ d' j = d'.toList.getD j ezG := by
      rw [@getElem!_pos _ _ _ _ _ _ ⟨ezG⟩ d' j (by omega)]
      simp [List.getD, hj']
    rw [gi, gj] at h
    exact h
  · exact @holdsK_sortWorldK_c EnG ⟨ezG⟩ wrValsG 7 w g 0 es.toArray d' n' os hH hg (by rw [hd, hs])

end Go.Proofs.YtidpcjcnhklmpabGreat
