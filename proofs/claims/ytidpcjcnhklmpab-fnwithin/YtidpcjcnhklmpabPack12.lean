import Derived.Test.YtidpcjcnhklmpabPack11
import Derived.Test.YtidpcjcnhklmpabPack2
import Derived.RegionTactic
import Derived.BigRegion
import Derived.Deep.RegionHeld3
import Derived.Deep.DrawnRows
import Derived.WalkSpells
/- The contract of the laws' sameWrites. -/
namespace Go.Proofs.Ytidpcjcnhklmpab
open Go.ChangeShapes Go.WideShapes Go.ChangeAt Go.RowKit Go.Joins
attribute [local go_sem ↓] Go.wp_at_zero Go.wp_at_succ

set_option maxHeartbeats 4000000 in
theorem sameWrites_gen (a b : Option Addr) (n m cap cap' : Nat) (us vs : List Wr) (w : World) (hn : us.length = n) (hm : vs.length = m) (hn1 : n ≤ 1048576) (hm1 : m ≤ 1048576) (hx : Few us) (hy : Few vs) (hi : IsWs w a us) (hj : IsWs w b vs) :
    Calls Try.prog 16 #[.slice a n cap, .slice b m cap'] w fun e w' => e = .returned (.bool (sameB us vs)) ∧ Below w.heap.size w w' := by
  have HI : Hid (IsWs w a us) := hi
  have HJ : Hid (IsWs w b vs) := hj
  have HN : Hid (us.length = n) := hn
  have HM : Hid (vs.length = m) := hm
  have HX : Hid (Few us) := hx
  have HY : Hid (Few vs) := hy
  clear hi hj hn hm hx hy
  by_cases hnm : n = m
  case neg =>
    have HF : Hid (sameB us vs = false) := same_len (by rw [HN.out, HM.out]; exact hnm)
    have hb : ((n : Int) != (m : Int)) = true := by rw [bne_iff_ne]; omega
    go_enter Try.func16, Try.ntmps16
    go_wp2
    go_ret
    exact ⟨ret_bool HF.out.symm, Below.refl _ _⟩
  subst hnm
  go_enter Try.func16, Try.ntmps16
  go_wp2
  go_loopw [5] (fun i wr => ∃ k : Nat, k ≤ n ∧ i = .int .i64 k ∧ Hid (∀ j, j < k → cmpW (us.getD j wz) (vs.getD j wz) = 0) ∧ Hid (Below w.heap.size w wr)) (fun i _ => n - (intOf i).toNat)
  case atStart => exact ⟨0, Nat.zero_le _, rfl, fun j hj => absurd hj (Nat.not_lt_zero j), Below.refl _ _⟩
  case round =>
    obtain ⟨k, hk, rfl, HK, HB⟩ := hrel
    by_cases hk' : k < n
    · obtain ⟨b1, o1, ad, cp, rfl, hz, ⟨e0, e1, e2, e3, e4, e5, e6⟩, hd⟩ := HI.out.at HB.out HN.out hk'
      obtain ⟨b2, o2, ad', cp', rfl, hz', ⟨f0, f1, f2, f3, f4, f5, f6⟩, hd'⟩ := HJ.out.at HB.out HM.out hk'
      have i1 : (0 : Int) ≤ (k : Int) := by omega
      have i2 : (k : Int) < (n : Int) := by omega
      have HC : Hid (∀ p : Aft wr.heap.size wr, Calls Try.prog 13 #[wrOf (us.getD k wz) ad cp, wrOf (vs.getD k wz) ad' cp'] p.now fun e w' => e = .returned (.int .i64 (cmpW (us.getD k wz) (vs.getD k wz))) ∧ Below p.now.heap.size p.now w') := fun p =>
        specWriteCmp_gen _ _ _ _ _ _ _ (us.getD k wz).xs _ _ _ _ _ _ _ _ _ (vs.getD k wz).xs _ _ _ rfl rfl (HX.out k (by rw [HN.out]; exact hk')) (HY.out k (by rw [HM.out]; exact hk')) (hd.below p.below) (hd'.below p.below)
      have HE : Hid (cmpW (us.getD k wz) (vs.getD k wz) ≠ 0 → sameB us vs = false) := fun h => same_false (by rw [HN.out]; exact hk') h
      have HK' : Hid (cmpW (us.getD k wz) (vs.getD k wz) = 0 → ∀ j, j < k + 1 → cmpW (us.getD j wz) (vs.getD j wz) = 0) := fun h j hj => by
        by_cases h' : j < k
        · exact HK.out j h'
        · have : j = k := by omega
          rw [this]
          exact h
      clear hd hd' HI HJ
      by_cases hc : cmpW (us.getD k wz) (vs.getD k wz) = 0
      · have HK2 := Lib.hid (HK'.out hc)
        rw [hc] at HC
        clear hc HE HK'
        generalize us.getD k wz = x at *
        generalize vs.getD k wz = y at *
        obtain ⟨xk, xc, xs', xq, xv, xd, xx⟩ := x
        obtain ⟨yk, yc, ys, yq, yv, yd, yy⟩ := y
        simp only at e0 e1 e2 e3 e4 e5 e6 f0 f1 f2 f3 f4 f5 f6 HC
        go_wp2_with fail
        have ge0 := aft_cell hz e0
        have ge1 := aft_cell hz e1
        have ge2 := aft_cell hz e2
        have ge3 := aft_cell hz e3
        have ge4 := aft_cell hz e4
        have ge5 := aft_cell hz e5
        have ge6 := aft_cell hz e6
        have gf0 := aft_cell hz' f0
        have gf1 := aft_cell hz' f1
        have gf2 := aft_cell hz' f2
        have gf3 := aft_cell hz' f3
        have gf4 := aft_cell hz' f4
        have gf5 := aft_cell hz' f5
        have gf6 := aft_cell hz' f6
        have ne := aft_some wr
        refine wp_region_aft (by kernel_rfl) (by kernel_rfl) ?_
        repeat (first | go_big_quiet_step (first | (go_at_call 13; exact aft_of (HC.out _))))
        refine wpQuiet_nil ?_
        intro wq hq
        have HBQ : Hid (Below w.heap.size w wq) := below_step HB.out HB.out.size hq
        clear hq
        go_wp2
        exact ⟨⟨k + 1, by omega, by go_num, HK2, HBQ⟩, by simp [intOf]; omega⟩
      · have HF := Lib.hid (HE.out hc)
        have hcb : (cmpW (us.getD k wz) (vs.getD k wz) != 0) = true := by rw [bne_iff_ne]; exact hc
        clear hc HE HK'
        generalize cmpW (us.getD k wz) (vs.getD k wz) = z at *
        generalize us.getD k wz = x at *
        generalize vs.getD k wz = y at *
        obtain ⟨xk, xc, xs', xq, xv, xd, xx⟩ := x
        obtain ⟨yk, yc, ys, yq, yv, yd, yy⟩ := y
        simp only at e0 e1 e2 e3 e4 e5 e6 f0 f1 f2 f3 f4 f5 f6 HC
        go_wp2_with fail
        have ge0 := aft_cell hz e0
        have ge1 := aft_cell hz e1
        have ge2 := aft_cell hz e2
        have ge3 := aft_cell hz e3
        have ge4 := aft_cell hz e4
        have ge5 := aft_cell hz e5
        have ge6 := aft_cell hz e6
        have gf0 := aft_cell hz' f0
        have gf1 := aft_cell hz' f1
        have gf2 := aft_cell hz' f2
        have gf3 := aft_cell hz' f3
        have gf4 := aft_cell hz' f4
        have gf5 := aft_cell hz' f5
        have gf6 := aft_cell hz' f6
        have ne := aft_some wr
        refine wp_region_aft (by kernel_rfl) (by kernel_rfl) ?_
        repeat (first | go_big_quiet_step (first | (go_at_call 13; exact aft_of (HC.out _))))
        refine wpQuiet_nil ?_
        intro wq hq
        have HBQ : Hid (Below w.heap.size w wq) := below_step HB.out HB.out.size hq
        clear hq
        go_wp2
        go_ret
        exact ⟨ret_bool HF.out.symm, HBQ.out⟩
    · have hkk : k = n := by omega
      subst hkk
      have HF : Hid (sameB us vs = true) := same_true (by rw [HN.out, HM.out]) (fun i hi => HK.out i (by rw [← HN.out]; exact hi))
      go_wp2
      go_ret
      exact ⟨ret_bool HF.out.symm, HB.out⟩

end Go.Proofs.Ytidpcjcnhklmpab

/- Maps joined: whichever comes first, the same comes; within is an order. No program in sight. -/
namespace Go.Proofs.Ytidpcjcnhklmpab

theorem dcmp_zero {d e : Dp} (h : dcmp d e = 0) : d = e := by
  obtain ⟨k, c, s, q⟩ := d
  obtain ⟨k', c', s', q'⟩ := e
  unfold dcmp at h
  simp only at h
  by_cases hk : k = k'
  · rw [if_neg (by simp [hk])] at h
    obtain ⟨rfl, rfl, rfl⟩ := tcmp_zero.1 h
    rw [hk]
  · rw [if_pos hk] at h
    exact absurd (sgn_zero.1 h) hk

theorem depsCmp_zero : ∀ {xs ys : List Dp}, depsCmp xs ys = 0 → xs = ys
  | [], [], _ => rfl
  | [], _ :: _, h => by simp [depsCmp] at h
  | _ :: _, [], h => by simp [depsCmp] at h
  | d :: r, e :: t, h => by
    unfold depsCmp at h
    by_cases hd : dcmp d e = 0
    · rw [if_neg (by simp [hd])] at h
      rw [dcmp_zero hd, depsCmp_zero h]
    · rw [if_pos hd] at h
      exact absurd h hd

theorem cmpW_zero {x y : Wr} (h : cmpW x y = 0) : x = y := by
  obtain ⟨k, c, s, q, v, de, xs⟩ := x
  obtain ⟨k', c', s', q', v', de', ys⟩ := y
  unfold cmpW wcmp at h
  simp only at h
  by_cases h1 : tcmp c s q c' s' q' = 0
  · rw [if_neg (by simp [h1])] at h
    obtain ⟨rfl, rfl, rfl⟩ := tcmp_zero.1 h1
    by_cases h2 : k = k'
    · subst h2
      rw [if_neg (by simp)] at h
      by_cases h3 : v = v'
      · subst h3
        rw [if_neg (by simp)] at h
        by_cases h4 : de = de'
        · subst h4
          rw [if_neg (by simp)] at h
          rw [depsCmp_zero h]
        · rw [if_pos h4] at h
          exact absurd (sgn_zero.1 h) (by cases de <;> cases de' <;> simp [bit] at h4 ⊢)
      · rw [if_pos h3] at h
        exact absurd (sgn_zero.1 h) h3
    · rw [if_pos h2] at h
      exact absurd (sgn_zero.1 h) h2
  · rw [if_pos h1] at h
    exact absurd h h1

theorem cmpW_self (x : Wr) : cmpW x x = 0 := by
  have h := wcmp_neg x.k x.c x.s x.q x.v x.de x.xs x.k x.c x.s x.q x.v x.de x.xs
  unfold cmpW
  omega

theorem same_iff (us vs : List Wr) : sameB us vs = true ↔ us = vs := by
  constructor
  · intro h
    unfold sameB at h
    rw [Bool.and_eq_true, decide_eq_true_eq, List.all_eq_true] at h
    refine List.ext_getElem h.1 fun i h1 h2 => ?_
    have h3 := h.2 i (List.mem_range.2 h1)
    have e1 : us.getD i wz = us[i] := by simp [List.getD, h1]
    have e2 : vs.getD i wz = vs[i] := by simp [List.getD, h2]
    rw [decide_eq_true_eq, e1, e2] at h3
    exact cmpW_zero h3
  · rintro rfl
    exact same_true rfl fun i _ => cmpW_self _

/-- The later of two registers. -/
def later2 (a b : Option Wr) : Option Wr := match b with
  | none => a
  | some y => some (laterO a y)

theorem fold_find : ∀ (b : List Wr) (M : Int → Option Wr), Rise b → ∀ key, b.foldl regPut M key = later2 (M key) (findW b key)
  | [], M, _, key => rfl
  | x :: r, M, h, key => by
    have hp := List.pairwise_cons.1 h
    show r.foldl regPut (regPut M x) key = _
    rw [fold_find r (regPut M x) hp.2 key, findW_cons]
    by_cases hk : x.k = key
    · subst hk
      rw [if_pos rfl, findW_past (fun z hz => hp.1 z hz)]
      show regPut M x x.k = _
      unfold regPut later2
      rw [if_pos rfl]
    · rw [if_neg hk]
      unfold regPut
      rw [if_neg (Ne.symm hk)]

theorem find_join {a b : List Wr} (ha : Rise a) (hb : Rise b) (key : Int) : findW (joinW a b) key = later2 (findW a key) (findW b key) := by
  rw [(join_spec b a ha).2.2 key, fold_find b _ hb]

theorem later_some (x y : Wr) : later2 (some x) (some y) = some (if cmpW x y < 0 then y else x) := rfl

theorem cmpW_turn (x y : Wr) : cmpW y x = -cmpW x y := wcmp_neg ..

theorem later_comm (a b : Option Wr) : later2 a b = later2 b a := by
  cases a with
  | none => cases b <;> rfl
  | some x =>
    cases b with
    | none => rfl
    | some y =>
      rw [later_some, later_some, cmpW_turn x y]
      by_cases h1 : cmpW x y < 0
      · rw [if_pos h1, if_neg (by omega)]
      · rw [if_neg h1]
        by_cases h2 : cmpW x y = 0
        · rw [if_neg (by omega), cmpW_zero h2]
        · rw [if_pos (by omega)]

theorem later_self (a : Option Wr) : later2 a a = a := by
  cases a with
  | none => rfl
  | some x => rw [later_some, if_neg (by rw [cmpW_self]; omega)]

theorem cmpW_three (x y z : Wr) : T3 (cmpW x y) (cmpW y z) (cmpW x z) := wcmp_three ..

theorem later_assoc (a b c : Option Wr) : later2 (later2 a b) c = later2 a (later2 b c) := by
  cases c with
  | none => rfl
  | some z =>
    cases b with
    | none => rfl
    | some y =>
      cases a with
      | none =>
        show later2 (some y) (some z) = later2 none (later2 (some y) (some z))
        rw [later_some]
        rfl
      | some x =>
        rw [later_some x y, later_some y z]
        have t1 := cmpW_three x y z
        have t2 := cmpW_three z y x
        rw [cmpW_turn y z, cmpW_turn x y, cmpW_turn x z] at t2
        by_cases h1 : cmpW x y < 0
        · rw [if_pos h1, later_some]
          by_cases h2 : cmpW y z < 0
          · rw [if_pos h2, later_some, if_pos (t1.n h1 h2)]
          · rw [if_neg h2, later_some, if_pos h1]
        · rw [if_neg h1, later_some]
          by_cases h2 : cmpW y z < 0
          · rw [if_pos h2, later_some]
          · rw [if_neg h2, later_some, if_neg h1]
            by_cases h3 : cmpW x z < 0
            · exfalso
              rcases t2.on (by omega) (by omega) with h4 | h4 <;> omega
            · rw [if_neg h3]

structure OkM (ws : List Wr) : Prop where
  rise : Rise ws
  keys : ∀ x ∈ ws, 0 ≤ x.k ∧ x.k ≤ 5

theorem OkM.join {a b : List Wr} (ha : OkM a) (hb : OkM b) : OkM (joinW a b) where
  rise := (join_spec b a ha.rise).1
  keys := fun x hx => ((join_spec b a ha.rise).2.1 x hx).elim (ha.keys x) (hb.keys x)

theorem OkM.ext {a b : List Wr} (ha : OkM a) (hb : OkM b) (h : ∀ key, findW a key = findW b key) : a = b := by
  rw [← told_find ha.rise ha.keys, ← told_find hb.rise hb.keys, funext h]

theorem join_comm {a b : List Wr} (ha : OkM a) (hb : OkM b) : joinW a b = joinW b a :=
  (ha.join hb).ext (hb.join ha) fun key => by rw [find_join ha.rise hb.rise, find_join hb.rise ha.rise, later_comm]

theorem join_self {a : List Wr} (ha : OkM a) : joinW a a = a :=
  (ha.join ha).ext ha fun key => by rw [find_join ha.rise ha.rise, later_self]

theorem join_assoc {a b c : List Wr} (ha : OkM a) (hb : OkM b) (hc : OkM c) : joinW (joinW a b) c = joinW a (joinW b c) :=
  ((ha.join hb).join hc).ext (ha.join (hb.join hc)) fun key => by
    rw [find_join (ha.join hb).rise hc.rise, find_join ha.rise hb.rise, find_join ha.rise (hb.join hc).rise, find_join hb.rise hc.rise, later_assoc]

theorem okM {ws : List Wr} (h : mapOkB ws = true) : OkM ws := ⟨((mapOk_iff ws).1 h).2, mapOk_keys h⟩

theorem joinB_yes {us vs : List Wr} (h : mapOkB us = true) (h' : mapOkB vs = true) : joinB us vs = joinW us vs := by
  unfold joinB
  exact if_pos ⟨h, h'⟩

theorem within_iff (us vs : List Wr) : withinB us vs = true ↔ mapOkB us = true ∧ mapOkB vs = true ∧ joinW us vs = vs := by
  unfold withinB
  rw [Bool.and_eq_true, Bool.and_eq_true, same_iff]
  constructor
  · rintro ⟨h1, h2, h3⟩
    rw [joinB_yes h1 h2] at h3
    exact ⟨h1, h2, h3⟩
  · rintro ⟨h1, h2, h3⟩
    refine ⟨h1, h2, ?_⟩
    rw [joinB_yes h1 h2]
    exact h3

theorem within_self (us : List Wr) : withinB us us = mapOkB us := by
  cases h : mapOkB us
  · unfold withinB
    rw [h, Bool.false_and]
  · exact (within_iff us us).2 ⟨h, h, join_self (okM h)⟩

theorem within_anti {us vs : List Wr} (h : withinB us vs = true) (h' : withinB vs us = true) : us = vs := by
  obtain ⟨h1, h2, h3⟩ := (within_iff us vs).1 h
  obtain ⟨_, _, h4⟩ := (within_iff vs us).1 h'
  rw [← h3, join_comm (okM h1) (okM h2), h4]

theorem within_join {us vs ws : List Wr} (h : withinB us vs = true) (hw : mapOkB ws = true) : withinB us (joinB vs ws) = true := by
  obtain ⟨h1, h2, h3⟩ := (within_iff us vs).1 h
  refine (within_iff us _).2 ⟨h1, joinB_mapOk _ _, ?_⟩
  rw [joinB_yes h2 hw, ← join_assoc (okM h1) (okM h2) (okM hw), h3]

/-- What FnWithin asks. -/
theorem within_law (us vs ws : List Wr) : (withinB us vs = true → withinB vs us = true → sameB us vs = true) ∧ (withinB us vs = true → mapOkB ws = true → withinB us (joinB vs ws) = true) :=
  ⟨fun h h' => (same_iff _ _).2 (within_anti h h'), fun h h' => within_join h h'⟩

end Go.Proofs.Ytidpcjcnhklmpab

/- The contract of DrawTagCmp. -/
namespace Go.Proofs.Ytidpcjcnhklmpab
open Go.ChangeShapes Go.WideShapes Go.ChangeAt Go.RowKit Go.Joins
attribute [local go_sem ↓] Go.wp_at_zero Go.wp_at_succ

theorem Hole.belowOf {B c : Nat} {w0 w w' : World} (h : Hole B w w') (h0 : Below c w0 w) (hB : c ≤ B) (hc : c ≤ w.heap.size) : Below c w0 w' := Hole.below h0 h hB hc

theorem open_as (a : Option Addr) (len cap B : Nat) (w : World) (hB : w.heap.size = B) (h : Bytes w a len) (hl : len ≤ 1048576) :
    Calls Try.prog 29 #[.slice a len cap] w fun e w' => e = .returned (.pointer (some ⟨B, 0, none⟩)) ∧ Cur w' B a len cap 0 ∧ Below w.heap.size w w' := by
  subst hB
  exact open_any a len cap w h hl

theorem two_tags (w : World) (t : Nat) : TagBox ((w.alloc (.cells #[.int .i64 0, .int .i64 0, .int .i64 0] t)).alloc (.cells #[.int .i64 0, .int .i64 0, .int .i64 0] t)) w.heap.size 0 0 0 ∧ TagBox ((w.alloc (.cells #[.int .i64 0, .int .i64 0, .int .i64 0] t)).alloc (.cells #[.int .i64 0, .int .i64 0, .int .i64 0] t)) (w.heap.size + 1) 0 0 0 := by
  have h := TagBox.start (w.alloc (.cells #[.int .i64 0, .int .i64 0, .int .i64 0] t)) 0 0 0 t
  have e : (w.alloc (.cells #[.int .i64 0, .int .i64 0, .int .i64 0] t)).heap.size = w.heap.size + 1 := by simp
  rw [e] at h
  exact ⟨(TagBox.start w 0 0 0 t).hole (Hole.of_below (B := w.heap.size + 2) ((Below.refl _ _).alloc (Nat.le_refl _) _)) (by omega), h⟩

set_option maxRecDepth 100000 in
set_option maxHeartbeats 4000000 in
theorem drawTagCmp_any (a : Option Addr) (len cap : Nat) (w : World) (h : Bytes w a len) (hl : len ≤ 1048576) :
    Calls Try.prog 8 #[.slice a len cap] w fun e w' => ∃ c s q c' s' q' : Int, e = .returned (.tuple #[tagV c s q, tagV c' s' q']) ∧ Below w.heap.size w w' := by
  have HY : Hid (Bytes w a len) := h
  clear h
  go_enter Try.func8, Try.ntmps8
  go_wp2_with fail
  have HA : Hid (Below w.heap.size w ((w.alloc (.cells #[.int .i64 0, .int .i64 0, .int .i64 0] 25)).alloc (.cells #[.int .i64 0, .int .i64 0, .int .i64 0] 25))) := ((Below.refl _ _).alloc (Nat.le_refl _) _).alloc (by simp) _
  have HXY : Hid (TagBox ((w.alloc (.cells #[.int .i64 0, .int .i64 0, .int .i64 0] 25)).alloc (.cells #[.int .i64 0, .int .i64 0, .int .i64 0] 25)) w.heap.size 0 0 0 ∧ TagBox ((w.alloc (.cells #[.int .i64 0, .int .i64 0, .int .i64 0] 25)).alloc (.cells #[.int .i64 0, .int .i64 0, .int .i64 0] 25)) (w.heap.size + 1) 0 0 0) := two_tags w _
  refine (open_as _ _ _ (w.heap.size + 1 + 1) _ (by simp) (HY.out.below HA.out) hl).mono ?_
  rintro e w1 ⟨rfl, hc1, hb1⟩
  have HC1 : Hid (Cur w1 (w.heap.size + 1 + 1) a len cap 0) := hc1
  have HX1 : Hid (TagBox w1 w.heap.size 0 0 0) := HXY.out.1.hole (Hole.of_below (B := w.heap.size + 1 + 1) hb1) (by omega)
  have HY1 : Hid (TagBox w1 (w.heap.size + 1) 0 0 0) := HXY.out.2.hole (Hole.of_below (B := w.heap.size + 1 + 1) hb1) (by omega)
  have HB1 : Hid (Below w.heap.size w w1) := below_step HA.out HA.out.size hb1
  clear hc1 hb1 HXY HA
  go_wp2_with fail
  refine (tag_any _ a len cap 0 _ (by omega) HC1.out).mono ?_
  rintro e w2 ⟨c, s, q, rfl, hc2, hh2⟩
  have HC2 : Hid (Cur w2 (w.heap.size + 1 + 1) a len cap 9) := hc2
  have HX2 : Hid (TagBox w2 w.heap.size 0 0 0) := HX1.out.hole hh2 (by omega)
  have HY2 : Hid (TagBox w2 (w.heap.size + 1) 0 0 0) := HY1.out.hole hh2 (by omega)
  have HB2 : Hid (Below w.heap.size w w2) := hh2.belowOf HB1.out (by omega) HB1.out.size
  clear hc2 hh2 HC1 HX1 HY1 HB1
  have hz2 := HY2.out.lt
  have hzc := HC2.out.lt
  go_wp2_with fail
  have HA : Hid (Below w2.heap.size w2 (w2.alloc (.cells #[.int .i64 c, .int .i64 s, .int .i64 q] 25))) := (Below.refl _ _).alloc (Nat.le_refl _) _
  have HZ : Hid (TagBox (w2.alloc (.cells #[.int .i64 c, .int .i64 s, .int .i64 q] 25)) w2.heap.size c s q) := TagBox.start _ _ _ _ _
  refine (pick_any _ a len cap 9 5 _ (by omega) (by omega) (by omega) (HC2.out.below HA.out)).mono ?_
  rintro e w3 ⟨r3, rfl, q30, q31, hc3, hh3⟩
  have HC3 : Hid (Cur w3 (w.heap.size + 1 + 1) a len cap 10) := hc3.more (by omega)
  have HX3 : Hid (TagBox w3 w.heap.size 0 0 0) := (HX2.out.hole (Hole.of_below (B := w.heap.size + 1 + 1) HA.out) (by omega)).hole hh3 (by omega)
  have HY3 : Hid (TagBox w3 (w.heap.size + 1) 0 0 0) := (HY2.out.hole (Hole.of_below (B := w.heap.size + 1 + 1) HA.out) (by omega)).hole hh3 (by omega)
  have HZ3 : Hid (TagBox w3 w2.heap.size c s q) := HZ.out.hole hh3 (by omega)
  have HB3 : Hid (Below w.heap.size w w3) := hh3.belowOf (below_step HB2.out HB2.out.size HA.out) (by omega) (by have := HA.out.size; omega)
  clear hc3 hh3 HC2 HX2 HY2 HB2 HA HZ
  have x0 := HX3.out.c0
  have x1 := HX3.out.c1
  have x2 := HX3.out.c2
  have xf := HX3.out.fz
  have y0 := HY3.out.c0
  have y1 := HY3.out.c1
  have y2 := HY3.out.c2
  have yf := HY3.out.fz
  have z0 := HZ3.out.c0
  have z1 := HZ3.out.c1
  have z2 := HZ3.out.c2
  by_cases k0 : r3 = 0
  · subst k0
    go_wp2_with fail
    go_region
    go_wp2
    exact bodyPost_ret (v := .tuple #[tagV c s q, tagV c s q]) (by simp [results, Try.results8, go_sem, x0, x1, x2, y0, y1, y2]) rfl ⟨c, s, q, c, s, q, rfl, (((((((HB3.out.setCell (by simp) _).setCell (by simp) _).setCell (by simp) _).setCell (by simp) _).setCell (by simp) _).setCell (by simp) _).drew)⟩
  · have k0' : (r3 == 0) = false := by simp [k0]
    clear k0
    have HX3' : Hid (TagBox w3.drew w.heap.size 0 0 0) := HX3.out.hole (Hole.refl (w.heap.size + 1 + 1) w3).drew (by omega)
    have HY3' : Hid (TagBox w3.drew (w.heap.size + 1) 0 0 0) := HY3.out.hole (Hole.refl (w.heap.size + 1 + 1) w3).drew (by omega)
    have HZ3' : Hid (TagBox w3.drew w2.heap.size c s q) := HZ3.out.hole (Hole.refl (w.heap.size + 1 + 1) w3).drew (by omega)
    go_wp2_with fail
    go_region_with (go_at_call 30; go_must (refine (tag_any _ a len cap 10 _ (by omega) (HC3.out.below (Below.refl w3.heap.size w3).drew)).mono ?_); rintro e w4 ⟨c', s', q', rfl, hc4, hh4⟩; have HX4 := HX3'.out.hole hh4 (by omega); have HY4 := HY3'.out.hole hh4 (by omega); have HZ4 := HZ3'.out.hole hh4 (by omega); have HB4 : Hid (Below w.heap.size w w4) := hh4.belowOf HB3.out.drew (by omega) HB3.out.size; have u0 := HX4.c0; have u1 := HX4.c1; have u2 := HX4.c2; have uf := HX4.fz; have v0 := HY4.c0; have v1 := HY4.c1; have v2 := HY4.c2; have vf := HY4.fz; have t0 := HZ4.c0; have t1 := HZ4.c1; have t2 := HZ4.c2; clear HX4 HY4 HZ4 hc4 hh4)
    all_goals
      go_wp2
      exact bodyPost_ret (v := .tuple #[tagV c s q, tagV c' s' q']) (by simp [results, Try.results8, go_sem, u0, u1, u2, v0, v1, v2]) rfl ⟨c, s, q, c', s', q', rfl, ((((((HB4.out.setCell (by simp) _).setCell (by simp) _).setCell (by simp) _).setCell (by simp) _).setCell (by simp) _).setCell (by simp) _)⟩

end Go.Proofs.Ytidpcjcnhklmpab

/- The contract of DrawWriteCmp. -/
namespace Go.Proofs.Ytidpcjcnhklmpab
open Go.ChangeShapes Go.WideShapes Go.ChangeAt Go.RowKit Go.Joins
attribute [local go_sem ↓] Go.wp_at_zero Go.wp_at_succ

theorem two_writes (w : World) (t : Nat) : WBox ((w.alloc (.cells #[.int .i64 0, .int .i64 0, .int .i64 0, .int .i64 0, .int .i64 0, .bool false, .slice none 0 0] t)).alloc (.cells #[.int .i64 0, .int .i64 0, .int .i64 0, .int .i64 0, .int .i64 0, .bool false, .slice none 0 0] t)) w.heap.size 0 0 0 0 0 false none 0 0 ∧ WBox ((w.alloc (.cells #[.int .i64 0, .int .i64 0, .int .i64 0, .int .i64 0, .int .i64 0, .bool false, .slice none 0 0] t)).alloc (.cells #[.int .i64 0, .int .i64 0, .int .i64 0, .int .i64 0, .int .i64 0, .bool false, .slice none 0 0] t)) (w.heap.size + 1) 0 0 0 0 0 false none 0 0 := by
  have h := WBox.start (w.alloc (.cells #[.int .i64 0, .int .i64 0, .int .i64 0, .int .i64 0, .int .i64 0, .bool false, .slice none 0 0] t)) 0 0 0 0 0 false none 0 0 t
  have e : (w.alloc (.cells #[.int .i64 0, .int .i64 0, .int .i64 0, .int .i64 0, .int .i64 0, .bool false, .slice none 0 0] t)).heap.size = w.heap.size + 1 := by simp
  rw [e] at h
  exact ⟨(WBox.start w 0 0 0 0 0 false none 0 0 t).hole (Hole.of_below (B := w.heap.size + 2) ((Below.refl _ _).alloc (Nat.le_refl _) _)) (by omega), h⟩

/-- What is carried through the drawing of two writes. -/
structure DW (w W : World) (B bA bB g g' : Nat) (a : Option Addr) (len cap : Nat) (N : Int) (k c s q v : Int) (de : Bool) (ds : List Dp) (cp : Nat) (k' c' s' q' v' : Int) (de' : Bool) (ds' : List Dp) (cp' : Nat) : Prop where
  cur : Cur W B a len cap N
  below : Below w.heap.size w W
  r1 : WBox W w.heap.size 0 0 0 0 0 false none 0 0
  r2 : WBox W (w.heap.size + 1) 0 0 0 0 0 false none 0 0
  ba : WBox W bA k c s q v de (some ⟨g, 0, none⟩) ds.length cp
  bb : WBox W bB k' c' s' q' v' de' (some ⟨g', 0, none⟩) ds'.length cp'
  d1 : HoldsDeps W g 0 ds
  d2 : HoldsDeps W g' 0 ds'
  l1 : g < W.heap.size
  l2 : g' < W.heap.size
  eB : B = w.heap.size + 1 + 1
  g1 : B < g
  g2 : B < g'
  gA : g < bA
  gB : bA < bB
  gn : g' ≠ bB
  n1 : ds.length ≤ 7
  n2 : ds'.length ≤ 7

theorem DW.step {w W W' : World} {B bA bB g g' : Nat} {a : Option Addr} {len cap : Nat} {N M : Int} {k c s q v : Int} {de : Bool} {ds : List Dp} {cp : Nat} {k' c' s' q' v' : Int} {de' : Bool} {ds' : List Dp} {cp' : Nat} (h : DW w W B bA bB g g' a len cap N k c s q v de ds cp k' c' s' q' v' de' ds' cp') (hc : Cur W' B a len cap M) (hh : Hole B W W') : DW w W' B bA bB g g' a len cap M k c s q v de ds cp k' c' s' q' v' de' ds' cp' :=
  ⟨hc, hh.belowOf h.below (by have := h.eB; omega) h.below.size, h.r1.hole hh (by have := h.eB; omega), h.r2.hole hh (by have := h.eB; omega), h.ba.hole hh (by have := h.g1; have := h.gA; omega), h.bb.hole hh (by have := h.g1; have := h.gA; have := h.gB; omega), h.d1.hole hh h.l1 (by have := h.g1; omega), h.d2.hole hh h.l2 (by have := h.g2; omega), Nat.lt_of_lt_of_le h.l1 hh.size, Nat.lt_of_lt_of_le h.l2 hh.size, h.eB, h.g1, h.g2, h.gA, h.gB, h.gn, h.n1, h.n2⟩

theorem DW.set {w W : World} {B bA bB g g' : Nat} {a : Option Addr} {len cap : Nat} {N : Int} {k c s q v : Int} {de : Bool} {ds : List Dp} {cp : Nat} {k' c' s' q' v' x1 x2 x3 x4 x5 : Int} {de' x6 : Bool} {ds' : List Dp} {cp' : Nat} (h : DW w W B bA bB g g' a len cap N k c s q v de ds cp k' c' s' q' v' de' ds' cp') (o : Nat) (y : Value) (hb : WBox (W.setCell ⟨bB, o, none⟩ y) bB x1 x2 x3 x4 x5 x6 (some ⟨g', 0, none⟩) ds'.length cp') : DW w (W.setCell ⟨bB, o, none⟩ y) B bA bB g g' a len cap N k c s q v de ds cp x1 x2 x3 x4 x5 x6 ds' cp' := by
  have := h.eB
  have := h.g1
  have := h.gA
  have := h.gB
  exact ⟨h.cur.setOther (by omega) o y, h.below.setCell (by show w.heap.size ≤ bB; omega) y, h.r1.other (by omega) o y, h.r2.other (by omega) o y, h.ba.other (by omega) o y, hb, h.d1.set (by show bB ≠ g; omega) y, h.d2.set (Ne.symm h.gn) y, by simpa [World.setCell] using h.l1, by simpa [World.setCell] using h.l2, h.eB, h.g1, h.g2, h.gA, h.gB, h.gn, h.n1, h.n2⟩

abbrev put7 (W : World) (R : Nat) (v0 v1 v2 v3 v4 v5 v6 : Value) : World :=
  ((((((W.setCell ⟨R, 0, none⟩ v0).setCell ⟨R, 1, none⟩ v1).setCell ⟨R, 2, none⟩ v2).setCell ⟨R, 3, none⟩ v3).setCell ⟨R, 4, none⟩ v4).setCell ⟨R, 5, none⟩ v5).setCell ⟨R, 6, none⟩ v6

theorem holds_put7 {W : World} {R g : Nat} {ds : List Dp} (h : HoldsDeps W g 0 ds) (hn : R ≠ g) (v0 v1 v2 v3 v4 v5 v6 : Value) : HoldsDeps (put7 W R v0 v1 v2 v3 v4 v5 v6) g 0 ds := by
  have h0 := h.set (a := ⟨R, 0, none⟩) hn v0
  have h1 := h0.set (a := ⟨R, 1, none⟩) hn v1
  have h2 := h1.set (a := ⟨R, 2, none⟩) hn v2
  have h3 := h2.set (a := ⟨R, 3, none⟩) hn v3
  have h4 := h3.set (a := ⟨R, 4, none⟩) hn v4
  have h5 := h4.set (a := ⟨R, 5, none⟩) hn v5
  exact h5.set (a := ⟨R, 6, none⟩) hn v6

theorem below_put7 {w W : World} {R : Nat} (h : Below w.heap.size w W) (hR : w.heap.size ≤ R) (v0 v1 v2 v3 v4 v5 v6 : Value) : Below w.heap.size w (put7 W R v0 v1 v2 v3 v4 v5 v6) := by
  have h0 := h.setCell (p := ⟨R, 0, none⟩) hR v0
  have h1 := h0.setCell (p := ⟨R, 1, none⟩) hR v1
  have h2 := h1.setCell (p := ⟨R, 2, none⟩) hR v2
  have h3 := h2.setCell (p := ⟨R, 3, none⟩) hR v3
  have h4 := h3.setCell (p := ⟨R, 4, none⟩) hR v4
  have h5 := h4.setCell (p := ⟨R, 5, none⟩) hR v5
  exact h5.setCell (p := ⟨R, 6, none⟩) hR v6

theorem holds_drew {W : World} {g : Nat} {ds : List Dp} (h : HoldsDeps W g 0 ds) : HoldsDeps W.drew g 0 ds := h

theorem draw_end {w W : World} {B bA bB g g' : Nat} {a : Option Addr} {len cap : Nat} {N : Int} {k c s q v : Int} {de : Bool} {ds : List Dp} {cp : Nat} {k' c' s' q' v' : Int} {de' : Bool} {ds' : List Dp} {cp' : Nat} (h : DW w W B bA bB g g' a len cap N k c s q v de ds cp k' c' s' q' v' de' ds' cp') (v0 v1 v2 v3 v4 v5 v6 u0 u1 u2 u3 u4 u5 u6 : Value) :
    g < (put7 (put7 W w.heap.size v0 v1 v2 v3 v4 v5 v6) (w.heap.size + 1) u0 u1 u2 u3 u4 u5 u6).drew.heap.size ∧ g' < (put7 (put7 W w.heap.size v0 v1 v2 v3 v4 v5 v6) (w.heap.size + 1) u0 u1 u2 u3 u4 u5 u6).drew.heap.size ∧ HoldsDeps (put7 (put7 W w.heap.size v0 v1 v2 v3 v4 v5 v6) (w.heap.size + 1) u0 u1 u2 u3 u4 u5 u6).drew g 0 ds ∧ HoldsDeps (put7 (put7 W w.heap.size v0 v1 v2 v3 v4 v5 v6) (w.heap.size + 1) u0 u1 u2 u3 u4 u5 u6).drew g' 0 ds' ∧ Below w.heap.size w (put7 (put7 W w.heap.size v0 v1 v2 v3 v4 v5 v6) (w.heap.size + 1) u0 u1 u2 u3 u4 u5 u6).drew := by
  have := h.eB
  have := h.g1
  have := h.g2
  have a1 : w.heap.size ≠ g := by omega
  have a2 : w.heap.size + 1 ≠ g := by omega
  have b1 : w.heap.size ≠ g' := by omega
  have b2 : w.heap.size + 1 ≠ g' := by omega
  exact ⟨by simpa [World.setCell] using h.l1, by simpa [World.setCell] using h.l2, holds_drew (holds_put7 (holds_put7 h.d1 a1 _ _ _ _ _ _ _) a2 _ _ _ _ _ _ _), holds_drew (holds_put7 (holds_put7 h.d2 b1 _ _ _ _ _ _ _) b2 _ _ _ _ _ _ _), (below_put7 (below_put7 h.below (Nat.le_refl _) _ _ _ _ _ _ _) (by omega) _ _ _ _ _ _ _).drew⟩

theorem cur_put7 {W : World} {B R : Nat} {a : Option Addr} {len cap : Nat} {N : Int} (h : Cur W B a len cap N) (hR : B < R) (v0 v1 v2 v3 v4 v5 v6 : Value) : Cur (put7 W R v0 v1 v2 v3 v4 v5 v6) B a len cap N := by
  have h0 := h.setOther hR 0 v0
  have h1 := h0.setOther hR 1 v1
  have h2 := h1.setOther hR 2 v2
  have h3 := h2.setOther hR 3 v3
  have h4 := h3.setOther hR 4 v4
  have h5 := h4.setOther hR 5 v5
  exact h5.setOther hR 6 v6

theorem box_put7 {W : World} {R b : Nat} {k c s q v : Int} {de : Bool} {x : Option Addr} {len cap : Nat} (h : WBox W b k c s q v de x len cap) (hn : R ≠ b) (v0 v1 v2 v3 v4 v5 v6 : Value) : WBox (put7 W R v0 v1 v2 v3 v4 v5 v6) b k c s q v de x len cap := by
  have h0 := h.other hn 0 v0
  have h1 := h0.other hn 1 v1
  have h2 := h1.other hn 2 v2
  have h3 := h2.other hn 3 v3
  have h4 := h3.other hn 4 v4
  have h5 := h4.other hn 5 v5
  exact h5.other hn 6 v6

theorem box_own7 {W : World} {b : Nat} {k0 c0 s0 q0 v0 : Int} {de0 : Bool} {x0 : Option Addr} {len0 cap0 : Nat} (h : WBox W b k0 c0 s0 q0 v0 de0 x0 len0 cap0) (k c s q v : Int) (de : Bool) (x : Option Addr) (len cap : Nat) : WBox (put7 W b (.int .i64 k) (.int .i64 c) (.int .i64 s) (.int .i64 q) (.int .i64 v) (.bool de) (.slice x len cap)) b k c s q v de x len cap := by
  have h0 := h.set0 k
  have h1 := h0.set1 c
  have h2 : WBox ((((W.setCell ⟨b, 0, none⟩ (.int .i64 k)).setCell ⟨b, 1, none⟩ (.int .i64 c)).setCell ⟨b, 2, none⟩ (.int .i64 s))) b k c s q0 v0 de0 x0 len0 cap0 :=
    ⟨by simpa [World.setCell] using h1.lt, cell_set_off h1.c0 (by omega), cell_set_off h1.c1 (by omega), cell_set_same h1.c2, cell_set_off h1.c3 (by omega), cell_set_off h1.c4 (by omega), cell_set_off h1.c5 (by omega), cell_set_off h1.c6 (by omega), fun o => by rw [World.frozen?_setCell]; exact h1.fz o⟩
  have h3 : WBox (((((W.setCell ⟨b, 0, none⟩ (.int .i64 k)).setCell ⟨b, 1, none⟩ (.int .i64 c)).setCell ⟨b, 2, none⟩ (.int .i64 s))).setCell ⟨b, 3, none⟩ (.int .i64 q)) b k c s q v0 de0 x0 len0 cap0 :=
    ⟨by simpa [World.setCell] using h2.lt, cell_set_off h2.c0 (by omega), cell_set_off h2.c1 (by omega), cell_set_off h2.c2 (by omega), cell_set_same h2.c3, cell_set_off h2.c4 (by omega), cell_set_off h2.c5 (by omega), cell_set_off h2.c6 (by omega), fun o => by rw [World.frozen?_setCell]; exact h2.fz o⟩
  have h4 := h3.set4 v
  have h5 := h4.set5 de
  exact h5.set6 x len cap

set_option maxRecDepth 100000 in
set_option maxHeartbeats 8000000 in
theorem drawWriteCmp_any (a : Option Addr) (len cap : Nat) (w : World) (h : Bytes w a len) (hl : len ≤ 1048576) :
    Calls Try.prog 11 #[.slice a len cap] w fun e w' => ∃ (k c s q v : Int) (de : Bool) (g cp : Nat) (ds : List Dp) (k' c' s' q' v' : Int) (de' : Bool) (g' cp' : Nat) (ds' : List Dp), e = .returned (.tuple #[wrV k c s q v de (some ⟨g, 0, none⟩) ds.length cp, wrV k' c' s' q' v' de' (some ⟨g', 0, none⟩) ds'.length cp']) ∧ ds.length ≤ 7 ∧ ds'.length ≤ 7 ∧ g < w'.heap.size ∧ g' < w'.heap.size ∧ HoldsDeps w' g 0 ds ∧ HoldsDeps w' g' 0 ds' ∧ Below w.heap.size w w' := by
  have HY : Hid (Bytes w a len) := h
  clear h
  go_enter Try.func11, Try.ntmps11
  go_wp2_with fail
  have HA : Hid (Below w.heap.size w ((w.alloc (.cells #[.int .i64 0, .int .i64 0, .int .i64 0, .int .i64 0, .int .i64 0, .bool false, .slice none 0 0] 31)).alloc (.cells #[.int .i64 0, .int .i64 0, .int .i64 0, .int .i64 0, .int .i64 0, .bool false, .slice none 0 0] 31))) := ((Below.refl _ _).alloc (Nat.le_refl _) _).alloc (by simp) _
  have HXY : Hid (WBox ((w.alloc (.cells #[.int .i64 0, .int .i64 0, .int .i64 0, .int .i64 0, .int .i64 0, .bool false, .slice none 0 0] 31)).alloc (.cells #[.int .i64 0, .int .i64 0, .int .i64 0, .int .i64 0, .int .i64 0, .bool false, .slice none 0 0] 31)) w.heap.size 0 0 0 0 0 false none 0 0 ∧ WBox ((w.alloc (.cells #[.int .i64 0, .int .i64 0, .int .i64 0, .int .i64 0, .int .i64 0, .bool false, .slice none 0 0] 31)).alloc (.cells #[.int .i64 0, .int .i64 0, .int .i64 0, .int .i64 0, .int .i64 0, .bool false, .slice none 0 0] 31)) (w.heap.size + 1) 0 0 0 0 0 false none 0 0) := two_writes w _
  refine (open_as _ _ _ (w.heap.size + 1 + 1) _ (by simp) (HY.out.below HA.out) hl).mono ?_
  rintro e w1 ⟨rfl, hc1, hb1⟩
  have HC1 : Hid (Cur w1 (w.heap.size + 1 + 1) a len cap 0) := hc1
  have HX1 : Hid (WBox w1 w.heap.size 0 0 0 0 0 false none 0 0) := HXY.out.1.hole (Hole.of_below (B := w.heap.size + 1 + 1) hb1) (by omega)
  have HY1 : Hid (WBox w1 (w.heap.size + 1) 0 0 0 0 0 false none 0 0) := HXY.out.2.hole (Hole.of_below (B := w.heap.size + 1 + 1) hb1) (by omega)
  have HB1 : Hid (Below w.heap.size w w1) := below_step HA.out HA.out.size hb1
  have hz1 := HC1.out.lt
  clear hc1 hb1 HXY HA
  go_wp2_with fail
  refine (write_any _ a len cap 0 _ (by omega) HC1.out).mono ?_
  rintro e w2 ⟨k, c, s, q, v, de, g, cp, ds, rfl, hds, hg1, hg2, hD, hc2, hh2⟩
  have HC2 : Hid (Cur w2 (w.heap.size + 1 + 1) a len cap 80) := hc2
  have HX2 : Hid (WBox w2 w.heap.size 0 0 0 0 0 false none 0 0) := HX1.out.hole hh2 (by omega)
  have HY2 : Hid (WBox w2 (w.heap.size + 1) 0 0 0 0 0 false none 0 0) := HY1.out.hole hh2 (by omega)
  have HB2 : Hid (Below w.heap.size w w2) := hh2.belowOf HB1.out (by omega) HB1.out.size
  have HD2 : Hid (HoldsDeps w2 g 0 ds) := hD
  clear hc2 hh2 HC1 HX1 HY1 HB1 hD
  have hz2 := HY2.out.lt
  have hzc := HC2.out.lt
  go_wp2_with fail
  have H2 : Hid (DW w ((w2.alloc (.cells #[.int .i64 k, .int .i64 c, .int .i64 s, .int .i64 q, .int .i64 v, .bool de, .slice (some ⟨g, 0, none⟩) ds.length cp] 31)).alloc (.cells #[.int .i64 k, .int .i64 c, .int .i64 s, .int .i64 q, .int .i64 v, .bool de, .slice (some ⟨g, 0, none⟩) ds.length cp] 31)) (w.heap.size + 1 + 1) w2.heap.size (w2.heap.size + 1) g g a len cap 80 k c s q v de ds cp k c s q v de ds cp) := by
    have hA : Below w2.heap.size w2 ((w2.alloc (.cells #[.int .i64 k, .int .i64 c, .int .i64 s, .int .i64 q, .int .i64 v, .bool de, .slice (some ⟨g, 0, none⟩) ds.length cp] 31)).alloc (.cells #[.int .i64 k, .int .i64 c, .int .i64 s, .int .i64 q, .int .i64 v, .bool de, .slice (some ⟨g, 0, none⟩) ds.length cp] 31)) := ((Below.refl _ _).alloc (Nat.le_refl _) _).alloc (by simp) _
    have h1 := WBox.start w2 k c s q v de (some ⟨g, 0, none⟩) ds.length cp 31
    have h2 := WBox.start (w2.alloc (.cells #[.int .i64 k, .int .i64 c, .int .i64 s, .int .i64 q, .int .i64 v, .bool de, .slice (some ⟨g, 0, none⟩) ds.length cp] 31)) k c s q v de (some ⟨g, 0, none⟩) ds.length cp 31
    have e : (w2.alloc (.cells #[.int .i64 k, .int .i64 c, .int .i64 s, .int .i64 q, .int .i64 v, .bool de, .slice (some ⟨g, 0, none⟩) ds.length cp] 31)).heap.size = w2.heap.size + 1 := by simp
    rw [e] at h2
    exact ⟨HC2.out.below hA, below_step HB2.out HB2.out.size hA, HX2.out.hole (Hole.of_below (B := w.heap.size + 1 + 1) hA) (by omega), HY2.out.hole (Hole.of_below (B := w.heap.size + 1 + 1) hA) (by omega), h1.hole (Hole.of_below (B := w.heap.size + 1 + 1) ((Below.refl _ _).alloc (Nat.le_refl _) _)) (by omega), h2, HD2.out.below hA hg2, HD2.out.below hA hg2, Nat.lt_of_lt_of_le hg2 hA.size, Nat.lt_of_lt_of_le hg2 hA.size, rfl, by omega, by omega, by omega, by omega, by omega, hds, hds⟩
  refine (pick_any _ a len cap 80 5 _ (by omega) (by omega) (by omega) H2.out.cur).mono ?_
  rintro e w3 ⟨r3, rfl, q30, q31, hc3, hh3⟩
  have H3 : Hid (DW w w3 (w.heap.size + 1 + 1) w2.heap.size (w2.heap.size + 1) g g a len cap 81 k c s q v de ds cp k c s q v de ds cp) := (H2.out.step hc3 hh3 : _)
  clear hc3 hh3 H2 HC2 HX2 HY2 HB2 HD2
  have x0 := H3.out.r1.c0
  have x1 := H3.out.r1.c1
  have x2 := H3.out.r1.c2
  have x3 := H3.out.r1.c3
  have x4 := H3.out.r1.c4
  have x5 := H3.out.r1.c5
  have x6 := H3.out.r1.c6
  have y0 := H3.out.r2.c0
  have y1 := H3.out.r2.c1
  have y2 := H3.out.r2.c2
  have y3 := H3.out.r2.c3
  have y4 := H3.out.r2.c4
  have y5 := H3.out.r2.c5
  have y6 := H3.out.r2.c6
  have z0 := H3.out.ba.c0
  have z1 := H3.out.ba.c1
  have z2 := H3.out.ba.c2
  have z3 := H3.out.ba.c3
  have z4 := H3.out.ba.c4
  have z5 := H3.out.ba.c5
  have z6 := H3.out.ba.c6
  have t0 := H3.out.bb.c0
  have t1 := H3.out.bb.c1
  have t2 := H3.out.bb.c2
  have t3 := H3.out.bb.c3
  have t4 := H3.out.bb.c4
  have t5 := H3.out.bb.c5
  have t6 := H3.out.bb.c6
  have xf := H3.out.r1.fz
  have yf := H3.out.r2.fz
  have tf := H3.out.bb.fz
  have b0 : w.heap.size ≠ w.heap.size + 1 := by omega
  by_cases k0 : r3 = 0
  · subst k0
    go_wp2_with fail
    go_region
    go_wp2
    obtain ⟨p1, p2, p3, p4, p5⟩ := draw_end H3.out (.int .i64 k) (.int .i64 c) (.int .i64 s) (.int .i64 q) (.int .i64 v) (.bool de) (.slice (some ⟨g, 0, none⟩) ds.length cp) (.int .i64 k) (.int .i64 c) (.int .i64 s) (.int .i64 q) (.int .i64 v) (.bool de) (.slice (some ⟨g, 0, none⟩) ds.length cp)
    exact bodyPost_ret (v := .tuple #[wrV k c s q v de (some ⟨g, 0, none⟩) ds.length cp, wrV k c s q v de (some ⟨g, 0, none⟩) ds.length cp]) (by simp [results, Try.results11, go_sem, x0, x1, x2, x3, x4, x5, x6, y0, y1, y2, y3, y4, y5, y6]) rfl ⟨k, c, s, q, v, de, g, cp, ds, k, c, s, q, v, de, g, cp, ds, rfl, hds, hds, p1, p2, p3, p4, p5⟩
  · by_cases k1 : r3 = 1
    · subst k1
      have H4 : Hid (DW w (w3.setCell ⟨w2.heap.size + 1, 4, none⟩ (.int .i64 (wrap64 (v + 1)))) (w.heap.size + 1 + 1) w2.heap.size (w2.heap.size + 1) g g a len cap 81 k c s q v de ds cp k c s q (wrap64 (v + 1)) de ds cp) := H3.out.set 4 _ (H3.out.bb.set4 _)
      go_wp2_with fail
      clear x0 x1 x2 x3 x4 x5 x6 y0 y1 y2 y3 y4 y5 y6 z0 z1 z2 z3 z4 z5 z6 t0 t1 t2 t3 t4 t5 t6 xf yf tf
      clear H3
      generalize (w3.setCell ⟨w2.heap.size + 1, 4, none⟩ (.int .i64 (wrap64 (v + 1)))) = W at *
      generalize wrap64 (v + 1) = v2 at *
      have x0 := H4.out.r1.c0
      have x1 := H4.out.r1.c1
      have x2 := H4.out.r1.c2
      have x3 := H4.out.r1.c3
      have x4 := H4.out.r1.c4
      have x5 := H4.out.r1.c5
      have x6 := H4.out.r1.c6
      have y0 := H4.out.r2.c0
      have y1 := H4.out.r2.c1
      have y2 := H4.out.r2.c2
      have y3 := H4.out.r2.c3
      have y4 := H4.out.r2.c4
      have y5 := H4.out.r2.c5
      have y6 := H4.out.r2.c6
      have z0 := H4.out.ba.c0
      have z1 := H4.out.ba.c1
      have z2 := H4.out.ba.c2
      have z3 := H4.out.ba.c3
      have z4 := H4.out.ba.c4
      have z5 := H4.out.ba.c5
      have z6 := H4.out.ba.c6
      have t0 := H4.out.bb.c0
      have t1 := H4.out.bb.c1
      have t2 := H4.out.bb.c2
      have t3 := H4.out.bb.c3
      have t4 := H4.out.bb.c4
      have t5 := H4.out.bb.c5
      have t6 := H4.out.bb.c6
      have xf := H4.out.r1.fz
      have yf := H4.out.r2.fz
      have tf := H4.out.bb.fz
      go_region
      go_wp2
      obtain ⟨p1, p2, p3, p4, p5⟩ := draw_end H4.out (.int .i64 k) (.int .i64 c) (.int .i64 s) (.int .i64 q) (.int .i64 v) (.bool de) (.slice (some ⟨g, 0, none⟩) ds.length cp) (.int .i64 k) (.int .i64 c) (.int .i64 s) (.int .i64 q) (.int .i64 v2) (.bool de) (.slice (some ⟨g, 0, none⟩) ds.length cp)
      exact bodyPost_ret (v := .tuple #[wrV k c s q v de (some ⟨g, 0, none⟩) ds.length cp, wrV k c s q v2 de (some ⟨g, 0, none⟩) ds.length cp]) (by simp [results, Try.results11, go_sem, x0, x1, x2, x3, x4, x5, x6, y0, y1, y2, y3, y4, y5, y6]) rfl ⟨k, c, s, q, v, de, g, cp, ds, k, c, s, q, v2, de, g, cp, ds, rfl, hds, hds, p1, p2, p3, p4, p5⟩
    · have k0' : (r3 == 0) = false := by simp [k0]
      have k1' : (r3 == 1) = false := by simp [k1]
      by_cases k2 : r3 = 2
      · subst k2
        go_wp2_with fail
        refine (deps_any _ a len cap 81 _ (by omega) H3.out.cur).mono ?_
        rintro e w4 ⟨g', cp', ds', rfl, hds2, hO, hc4, hh4⟩
        have hbB := H3.out.bb.lt
        have hle := hO.le
        have hlt4 := hO.lt
        have HS := H3.out.step hc4 hh4
        have H4 : Hid (DW w (w4.setCell ⟨w2.heap.size + 1, 6, none⟩ (.slice (some ⟨g', 0, none⟩) ds'.length cp')) (w.heap.size + 1 + 1) w2.heap.size (w2.heap.size + 1) g g' a len cap (81 + 40) k c s q v de ds cp k c s q v de ds' cp') :=
          ⟨HS.cur.setOther (by omega) _ _, HS.below.setCell (by simp; omega) _, HS.r1.other (by omega) _ _, HS.r2.other (by omega) _ _, HS.ba.other (by omega) _ _, HS.bb.set6 _ _ _, HS.d1.set (by simp; omega) _, hO.holds.set (by simp; omega) _, by simpa [World.setCell] using HS.l1, by simpa [World.setCell] using hlt4, rfl, HS.g1, by omega, HS.gA, HS.gB, by omega, hds, hds2⟩
        clear x0 x1 x2 x3 x4 x5 x6 y0 y1 y2 y3 y4 y5 y6 z0 z1 z2 z3 z4 z5 z6 t0 t1 t2 t3 t4 t5 t6 xf yf tf
        have t6 := HS.bb.c6
        have tf := HS.bb.fz
        clear H3 HS hO hc4 hh4
        go_wp2_with fail
        clear t6 tf
        generalize (w4.setCell ⟨w2.heap.size + 1, 6, none⟩ (.slice (some ⟨g', 0, none⟩) ds'.length cp')) = W at *
        have x0 := H4.out.r1.c0
        have x1 := H4.out.r1.c1
        have x2 := H4.out.r1.c2
        have x3 := H4.out.r1.c3
        have x4 := H4.out.r1.c4
        have x5 := H4.out.r1.c5
        have x6 := H4.out.r1.c6
        have y0 := H4.out.r2.c0
        have y1 := H4.out.r2.c1
        have y2 := H4.out.r2.c2
        have y3 := H4.out.r2.c3
        have y4 := H4.out.r2.c4
        have y5 := H4.out.r2.c5
        have y6 := H4.out.r2.c6
        have z0 := H4.out.ba.c0
        have z1 := H4.out.ba.c1
        have z2 := H4.out.ba.c2
        have z3 := H4.out.ba.c3
        have z4 := H4.out.ba.c4
        have z5 := H4.out.ba.c5
        have z6 := H4.out.ba.c6
        have t0 := H4.out.bb.c0
        have t1 := H4.out.bb.c1
        have t2 := H4.out.bb.c2
        have t3 := H4.out.bb.c3
        have t4 := H4.out.bb.c4
        have t5 := H4.out.bb.c5
        have t6 := H4.out.bb.c6
        have xf := H4.out.r1.fz
        have yf := H4.out.r2.fz
        have tf := H4.out.bb.fz
        go_region
        go_wp2
        obtain ⟨p1, p2, p3, p4, p5⟩ := draw_end H4.out (.int .i64 k) (.int .i64 c) (.int .i64 s) (.int .i64 q) (.int .i64 v) (.bool de) (.slice (some ⟨g, 0, none⟩) ds.length cp) (.int .i64 k) (.int .i64 c) (.int .i64 s) (.int .i64 q) (.int .i64 v) (.bool de) (.slice (some ⟨g', 0, none⟩) ds'.length cp')
        exact bodyPost_ret (v := .tuple #[wrV k c s q v de (some ⟨g, 0, none⟩) ds.length cp, wrV k c s q v de (some ⟨g', 0, none⟩) ds'.length cp']) (by simp [results, Try.results11, go_sem, x0, x1, x2, x3, x4, x5, x6, y0, y1, y2, y3, y4, y5, y6]) rfl ⟨k, c, s, q, v, de, g, cp, ds, k, c, s, q, v, de, g', cp', ds', rfl, hds, hds2, p1, p2, p3, p4, p5⟩
      · have k2' : (r3 == 2) = false := by simp [k2]
        by_cases k3 : r3 = 3
        · subst k3
          have H4 : Hid (DW w (w3.setCell ⟨w2.heap.size + 1, 5, none⟩ (.bool (!de))) (w.heap.size + 1 + 1) w2.heap.size (w2.heap.size + 1) g g a len cap 81 k c s q v de ds cp k c s q v (!de) ds cp) := H3.out.set 5 _ (H3.out.bb.set5 _)
          go_wp2_with fail
          clear x0 x1 x2 x3 x4 x5 x6 y0 y1 y2 y3 y4 y5 y6 z0 z1 z2 z3 z4 z5 z6 t0 t1 t2 t3 t4 t5 t6 xf yf tf
          clear H3
          generalize (w3.setCell ⟨w2.heap.size + 1, 5, none⟩ (.bool (!de))) = W at *
          generalize (!de) = de2 at *
          have x0 := H4.out.r1.c0
          have x1 := H4.out.r1.c1
          have x2 := H4.out.r1.c2
          have x3 := H4.out.r1.c3
          have x4 := H4.out.r1.c4
          have x5 := H4.out.r1.c5
          have x6 := H4.out.r1.c6
          have y0 := H4.out.r2.c0
          have y1 := H4.out.r2.c1
          have y2 := H4.out.r2.c2
          have y3 := H4.out.r2.c3
          have y4 := H4.out.r2.c4
          have y5 := H4.out.r2.c5
          have y6 := H4.out.r2.c6
          have z0 := H4.out.ba.c0
          have z1 := H4.out.ba.c1
          have z2 := H4.out.ba.c2
          have z3 := H4.out.ba.c3
          have z4 := H4.out.ba.c4
          have z5 := H4.out.ba.c5
          have z6 := H4.out.ba.c6
          have t0 := H4.out.bb.c0
          have t1 := H4.out.bb.c1
          have t2 := H4.out.bb.c2
          have t3 := H4.out.bb.c3
          have t4 := H4.out.bb.c4
          have t5 := H4.out.bb.c5
          have t6 := H4.out.bb.c6
          have xf := H4.out.r1.fz
          have yf := H4.out.r2.fz
          have tf := H4.out.bb.fz
          go_region
          go_wp2
          obtain ⟨p1, p2, p3, p4, p5⟩ := draw_end H4.out (.int .i64 k) (.int .i64 c) (.int .i64 s) (.int .i64 q) (.int .i64 v) (.bool de) (.slice (some ⟨g, 0, none⟩) ds.length cp) (.int .i64 k) (.int .i64 c) (.int .i64 s) (.int .i64 q) (.int .i64 v) (.bool de2) (.slice (some ⟨g, 0, none⟩) ds.length cp)
          exact bodyPost_ret (v := .tuple #[wrV k c s q v de (some ⟨g, 0, none⟩) ds.length cp, wrV k c s q v de2 (some ⟨g, 0, none⟩) ds.length cp]) (by simp [results, Try.results11, go_sem, x0, x1, x2, x3, x4, x5, x6, y0, y1, y2, y3, y4, y5, y6]) rfl ⟨k, c, s, q, v, de, g, cp, ds, k, c, s, q, v, de2, g, cp, ds, rfl, hds, hds, p1, p2, p3, p4, p5⟩
        · have k3' : (r3 == 3) = false := by simp [k3]
          clear k0 k1 k2 k3
          go_wp2_with fail
          refine (write_any _ a len cap 81 _ (by omega) H3.out.cur).mono ?_
          rintro e w4 ⟨k', c', s', q', v', de', g', cp', ds', rfl, hds2, hle, hlt4, hD4, hc4, hh4⟩
          have hbB := H3.out.bb.lt
          have HS := H3.out.step hc4 hh4
          have H4 : Hid (DW w (((((((w4.setCell ⟨w2.heap.size + 1, 0, none⟩ (.int .i64 k')).setCell ⟨w2.heap.size + 1, 1, none⟩ (.int .i64 c')).setCell ⟨w2.heap.size + 1, 2, none⟩ (.int .i64 s')).setCell ⟨w2.heap.size + 1, 3, none⟩ (.int .i64 q')).setCell ⟨w2.heap.size + 1, 4, none⟩ (.int .i64 v')).setCell ⟨w2.heap.size + 1, 5, none⟩ (.bool de')).setCell ⟨w2.heap.size + 1, 6, none⟩ (.slice (some ⟨g', 0, none⟩) ds'.length cp')) (w.heap.size + 1 + 1) w2.heap.size (w2.heap.size + 1) g g' a len cap (81 + 80) k c s q v de ds cp k' c' s' q' v' de' ds' cp') :=
            ⟨cur_put7 HS.cur (by omega) _ _ _ _ _ _ _, below_put7 HS.below (by omega) _ _ _ _ _ _ _, box_put7 HS.r1 (by omega) _ _ _ _ _ _ _, box_put7 HS.r2 (by omega) _ _ _ _ _ _ _, box_put7 HS.ba (by omega) _ _ _ _ _ _ _, box_own7 HS.bb _ _ _ _ _ _ _ _ _, holds_put7 HS.d1 (by omega) _ _ _ _ _ _ _, holds_put7 hD4 (by omega) _ _ _ _ _ _ _, by simpa [World.setCell] using HS.l1, by simpa [World.setCell] using hlt4, rfl, HS.g1, by omega, HS.gA, HS.gB, by omega, hds, hds2⟩
          clear x0 x1 x2 x3 x4 x5 x6 y0 y1 y2 y3 y4 y5 y6 z0 z1 z2 z3 z4 z5 z6 t0 t1 t2 t3 t4 t5 t6 xf yf tf
          have t0 := HS.bb.c0
          have t1 := HS.bb.c1
          have t2 := HS.bb.c2
          have t3 := HS.bb.c3
          have t4 := HS.bb.c4
          have t5 := HS.bb.c5
          have t6 := HS.bb.c6
          have tf := HS.bb.fz
          clear H3 HS hc4 hh4 hD4
          go_wp2_with fail
          clear t0 t1 t2 t3 t4 t5 t6 tf
          generalize (((((((w4.setCell ⟨w2.heap.size + 1, 0, none⟩ (.int .i64 k')).setCell ⟨w2.heap.size + 1, 1, none⟩ (.int .i64 c')).setCell ⟨w2.heap.size + 1, 2, none⟩ (.int .i64 s')).setCell ⟨w2.heap.size + 1, 3, none⟩ (.int .i64 q')).setCell ⟨w2.heap.size + 1, 4, none⟩ (.int .i64 v')).setCell ⟨w2.heap.size + 1, 5, none⟩ (.bool de')).setCell ⟨w2.heap.size + 1, 6, none⟩ (.slice (some ⟨g', 0, none⟩) ds'.length cp')) = W at *
          have x0 := H4.out.r1.c0
          have x1 := H4.out.r1.c1
          have x2 := H4.out.r1.c2
          have x3 := H4.out.r1.c3
          have x4 := H4.out.r1.c4
          have x5 := H4.out.r1.c5
          have x6 := H4.out.r1.c6
          have y0 := H4.out.r2.c0
          have y1 := H4.out.r2.c1
          have y2 := H4.out.r2.c2
          have y3 := H4.out.r2.c3
          have y4 := H4.out.r2.c4
          have y5 := H4.out.r2.c5
          have y6 := H4.out.r2.c6
          have z0 := H4.out.ba.c0
          have z1 := H4.out.ba.c1
          have z2 := H4.out.ba.c2
          have z3 := H4.out.ba.c3
          have z4 := H4.out.ba.c4
          have z5 := H4.out.ba.c5
          have z6 := H4.out.ba.c6
          have t0 := H4.out.bb.c0
          have t1 := H4.out.bb.c1
          have t2 := H4.out.bb.c2
          have t3 := H4.out.bb.c3
          have t4 := H4.out.bb.c4
          have t5 := H4.out.bb.c5
          have t6 := H4.out.bb.c6
          have xf := H4.out.r1.fz
          have yf := H4.out.r2.fz
          have tf := H4.out.bb.fz
          go_region
          go_wp2
          obtain ⟨p1, p2, p3, p4, p5⟩ := draw_end H4.out (.int .i64 k) (.int .i64 c) (.int .i64 s) (.int .i64 q) (.int .i64 v) (.bool de) (.slice (some ⟨g, 0, none⟩) ds.length cp) (.int .i64 k') (.int .i64 c') (.int .i64 s') (.int .i64 q') (.int .i64 v') (.bool de') (.slice (some ⟨g', 0, none⟩) ds'.length cp')
          exact bodyPost_ret (v := .tuple #[wrV k c s q v de (some ⟨g, 0, none⟩) ds.length cp, wrV k' c' s' q' v' de' (some ⟨g', 0, none⟩) ds'.length cp']) (by simp [results, Try.results11, go_sem, x0, x1, x2, x3, x4, x5, x6, y0, y1, y2, y3, y4, y5, y6]) rfl ⟨k, c, s, q, v, de, g, cp, ds, k', c', s', q', v', de', g', cp', ds', rfl, hds, hds2, p1, p2, p3, p4, p5⟩

end Go.Proofs.Ytidpcjcnhklmpab
