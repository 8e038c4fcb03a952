import Derived.Test.YtbbmpfkijhhemabGreatDoorPack12
import Derived.Test.YtbbmpfkijhhemabGreatDoorPack19
import Derived.Test.YtbbmpfkijhhemabGreatDoorPack8
import Derived.Test.YtbbmpfkijhhemabGreatDoorPack1
import Derived.Test.YtbbmpfkijhhemabGreatDoorPack13
import Derived.Test.YtbbmpfkijhhemabGreatDoorPack7
import Derived.Test.YtbbmpfkijhhemabGreatDoorPack2
import Derived.Test.YtbbmpfkijhhemabGreatDoorPack6
/- Contracts of Within of both sides. -/
namespace Go.Proofs.YtbbmpfkijhhemabGreatDoor
open Go.ChangeShapes Go.WideShapes Go.ChangeAt Go.RowKit Go.Joins
attribute [local go_sem ↓] Go.wp_at_zero Go.wp_at_succ

/-- Two lists of writes are the same. -/
def sameB (us vs : List Wr) : Bool := decide (us.length = vs.length) && (List.range us.length).all fun i => decide (cmpW (us.getD i wz) (vs.getD i wz) = 0)

theorem same_len {us vs : List Wr} (h : us.length ≠ vs.length) : sameB us vs = false := by
  unfold sameB
  rw [decide_eq_false h, Bool.false_and]

theorem same_false {us vs : List Wr} {i : Nat} (hi : i < us.length) (h : cmpW (us.getD i wz) (vs.getD i wz) ≠ 0) : sameB us vs = false := by
  unfold sameB
  rw [Bool.and_eq_false_iff]
  refine .inr ?_
  rw [List.all_eq_false]
  exact ⟨i, List.mem_range.2 hi, by simpa using h⟩

theorem same_true {us vs : List Wr} (hl : us.length = vs.length) (h : ∀ i, i < us.length → cmpW (us.getD i wz) (vs.getD i wz) = 0) : sameB us vs = true := by
  unfold sameB
  rw [decide_eq_true hl, Bool.true_and, List.all_eq_true]
  intro i hi
  exact decide_eq_true (h i (List.mem_range.1 hi))

set_option maxHeartbeats 1000000 in
theorem sameWrite_any (x y : Wr) (a a' : Option Addr) (cp cp' : Nat) (w : World) (hn : x.xs.length ≤ 1048576) (hm : y.xs.length ≤ 1048576) (hh : IsDeps w a x.xs) (hh' : IsDeps w a' y.xs) :
    Calls Tryz.prog 35 #[wrOf x a cp, wrOf y a' cp'] w fun e w' => e = .returned (.bool (cmpW x y == 0)) ∧ Below w.heap.size w w' := by
  obtain ⟨xk, xc, xs', xq, xv, xd, xx⟩ := x
  obtain ⟨yk, yc, ys, yq, yv, yd, yy⟩ := y
  have HB : Hid (Below w.heap.size w ((w.alloc (.cells #[.int .i64 xk, .int .i64 xc, .int .i64 xs', .int .i64 xq, .int .i64 xv, .bool xd, .slice a xx.length cp] 43)).alloc (.cells #[.int .i64 yk, .int .i64 yc, .int .i64 ys, .int .i64 yq, .int .i64 yv, .bool yd, .slice a' yy.length cp'] 43))) := ((Below.refl _ _).alloc (Nat.le_refl _) _).alloc (by simp) _
  have HI := Lib.hid (hh.below HB.out)
  have HJ := Lib.hid (hh'.below HB.out)
  clear hh hh'
  go_enter Tryz.func35, Tryz.ntmps35
  go_wp2_with fail
  refine (implWriteCmp_gen xk xc xs' xq xv xd a xx _ cp yk yc ys yq yv yd a' yy _ cp' _ rfl rfl hn hm HI.out HJ.out).mono ?_
  rintro e w1 ⟨rfl, hb⟩
  have HB1 := Lib.hid (below_step HB.out HB.out.size hb)
  clear hb
  go_wp2
  go_ret
  exact ⟨rfl, HB1.out⟩

set_option maxHeartbeats 4000000 in
theorem equalFunc_any (a b : Option Addr) (n m cap cap' : Nat) (us vs : List Wr) (w : World) (hn : us.length = n) (hm : vs.length = m) (hn1 : n ≤ 1048576) (hm1 : m ≤ 1048576) (hx : Few us) (hy : Few vs) (hi : IsWs w a us) (hj : IsWs w b vs) :
    Calls Tryz.prog 34 #[.slice a n cap, .slice b m cap', .func (.func 35) #[] #[]] w fun e w' => e = .returned (.bool (sameB us vs)) ∧ Below w.heap.size w w' := by
  have HI : Hid (IsWs w a us) := hi
  have HJ : Hid (IsWs w b vs) := hj
  have HN : Hid (us.length = n) := hn
  have HM : Hid (vs.length = m) := hm
  have HX : Hid (Few us) := hx
  have HY : Hid (Few vs) := hy
  clear hi hj hn hm hx hy
  by_cases hnm : n = m
  case neg =>
    have HF : Hid (sameB us vs = false) := same_len (by rw [HN.out, HM.out]; exact hnm)
    have hb : ((n : Int) != (m : Int)) = true := by rw [bne_iff_ne]; omega
    go_enter Tryz.func34, Tryz.ntmps34
    go_wp2
    go_ret
    exact ⟨ret_bool HF.out.symm, Below.refl _ _⟩
  subst hnm
  go_enter Tryz.func34, Tryz.ntmps34
  go_wp2
  go_loopw [17] (fun i wr => ∃ k : Nat, k ≤ n ∧ i = .int .i64 k ∧ Hid (∀ j, j < k → cmpW (us.getD j wz) (vs.getD j wz) = 0) ∧ Hid (Below w.heap.size w wr)) (fun i _ => n - (intOf i).toNat)
  case atStart => exact ⟨0, Nat.zero_le _, rfl, fun j hj => absurd hj (Nat.not_lt_zero j), Below.refl _ _⟩
  case round =>
    obtain ⟨k, hk, rfl, HK, HB⟩ := hrel
    by_cases hk' : k < n
    · obtain ⟨b1, o1, ad, cp, rfl, hz, ⟨e0, e1, e2, e3, e4, e5, e6⟩, hd⟩ := HI.out.at HB.out HN.out hk'
      obtain ⟨b2, o2, ad', cp', rfl, hz', ⟨f0, f1, f2, f3, f4, f5, f6⟩, hd'⟩ := HJ.out.at HB.out HM.out hk'
      have i1 : (0 : Int) ≤ (k : Int) := by omega
      have i2 : (k : Int) < (n : Int) := by omega
      have HS : Hid (∀ W, Below wr.heap.size wr W → Calls Tryz.prog 35 #[wrOf (us.getD k wz) ad cp, wrOf (vs.getD k wz) ad' cp'] W fun e w' => e = .returned (.bool (cmpW (us.getD k wz) (vs.getD k wz) == 0)) ∧ Below W.heap.size W w') := fun W hW =>
        sameWrite_any _ _ ad ad' cp cp' W (HX.out k (by rw [HN.out]; exact hk')) (HY.out k (by rw [HM.out]; exact hk')) (hd.below hW) (hd'.below hW)
      have HE : Hid (cmpW (us.getD k wz) (vs.getD k wz) ≠ 0 → sameB us vs = false) := fun h => same_false (by rw [HN.out]; exact hk') h
      have HK' : Hid (cmpW (us.getD k wz) (vs.getD k wz) = 0 → ∀ j, j < k + 1 → cmpW (us.getD j wz) (vs.getD j wz) = 0) := fun h j hj => by
        by_cases h' : j < k
        · exact HK.out j h'
        · have : j = k := by omega
          rw [this]
          exact h
      clear hd hd' HI HJ
      by_cases hc : cmpW (us.getD k wz) (vs.getD k wz) = 0
      · have HK2 := Lib.hid (HK'.out hc)
        have hcb : (cmpW (us.getD k wz) (vs.getD k wz) == 0) = true := by simpa using hc
        rw [hcb] at HS
        clear hc hcb HE HK'
        generalize us.getD k wz = x at *
        generalize vs.getD k wz = y at *
        obtain ⟨xk, xc, xs', xq, xv, xd, xx⟩ := x
        obtain ⟨yk, yc, ys, yq, yv, yd, yy⟩ := y
        simp only at e0 e1 e2 e3 e4 e5 e6 f0 f1 f2 f3 f4 f5 f6 HS
        go_wp2_with fail
        refine (HS.out _ (((Below.refl _ _).alloc (Nat.le_refl _) _).alloc (by simp) _)).mono ?_
        rintro e w2 ⟨rfl, hb⟩
        have HB2 : Hid (Below w.heap.size w w2) := below_step HB.out HB.out.size (below_step (((Below.refl _ _).alloc (Nat.le_refl _) _).alloc (by simp) _) (by simp; omega) hb)
        clear hb
        go_wp2
        exact ⟨⟨k + 1, by omega, by go_num, HK2, HB2⟩, by simp [intOf]; omega⟩
      · have HF := Lib.hid (HE.out hc)
        have hcb : (cmpW (us.getD k wz) (vs.getD k wz) == 0) = false := by simpa using hc
        rw [hcb] at HS
        clear hc hcb HE HK'
        generalize us.getD k wz = x at *
        generalize vs.getD k wz = y at *
        obtain ⟨xk, xc, xs', xq, xv, xd, xx⟩ := x
        obtain ⟨yk, yc, ys, yq, yv, yd, yy⟩ := y
        simp only at e0 e1 e2 e3 e4 e5 e6 f0 f1 f2 f3 f4 f5 f6 HS
        go_wp2_with fail
        refine (HS.out _ (((Below.refl _ _).alloc (Nat.le_refl _) _).alloc (by simp) _)).mono ?_
        rintro e w2 ⟨rfl, hb⟩
        have HB2 : Hid (Below w.heap.size w w2) := below_step HB.out HB.out.size (below_step (((Below.refl _ _).alloc (Nat.le_refl _) _).alloc (by simp) _) (by simp; omega) hb)
        clear hb
        go_wp2
        go_ret
        exact ⟨ret_bool HF.out.symm, HB2.out⟩
    · have hkk : k = n := by omega
      subst hkk
      have HF : Hid (sameB us vs = true) := same_true (by rw [HN.out, HM.out]) (fun i hi => HK.out i (by rw [← HN.out]; exact hi))
      go_wp2
      go_ret
      exact ⟨ret_bool HF.out.symm, HB.out⟩

def withinB (us vs : List Wr) : Bool := mapOkB us && (mapOkB vs && sameB (joinB us vs) vs)

set_option maxHeartbeats 4000000 in
theorem l02Same_gen (a b : Option Addr) (n m cap cap' : Nat) (us vs : List Wr) (w : World) (hn : us.length = n) (hm : vs.length = m) (hn1 : n ≤ 1048576) (hm1 : m ≤ 1048576) (hx : Few us) (hy : Few vs) (hi : IsWs w a us) (hj : IsWs w b vs) :
    Calls Tryz.prog 29 #[.slice a n cap, .slice b m cap'] w fun e w' => e = .returned (.bool (sameB us vs)) ∧ Below w.heap.size w w' := by
  have HI : Hid (IsWs w a us) := hi
  have HJ : Hid (IsWs w b vs) := hj
  have HN : Hid (us.length = n) := hn
  have HM : Hid (vs.length = m) := hm
  have HX : Hid (Few us) := hx
  have HY : Hid (Few vs) := hy
  clear hi hj hn hm hx hy
  by_cases hnm : n = m
  case neg =>
    have HF : Hid (sameB us vs = false) := same_len (by rw [HN.out, HM.out]; exact hnm)
    have hb : ((n : Int) != (m : Int)) = true := by rw [bne_iff_ne]; omega
    go_enter Tryz.func29, Tryz.ntmps29
    go_wp2
    go_ret
    exact ⟨ret_bool HF.out.symm, Below.refl _ _⟩
  subst hnm
  go_enter Tryz.func29, Tryz.ntmps29
  go_wp2
  go_loopw [5] (fun i wr => ∃ k : Nat, k ≤ n ∧ i = .int .i64 k ∧ Hid (∀ j, j < k → cmpW (us.getD j wz) (vs.getD j wz) = 0) ∧ Hid (Below w.heap.size w wr)) (fun i _ => n - (intOf i).toNat)
  case atStart => exact ⟨0, Nat.zero_le _, rfl, fun j hj => absurd hj (Nat.not_lt_zero j), Below.refl _ _⟩
  case round =>
    obtain ⟨k, hk, rfl, HK, HB⟩ := hrel
    by_cases hk' : k < n
    · obtain ⟨b1, o1, ad, cp, rfl, hz, ⟨e0, e1, e2, e3, e4, e5, e6⟩, hd⟩ := HI.out.at HB.out HN.out hk'
      obtain ⟨b2, o2, ad', cp', rfl, hz', ⟨f0, f1, f2, f3, f4, f5, f6⟩, hd'⟩ := HJ.out.at HB.out HM.out hk'
      have i1 : (0 : Int) ≤ (k : Int) := by omega
      have i2 : (k : Int) < (n : Int) := by omega
      have HC : Hid (∀ p : Aft wr.heap.size wr, Calls Tryz.prog 46 #[wrOf (us.getD k wz) ad cp, wrOf (vs.getD k wz) ad' cp'] p.now fun e w' => e = .returned (.int .i64 (cmpW (us.getD k wz) (vs.getD k wz))) ∧ Below p.now.heap.size p.now w') := fun p =>
        specWriteCmp_gen _ _ _ _ _ _ _ (us.getD k wz).xs _ _ _ _ _ _ _ _ _ (vs.getD k wz).xs _ _ _ rfl rfl (HX.out k (by rw [HN.out]; exact hk')) (HY.out k (by rw [HM.out]; exact hk')) (hd.below p.below) (hd'.below p.below)
      have HE : Hid (cmpW (us.getD k wz) (vs.getD k wz) ≠ 0 → sameB us vs = false) := fun h => same_false (by rw [HN.out]; exact hk') h
      have HK' : Hid (cmpW (us.getD k wz) (vs.getD k wz) = 0 → ∀ j, j < k + 1 → cmpW (us.getD j wz) (vs.getD j wz) = 0) := fun h j hj => by
        by_cases h' : j < k
        · exact HK.out j h'
        · have : j = k := by omega
          rw [this]
          exact h
      clear hd hd' HI HJ
      by_cases hc : cmpW (us.getD k wz) (vs.getD k wz) = 0
      · have HK2 := Lib.hid (HK'.out hc)
        rw [hc] at HC
        clear hc HE HK'
        generalize us.getD k wz = x at *
        generalize vs.getD k wz = y at *
        obtain ⟨xk, xc, xs', xq, xv, xd, xx⟩ := x
        obtain ⟨yk, yc, ys, yq, yv, yd, yy⟩ := y
        simp only at e0 e1 e2 e3 e4 e5 e6 f0 f1 f2 f3 f4 f5 f6 HC
        go_wp2_with fail
        have ge0 := aft_cell hz e0
        have ge1 := aft_cell hz e1
        have ge2 := aft_cell hz e2
        have ge3 := aft_cell hz e3
        have ge4 := aft_cell hz e4
        have ge5 := aft_cell hz e5
        have ge6 := aft_cell hz e6
        have gf0 := aft_cell hz' f0
        have gf1 := aft_cell hz' f1
        have gf2 := aft_cell hz' f2
        have gf3 := aft_cell hz' f3
        have gf4 := aft_cell hz' f4
        have gf5 := aft_cell hz' f5
        have gf6 := aft_cell hz' f6
        have ne := aft_some wr
        refine wp_region_aft (by kernel_rfl) (by kernel_rfl) ?_
        repeat (first | go_big_quiet_step (first | (go_at_call 46; exact aft_of (HC.out _))))
        refine wpQuiet_nil ?_
        intro wq hq
        have HBQ : Hid (Below w.heap.size w wq) := below_step HB.out HB.out.size hq
        clear hq
        go_wp2
        exact ⟨⟨k + 1, by omega, by go_num, HK2, HBQ⟩, by simp [intOf]; omega⟩
      · have HF := Lib.hid (HE.out hc)
        have hcb : (cmpW (us.getD k wz) (vs.getD k wz) != 0) = true := by rw [bne_iff_ne]; exact hc
        clear hc HE HK'
        generalize cmpW (us.getD k wz) (vs.getD k wz) = z at *
        generalize us.getD k wz = x at *
        generalize vs.getD k wz = y at *
        obtain ⟨xk, xc, xs', xq, xv, xd, xx⟩ := x
        obtain ⟨yk, yc, ys, yq, yv, yd, yy⟩ := y
        simp only at e0 e1 e2 e3 e4 e5 e6 f0 f1 f2 f3 f4 f5 f6 HC
        go_wp2_with fail
        have ge0 := aft_cell hz e0
        have ge1 := aft_cell hz e1
        have ge2 := aft_cell hz e2
        have ge3 := aft_cell hz e3
        have ge4 := aft_cell hz e4
        have ge5 := aft_cell hz e5
        have ge6 := aft_cell hz e6
        have gf0 := aft_cell hz' f0
        have gf1 := aft_cell hz' f1
        have gf2 := aft_cell hz' f2
        have gf3 := aft_cell hz' f3
        have gf4 := aft_cell hz' f4
        have gf5 := aft_cell hz' f5
        have gf6 := aft_cell hz' f6
        have ne := aft_some wr
        refine wp_region_aft (by kernel_rfl) (by kernel_rfl) ?_
        repeat (first | go_big_quiet_step (first | (go_at_call 46; exact aft_of (HC.out _))))
        refine wpQuiet_nil ?_
        intro wq hq
        have HBQ : Hid (Below w.heap.size w wq) := below_step HB.out HB.out.size hq
        clear hq
        go_wp2
        go_ret
        exact ⟨ret_bool HF.out.symm, HBQ.out⟩
    · have hkk : k = n := by omega
      subst hkk
      have HF : Hid (sameB us vs = true) := same_true (by rw [HN.out, HM.out]) (fun i hi => HK.out i (by rw [← HN.out]; exact hi))
      go_wp2
      go_ret
      exact ⟨ret_bool HF.out.symm, HB.out⟩

theorem l02Same_any (b c n m cap cap' : Nat) (us vs : List Wr) (γ δ : Nat → Nat) (w : World) (hn : us.length = n) (hm : vs.length = m) (hn1 : n ≤ 1048576) (hm1 : m ≤ 1048576) (hx : Few us) (hy : Few vs) (hi : HoldsWs w b us γ) (hj : HoldsWs w c vs δ) :
    Calls Tryz.prog 29 #[.slice (some ⟨b, 0, none⟩) n cap, .slice (some ⟨c, 0, none⟩) m cap'] w fun e w' => e = .returned (.bool (sameB us vs)) ∧ Below w.heap.size w w' :=
  l02Same_gen _ _ n m cap cap' us vs w hn hm hn1 hm1 hx hy (hi.isWs hx) (hj.isWs hy)

end Go.Proofs.YtbbmpfkijhhemabGreatDoor

/- Maps joined: whichever comes first, the same comes; within is an order. No program in sight. -/
namespace Go.Proofs.YtbbmpfkijhhemabGreatDoor

theorem dcmp_zero {d e : Dp} (h : dcmp d e = 0) : d = e := by
  obtain ⟨k, c, s, q⟩ := d
  obtain ⟨k', c', s', q'⟩ := e
  unfold dcmp at h
  simp only at h
  by_cases hk : k = k'
  · rw [if_neg (by simp [hk])] at h
    obtain ⟨rfl, rfl, rfl⟩ := tcmp_zero.1 h
    rw [hk]
  · rw [if_pos hk] at h
    exact absurd (sgn_zero.1 h) hk

theorem depsCmp_zero : ∀ {xs ys : List Dp}, depsCmp xs ys = 0 → xs = ys
  | [], [], _ => rfl
  | [], _ :: _, h => by simp [depsCmp] at h
  | _ :: _, [], h => by simp [depsCmp] at h
  | d :: r, e :: t, h => by
    unfold depsCmp at h
    by_cases hd : dcmp d e = 0
    · rw [if_neg (by simp [hd])] at h
      rw [dcmp_zero hd, depsCmp_zero h]
    · rw [if_pos hd] at h
      exact absurd h hd

theorem cmpW_zero {x y : Wr} (h : cmpW x y = 0) : x = y := by
  obtain ⟨k, c, s, q, v, de, xs⟩ := x
  obtain ⟨k', c', s', q', v', de', ys⟩ := y
  unfold cmpW wcmp at h
  simp only at h
  by_cases h1 : tcmp c s q c' s' q' = 0
  · rw [if_neg (by simp [h1])] at h
    obtain ⟨rfl, rfl, rfl⟩ := tcmp_zero.1 h1
    by_cases h2 : k = k'
    · subst h2
      rw [if_neg (by simp)] at h
      by_cases h3 : v = v'
      · subst h3
        rw [if_neg (by simp)] at h
        by_cases h4 : de = de'
        · subst h4
          rw [if_neg (by simp)] at h
          rw [depsCmp_zero h]
        · rw [if_pos h4] at h
          exact absurd (sgn_zero.1 h) (by cases de <;> cases de' <;> simp [bit] at h4 ⊢)
      · rw [if_pos h3] at h
        exact absurd (sgn_zero.1 h) h3
    · rw [if_pos h2] at h
      exact absurd (sgn_zero.1 h) h2
  · rw [if_pos h1] at h
    exact absurd h h1

theorem cmpW_self (x : Wr) : cmpW x x = 0 := by
  have h := wcmp_neg x.k x.c x.s x.q x.v x.de x.xs x.k x.c x.s x.q x.v x.de x.xs
  unfold cmpW
  omega

theorem same_iff (us vs : List Wr) : sameB us vs = true ↔ us = vs := by
  constructor
  · intro h
    unfold sameB at h
    rw [Bool.and_eq_true, decide_eq_true_eq, List.all_eq_true] at h
    refine List.ext_getElem h.1 fun i h1 h2 => ?_
    have h3 := h.2 i (List.mem_range.2 h1)
    have e1 : us.getD i wz = us[i] := by simp [List.getD, h1]
    have e2 : vs.getD i wz = vs[i] := by simp [List.getD, h2]
    rw [decide_eq_true_eq, e1, e2] at h3
    exact cmpW_zero h3
  · rintro rfl
    exact same_true rfl fun i _ => cmpW_self _

/-- The later of two registers. -/
def later2 (a b : Option Wr) : Option Wr := match b with
  | none => a
  | some y => some (laterO a y)

theorem fold_find : ∀ (b : List Wr) (M : Int → Option Wr), Rise b → ∀ key, b.foldl regPut M key = later2 (M key) (findW b key)
  | [], M, _, key => rfl
  | x :: r, M, h, key => by
    have hp := List.pairwise_cons.1 h
    show r.foldl regPut (regPut M x) key = _
    rw [fold_find r (regPut M x) hp.2 key, findW_cons]
    by_cases hk : x.k = key
    · subst hk
      rw [if_pos rfl, findW_past (fun z hz => hp.1 z hz)]
      show regPut M x x.k = _
      unfold regPut later2
      rw [if_pos rfl]
    · rw [if_neg hk]
      unfold regPut
      rw [if_neg (Ne.symm hk)]

theorem find_join {a b : List Wr} (ha : Rise a) (hb : Rise b) (key : Int) : findW (joinW a b) key = later2 (findW a key) (findW b key) := by
  rw [(join_spec b a ha).2.2 key, fold_find b _ hb]

theorem later_some (x y : Wr) : later2 (some x) (some y) = some (if cmpW x y < 0 then y else x) := rfl

theorem cmpW_turn (x y : Wr) : cmpW y x = -cmpW x y := wcmp_neg ..

theorem later_comm (a b : Option Wr) : later2 a b = later2 b a := by
  cases a with
  | none => cases b <;> rfl
  | some x =>
    cases b with
    | none => rfl
    | some y =>
      rw [later_some, later_some, cmpW_turn x y]
      by_cases h1 : cmpW x y < 0
      · rw [if_pos h1, if_neg (by omega)]
      · rw [if_neg h1]
        by_cases h2 : cmpW x y = 0
        · rw [if_neg (by omega), cmpW_zero h2]
        · rw [if_pos (by omega)]

theorem later_self (a : Option Wr) : later2 a a = a := by
  cases a with
  | none => rfl
  | some x => rw [later_some, if_neg (by rw [cmpW_self]; omega)]

theorem cmpW_three (x y z : Wr) : T3 (cmpW x y) (cmpW y z) (cmpW x z) := wcmp_three ..

theorem later_assoc (a b c : Option Wr) : later2 (later2 a b) c = later2 a (later2 b c) := by
  cases c with
  | none => rfl
  | some z =>
    cases b with
    | none => rfl
    | some y =>
      cases a with
      | none =>
        show later2 (some y) (some z) = later2 none (later2 (some y) (some z))
        rw [later_some]
        rfl
      | some x =>
        rw [later_some x y, later_some y z]
        have t1 := cmpW_three x y z
        have t2 := cmpW_three z y x
        rw [cmpW_turn y z, cmpW_turn x y, cmpW_turn x z] at t2
        by_cases h1 : cmpW x y < 0
        · rw [if_pos h1, later_some]
          by_cases h2 : cmpW y z < 0
          · rw [if_pos h2, later_some, if_pos (t1.n h1 h2)]
          · rw [if_neg h2, later_some, if_pos h1]
        · rw [if_neg h1, later_some]
          by_cases h2 : cmpW y z < 0
          · rw [if_pos h2, later_some]
          · rw [if_neg h2, later_some, if_neg h1]
            by_cases h3 : cmpW x z < 0
            · exfalso
              rcases t2.on (by omega) (by omega) with h4 | h4 <;> omega
            · rw [if_neg h3]

structure OkM (ws : List Wr) : Prop where
  rise : Rise ws
  keys : ∀ x ∈ ws, 0 ≤ x.k ∧ x.k ≤ 5

theorem OkM.join {a b : List Wr} (ha : OkM a) (hb : OkM b) : OkM (joinW a b) where
  rise := (join_spec b a ha.rise).1
  keys := fun x hx => ((join_spec b a ha.rise).2.1 x hx).elim (ha.keys x) (hb.keys x)

theorem OkM.ext {a b : List Wr} (ha : OkM a) (hb : OkM b) (h : ∀ key, findW a key = findW b key) : a = b := by
  rw [← told_find ha.rise ha.keys, ← told_find hb.rise hb.keys, funext h]

theorem join_comm {a b : List Wr} (ha : OkM a) (hb : OkM b) : joinW a b = joinW b a :=
  (ha.join hb).ext (hb.join ha) fun key => by rw [find_join ha.rise hb.rise, find_join hb.rise ha.rise, later_comm]

theorem join_self {a : List Wr} (ha : OkM a) : joinW a a = a :=
  (ha.join ha).ext ha fun key => by rw [find_join ha.rise ha.rise, later_self]

theorem join_assoc {a b c : List Wr} (ha : OkM a) (hb : OkM b) (hc : OkM c) : joinW (joinW a b) c = joinW a (joinW b c) :=
  ((ha.join hb).join hc).ext (ha.join (hb.join hc)) fun key => by
    rw [find_join (ha.join hb).rise hc.rise, find_join ha.rise hb.rise, find_join ha.rise (hb.join hc).rise, find_join hb.rise hc.rise, later_assoc]

theorem okM {ws : List Wr} (h : mapOkB ws = true) : OkM ws := ⟨((mapOk_iff ws).1 h).2, mapOk_keys h⟩

theorem joinB_yes {us vs : List Wr} (h : mapOkB us = true) (h' : mapOkB vs = true) : joinB us vs = joinW us vs := by
  unfold joinB
  exact if_pos ⟨h, h'⟩

theorem within_iff (us vs : List Wr) : withinB us vs = true ↔ mapOkB us = true ∧ mapOkB vs = true ∧ joinW us vs = vs := by
  unfold withinB
  rw [Bool.and_eq_true, Bool.and_eq_true, same_iff]
  constructor
  · rintro ⟨h1, h2, h3⟩
    rw [joinB_yes h1 h2] at h3
    exact ⟨h1, h2, h3⟩
  · rintro ⟨h1, h2, h3⟩
    refine ⟨h1, h2, ?_⟩
    rw [joinB_yes h1 h2]
    exact h3

theorem within_self (us : List Wr) : withinB us us = mapOkB us := by
  cases h : mapOkB us
  · unfold withinB
    rw [h, Bool.false_and]
  · exact (within_iff us us).2 ⟨h, h, join_self (okM h)⟩

theorem within_anti {us vs : List Wr} (h : withinB us vs = true) (h' : withinB vs us = true) : us = vs := by
  obtain ⟨h1, h2, h3⟩ := (within_iff us vs).1 h
  obtain ⟨_, _, h4⟩ := (within_iff vs us).1 h'
  rw [← h3, join_comm (okM h1) (okM h2), h4]

theorem within_join {us vs ws : List Wr} (h : withinB us vs = true) (hw : mapOkB ws = true) : withinB us (joinB vs ws) = true := by
  obtain ⟨h1, h2, h3⟩ := (within_iff us vs).1 h
  refine (within_iff us _).2 ⟨h1, joinB_mapOk _ _, ?_⟩
  rw [joinB_yes h2 hw, ← join_assoc (okM h1) (okM h2) (okM hw), h3]

/-- What FnWithin asks. -/
theorem within_law (us vs ws : List Wr) : (withinB us vs = true → withinB vs us = true → sameB us vs = true) ∧ (withinB us vs = true → mapOkB ws = true → withinB us (joinB vs ws) = true) :=
  ⟨fun h h' => (same_iff _ _).2 (within_anti h h'), fun h h' => within_join h h'⟩

end Go.Proofs.YtbbmpfkijhhemabGreatDoor

/- Which shims are right; the contracts of spec.ShimOk and impl.ShimOk. -/
namespace Go.Proofs.YtbbmpfkijhhemabGreatDoor
open Go.ChangeShapes Go.WideShapes Go.ChangeAt Go.RowKit Go.Joins
attribute [local go_sem ↓] Go.wp_at_zero Go.wp_at_succ

/-- Whether a shim is right. -/
noncomputable def smOkB (x : Sm) : Bool := btw x.si 0 3 && cutB x.ws && decide (x.t.size ≤ 60000) && btw x.cl 0 100000 && sameB (backX x.si x.t).ws x.ws && decide ((backX x.si x.t).t = x.t) && decide ((backX x.si x.t).sq = x.sq) && decide ((backX x.si x.t).la = x.la) && decide ((backX x.si x.t).cl ≤ x.cl)

theorem clock_nonneg (ws : List Wr) : 0 ≤ clockL ws := by
  have h : ∀ (ws : List Wr) (n : Int), 0 ≤ n → 0 ≤ ws.foldl (fun n x => max n x.c) n := by
    intro ws
    induction ws with
    | nil => exact fun n h => h
    | cons x r ih => exact fun n h => ih _ (by show 0 ≤ max n x.c; omega)
  exact h ws 0 (Int.le_refl 0)

theorem backX_cl (si : Int) (s : ByteArray) : 0 ≤ (backX si s).cl := by
  unfold backX
  split
  · exact clock_nonneg _
  · exact Int.le_refl 0

theorem bytes_beq (a b : ByteArray) : (a.toList == b.toList) = decide (a = b) := by
  rw [Bool.eq_iff_iff, decide_eq_true_iff, beq_iff_eq, ByteArray.toList_eq, ByteArray.toList_eq]
  constructor
  · intro h
    cases a with
    | mk d =>
      cases b with
      | mk d' => exact congrArg ByteArray.mk (Array.toList_inj.1 h)
  · rintro rfl
    rfl

set_option maxRecDepth 100000 in
set_option maxHeartbeats 8000000 in
theorem specOk_x (x : Sm) (a : Option Addr) (cap : Nat) (w : World) (hn : x.ws.length ≤ 1048576) (hx : Few x.ws) (ht : x.t.size ≤ 1048576) (h : IsWs w a x.ws) :
    Calls Tryz.prog 14 #[smV x a cap] w fun e w' => e = .returned (.bool (smOkB x)) ∧ Below w.heap.size w w' := by
  obtain ⟨si, cl, sq, la, ws, t⟩ := x
  simp only at hn hx ht h
  have H := Lib.hid h
  have HX := Lib.hid hx
  clear h hx
  unfold smV
  simp only
  obtain ⟨n, hnn⟩ : ∃ n, ws.length = n := ⟨_, rfl⟩
  rw [hnn] at hn ⊢
  have HN := Lib.hid hnn
  clear hnn
  have HB0 : Hid (Below w.heap.size w (w.alloc (.cells #[.int .i64 si, .int .i64 cl, .int .i64 sq, .int .i64 la, .slice a n cap, .string t] 29))) := (Below.refl _ _).alloc (Nat.le_refl _) _
  have HS0 := Lib.hid (SBox.start w si cl sq la a n cap t 29)
  obtain ⟨r, hr⟩ : ∃ r, r = smOkB ⟨si, cl, sq, la, ws, t⟩ := ⟨_, rfl⟩
  rw [← hr]
  unfold smOkB at hr
  simp only at hr
  have HR := Lib.hid hr
  clear hr
  unfold shV
  go_enter Tryz.func14, Tryz.ntmps14
  go_wp2_with fail
  generalize w.alloc (.cells #[.int .i64 si, .int .i64 cl, .int .i64 sq, .int .i64 la, .slice a n cap, .string t] 29) = W0 at *
  refine (site_any si _).mono ?_
  rintro e w1 ⟨rfl, hw⟩
  subst w1
  cases h1 : btw si 0 3
  · have HF : Hid (r = false) := by rw [HR.out, h1]; exact Lib.hid (by simp)
    clear h1 HR
    go_wp2
    go_ret
    exact ⟨by rw [HF.out]; rfl, HB0.out⟩
  rw [h1] at HR
  obtain ⟨-, x0, x1, x2, x3, x4, x5, -⟩ := HS0.out
  go_wp2_with fail
  refine (specIsCut_any a n cap ws _ HN.out hn HX.out (H.out.below HB0.out)).mono ?_
  rintro e w2 ⟨rfl, hb⟩
  have HB2 := Lib.hid (below_step HB0.out HB0.out.size hb)
  have HS2 := Lib.hid (HS0.out.below hb)
  clear hb HB0 HS0 x0 x1 x2 x3 x4 x5
  obtain ⟨-, x0, x1, x2, x3, x4, x5, -⟩ := HS2.out
  cases h2 : cutB ws
  · have HF : Hid (r = false) := by rw [HR.out, h2]; exact Lib.hid (by simp)
    clear h2 HR
    go_wp2
    go_ret
    exact ⟨by rw [HF.out]; rfl, HB2.out⟩
  rw [h2] at HR
  by_cases h3 : t.size ≤ 60000
  rotate_left
  · have HF : Hid (r = false) := by rw [HR.out, decide_eq_false h3]; exact Lib.hid (by simp)
    have h3' : (60000 : Int) < (t.size : Int) := by omega
    clear HR
    go_wp2
    go_ret
    exact ⟨by rw [HF.out]; rfl, HB2.out⟩
  rw [decide_eq_true h3] at HR
  have h3' : ¬ (60000 : Int) < (t.size : Int) := by omega
  go_wp2_with fail
  refine (between_any _ _ _ _).mono ?_
  rintro e w3 ⟨rfl, hw⟩
  subst w3
  cases h4 : btw cl 0 100000
  · have HF : Hid (r = false) := by rw [HR.out, h4]; exact Lib.hid (by simp)
    clear h4 HR
    go_wp2
    go_ret
    exact ⟨by rw [HF.out]; rfl, HB2.out⟩
  rw [h4] at HR
  go_wp2_with fail
  refine (specBack_x si t _ ht).mono ?_
  rintro e w4 ⟨ba, bc, rfl, hw, hb⟩
  have HB4 := Lib.hid (below_step HB2.out HB2.out.size hb)
  have HS4 := Lib.hid (HS2.out.below hb)
  have HW4 := Lib.hid hw
  have HOK := Lib.hid (backX_ok si t)
  obtain ⟨B, hB⟩ : ∃ B, B = backX si t := ⟨_, rfl⟩
  rw [← hB] at HR HW4 HOK
  rw [← hB]
  clear hb hw HB2 HS2 hB x0 x1 x2 x3 x4 x5
  have hb6 : B.ws.length ≤ 6 := mapOk_len HOK.out
  have HBF := Lib.hid (ok_few HOK.out)
  obtain ⟨bsi, bcl, bsq, bla, bws, bt⟩ := B
  simp only at HR HW4 HOK hb6 HBF
  unfold smV shV
  simp only
  obtain ⟨bn, hbn⟩ : ∃ bn, bws.length = bn := ⟨_, rfl⟩
  rw [hbn] at hb6 ⊢
  have HBN := Lib.hid hbn
  clear hbn
  have HA : Hid (Below w4.heap.size w4 (w4.alloc (.cells #[.int .i64 bsi, .int .i64 bcl, .int .i64 bsq, .int .i64 bla, .slice ba bn bc, .string bt] 29))) := (Below.refl _ _).alloc (Nat.le_refl _) _
  have HS5 := Lib.hid (SBox.start w4 bsi bcl bsq bla ba bn bc bt 29)
  have HS4' := Lib.hid (HS4.out.below HA.out)
  have HB5 := Lib.hid (below_step HB4.out HB4.out.size HA.out)
  have HW5 := Lib.hid (HW4.out.below HA.out)
  obtain ⟨-, x0, x1, x2, x3, x4, x5, -⟩ := HS4'.out
  obtain ⟨-, y0, y1, y2, y3, y4, y5, -⟩ := HS5.out
  go_wp2_with fail
  generalize (w4.alloc (.cells #[.int .i64 bsi, .int .i64 bcl, .int .i64 bsq, .int .i64 bla, .slice ba bn bc, .string bt] 29)) = V4 at *
  refine (l02Same_gen ba a bn n bc cap bws ws _ HBN.out HN.out (by omega) hn HBF.out HX.out HW5.out (H.out.below HB5.out)).mono ?_
  rintro e w6 ⟨rfl, hb⟩
  have HB6 := Lib.hid (below_step HB5.out HB5.out.size hb)
  have HS6 := Lib.hid (HS4'.out.below hb)
  have HS7 := Lib.hid (HS5.out.below hb)
  clear hb x0 x1 x2 x3 x4 x5 y0 y1 y2 y3 y4 y5 HB5 HS5 HS4' HB4 HS4 HA
  obtain ⟨-, x0, x1, x2, x3, x4, x5, -⟩ := HS6.out
  obtain ⟨-, y0, y1, y2, y3, y4, y5, -⟩ := HS7.out
  have hbe : ∀ p q : ByteArray, (p.toList == q.toList) = decide (p = q) := bytes_beq
  cases h5 : sameB bws ws
  · have HF : Hid (r = false) := by rw [HR.out, h5]; exact Lib.hid (by simp)
    clear h5 HR
    go_wp2
    go_ret
    exact ⟨by rw [HF.out]; rfl, HB6.out⟩
  rw [h5] at HR
  by_cases h6 : bt = t
  rotate_left
  · have HF : Hid (r = false) := by rw [HR.out, decide_eq_false h6]; exact Lib.hid (by simp)
    have h6' : (bt.toList == t.toList) = false := by rw [hbe]; exact decide_eq_false h6
    clear HR h6 hbe
    go_wp2
    go_ret
    exact ⟨by rw [HF.out]; rfl, HB6.out⟩
  subst h6
  by_cases h7 : bsq = sq
  rotate_left
  · have HF : Hid (r = false) := by rw [HR.out, decide_eq_false h7]; exact Lib.hid (by simp)
    clear HR hbe
    go_wp2
    go_ret
    exact ⟨by rw [HF.out]; rfl, HB6.out⟩
  subst h7
  by_cases h8 : bla = la
  rotate_left
  · have HF : Hid (r = false) := by rw [HR.out, decide_eq_false h8]; exact Lib.hid (by simp)
    clear HR hbe
    go_wp2
    go_ret
    exact ⟨by rw [HF.out]; rfl, HB6.out⟩
  subst h8
  have HF : Hid (r = decide (bcl ≤ cl)) := by rw [HR.out]; exact Lib.hid (by simp)
  clear HR hbe
  go_wp2
  go_ret
  exact ⟨by rw [HF.out]; rfl, HB6.out⟩

end Go.Proofs.YtbbmpfkijhhemabGreatDoor

/- The contract of impl.ShimOk. -/
namespace Go.Proofs.YtbbmpfkijhhemabGreatDoor
open Go.ChangeShapes Go.WideShapes Go.ChangeAt Go.RowKit Go.Joins
attribute [local go_sem ↓] Go.wp_at_zero Go.wp_at_succ

set_option maxRecDepth 100000 in
set_option maxHeartbeats 8000000 in
theorem implOk_x (x : Sm) (a : Option Addr) (cap : Nat) (w : World) (hn : x.ws.length ≤ 1048576) (hx : Few x.ws) (ht : x.t.size ≤ 1048576) (h : IsWs w a x.ws) (hL : LV w) :
    Calls Tryz.prog 18 #[smV x a cap] w fun e w' => e = .returned (.bool (smOkB x)) ∧ Below w.heap.size w w' := by
  obtain ⟨si, cl, sq, la, ws, t⟩ := x
  simp only at hn hx ht h
  have H := Lib.hid h
  have HL := Lib.hid hL
  clear hL
  have HX := Lib.hid hx
  clear h hx
  unfold smV
  simp only
  obtain ⟨n, hnn⟩ : ∃ n, ws.length = n := ⟨_, rfl⟩
  rw [hnn] at hn ⊢
  have HN := Lib.hid hnn
  clear hnn
  have HB0 : Hid (Below w.heap.size w (w.alloc (.cells #[.int .i64 si, .int .i64 cl, .int .i64 sq, .int .i64 la, .slice a n cap, .string t] 29))) := (Below.refl _ _).alloc (Nat.le_refl _) _
  have HS0 := Lib.hid (SBox.start w si cl sq la a n cap t 29)
  obtain ⟨r, hr⟩ : ∃ r, r = smOkB ⟨si, cl, sq, la, ws, t⟩ := ⟨_, rfl⟩
  rw [← hr]
  unfold smOkB at hr
  simp only at hr
  have HR := Lib.hid hr
  clear hr
  unfold shV
  go_enter Tryz.func18, Tryz.ntmps18
  go_wp2_with fail
  generalize w.alloc (.cells #[.int .i64 si, .int .i64 cl, .int .i64 sq, .int .i64 la, .slice a n cap, .string t] 29) = W0 at *
  refine (siteOk_any si _).mono ?_
  rintro e w1 ⟨rfl, hw⟩
  subst w1
  obtain ⟨-, x0, x1, x2, x3, x4, x5, -⟩ := HS0.out
  cases h1 : btw si 0 3
  · have HF : Hid (r = false) := by rw [HR.out, h1]; exact Lib.hid (by simp)
    clear h1 HR
    go_wp2
    go_ret
    exact ⟨by rw [HF.out]; rfl, HB0.out⟩
  rw [h1] at HR
  by_cases h4 : cl ≤ 100000
  rotate_left
  · have hb4 : btw cl 0 100000 = false := by unfold btw; simp; omega
    have HF : Hid (r = false) := by rw [HR.out, hb4]; exact Lib.hid (by simp)
    have h4' : (100000 : Int) < cl := by omega
    clear HR hb4 h1
    go_wp2
    go_ret
    exact ⟨by rw [HF.out]; rfl, HB0.out⟩
  have h4' : ¬ (100000 : Int) < cl := by omega
  by_cases h3 : t.size ≤ 60000
  rotate_left
  · have HF : Hid (r = false) := by rw [HR.out, decide_eq_false h3]; exact Lib.hid (by simp)
    have h3' : (60000 : Int) < (t.size : Int) := by omega
    clear HR h1
    go_wp2
    go_ret
    exact ⟨by rw [HF.out]; rfl, HB0.out⟩
  rw [decide_eq_true h3] at HR
  have h3' : ¬ (60000 : Int) < (t.size : Int) := by omega
  go_wp2_with fail
  refine (implIsCut_any a n cap ws _ HN.out hn HX.out (H.out.below HB0.out)).mono ?_
  rintro e w2 ⟨rfl, hb⟩
  have HB2 := Lib.hid (below_step HB0.out HB0.out.size hb)
  have HS2 := Lib.hid (HS0.out.below hb)
  clear hb HB0 HS0 x0 x1 x2 x3 x4 x5
  obtain ⟨-, x0, x1, x2, x3, x4, x5, -⟩ := HS2.out
  cases h2 : cutB ws
  · have HF : Hid (r = false) := by rw [HR.out, h2]; exact Lib.hid (by simp)
    clear h2 HR
    go_wp2
    go_ret
    exact ⟨by rw [HF.out]; rfl, HB2.out⟩
  rw [h2] at HR
  have HLV := Lib.hid (HL.out.below HB2.out)
  go_wp2_with fail
  refine (implBack_x si t _ ht HLV.out).mono ?_
  rintro e w4 ⟨ba, bc, γ, rfl, hw, hb⟩
  have HB4 := Lib.hid (below_step HB2.out HB2.out.size hb)
  have HS4 := Lib.hid (HS2.out.below hb)
  have HOK := Lib.hid (backX_ok si t)
  have HW4 := Lib.hid (hw.isWs (ok_few HOK.out))
  have hc0 := backX_cl si t
  obtain ⟨B, hB⟩ : ∃ B, B = backX si t := ⟨_, rfl⟩
  rw [← hB] at HR HW4 HOK hc0
  rw [← hB]
  clear hb hw HB2 HS2 hB x0 x1 x2 x3 x4 x5 HLV
  have hb6 : B.ws.length ≤ 6 := mapOk_len HOK.out
  have HBF := Lib.hid (ok_few HOK.out)
  obtain ⟨bsi, bcl, bsq, bla, bws, bt⟩ := B
  simp only at HR HW4 HOK hb6 HBF hc0
  unfold smV shV
  simp only
  obtain ⟨bn, hbn⟩ : ∃ bn, bws.length = bn := ⟨_, rfl⟩
  rw [hbn] at hb6 ⊢
  have HBN := Lib.hid hbn
  clear hbn
  have HA : Hid (Below w4.heap.size w4 (w4.alloc (.cells #[.int .i64 bsi, .int .i64 bcl, .int .i64 bsq, .int .i64 bla, .slice ba bn bc, .string bt] 29))) := (Below.refl _ _).alloc (Nat.le_refl _) _
  have HS5 := Lib.hid (SBox.start w4 bsi bcl bsq bla ba bn bc bt 29)
  have HS4' := Lib.hid (HS4.out.below HA.out)
  have HB5 := Lib.hid (below_step HB4.out HB4.out.size HA.out)
  have HW5 := Lib.hid (HW4.out.below HA.out)
  obtain ⟨-, x0, x1, x2, x3, x4, x5, -⟩ := HS4'.out
  obtain ⟨-, y0, y1, y2, y3, y4, y5, -⟩ := HS5.out
  have hbe : ∀ p q : ByteArray, (p.toList == q.toList) = decide (p = q) := bytes_beq
  by_cases h9 : bcl ≤ cl
  rotate_left
  · have HF : Hid (r = false) := by rw [HR.out, decide_eq_false h9]; exact Lib.hid (by simp)
    clear HR hbe
    go_wp2
    go_ret
    exact ⟨by rw [HF.out]; rfl, HB5.out⟩
  have hb4 : btw cl 0 100000 = true := by unfold btw; simp; omega
  rw [hb4, decide_eq_true h9] at HR
  clear hb4
  by_cases h7 : bsq = sq
  rotate_left
  · have HF : Hid (r = false) := by rw [HR.out, decide_eq_false h7]; exact Lib.hid (by simp)
    clear HR hbe
    go_wp2
    go_ret
    exact ⟨by rw [HF.out]; rfl, HB5.out⟩
  subst h7
  by_cases h8 : bla = la
  rotate_left
  · have HF : Hid (r = false) := by rw [HR.out, decide_eq_false h8]; exact Lib.hid (by simp)
    clear HR hbe
    go_wp2
    go_ret
    exact ⟨by rw [HF.out]; rfl, HB5.out⟩
  subst h8
  by_cases h6 : bt = t
  rotate_left
  · have HF : Hid (r = false) := by rw [HR.out, decide_eq_false h6]; exact Lib.hid (by simp)
    have h6' : (bt.toList == t.toList) = false := by rw [hbe]; exact decide_eq_false h6
    clear HR h6 hbe
    go_wp2
    go_ret
    exact ⟨by rw [HF.out]; rfl, HB5.out⟩
  subst h6
  have HF : Hid (r = sameB bws ws) := by rw [HR.out]; exact Lib.hid (by simp)
  clear HR hbe
  go_wp2_with fail
  generalize (w4.alloc (.cells #[.int .i64 bsi, .int .i64 bcl, .int .i64 bsq, .int .i64 bla, .slice ba bn bc, .string bt] 29)) = V4 at *
  refine (equalFunc_any ba a bn n bc cap bws ws _ HBN.out HN.out (by omega) hn HBF.out HX.out HW5.out (H.out.below HB5.out)).mono ?_
  rintro e w6 ⟨rfl, hb⟩
  have HB6 := Lib.hid (below_step HB5.out HB5.out.size hb)
  clear hb x0 x1 x2 x3 x4 x5 y0 y1 y2 y3 y4 y5
  go_wp2
  go_ret
  exact ⟨by rw [HF.out]; rfl, HB6.out⟩

end Go.Proofs.YtbbmpfkijhhemabGreatDoor

/- The specification's list of dependencies by keys, of one key the last: plain facts; the contracts of spec.l07Bit and spec.l07Later. -/
namespace Go.Proofs.YtbbmpfkijhhemabGreatDoor
open Go.ChangeShapes Go.WideShapes Go.ChangeAt Go.RowKit Go.Joins
attribute [local go_sem ↓] Go.wp_at_zero Go.wp_at_succ

/-- Of two dependencies of one key the later one. -/
def lastD (x d : Dp) : Dp := if tcmp x.c x.s x.q d.c d.s d.q < 0 then d else x

def laterStep (d : Dp) (st : List Dp × Bool) (x : Dp) : List Dp × Bool :=
  if x.k = d.k then (st.1 ++ [lastD x d], true) else if d.k < x.k ∧ st.2 = false then (st.1 ++ [d] ++ [x], true) else (st.1 ++ [x], st.2)

def laterRun (xs : List Dp) (d : Dp) : List Dp × Bool := xs.foldl (laterStep d) ([], false)

def laterL (xs : List Dp) (d : Dp) : List Dp := if (laterRun xs d).2 = true then (laterRun xs d).1 else (laterRun xs d).1 ++ [d]

set_option maxRecDepth 100000 in
theorem laterRun_take (xs : List Dp) (d : Dp) (k : Nat) (h : k < xs.length) : laterRun (xs.take (k + 1)) d = laterStep d (laterRun (xs.take k) d) (xs.getD k dz) := by
  unfold laterRun
  have e : xs.take (k + 1) = xs.take k ++ [xs.getD k dz] := by
    rw [List.take_add_one, List.getElem?_eq_getElem h]
    simp [List.getD, h]
  rw [e, List.foldl_append]
  rfl

set_option maxRecDepth 100000 in
theorem laterStep_len (d : Dp) (st : List Dp × Bool) (x : Dp) : (laterStep d st x).1.length + (if (laterStep d st x).2 = true then 0 else 1) ≤ st.1.length + (if st.2 = true then 0 else 1) + 1 := by
  unfold laterStep
  split
  · cases st.2 <;> simp
  · split
    · rename_i h
      rw [h.2]
      simp
    · cases st.2 <;> simp

set_option maxRecDepth 100000 in
theorem laterRun_len (xs : List Dp) (d : Dp) : ∀ k, k ≤ xs.length → (laterRun (xs.take k) d).1.length + (if (laterRun (xs.take k) d).2 = true then 0 else 1) ≤ k + 1
  | 0, _ => by simp [laterRun]
  | k + 1, h => by
    have ih := laterRun_len xs d k (by omega)
    rw [laterRun_take xs d k (by omega)]
    have := laterStep_len d (laterRun (xs.take k) d) (xs.getD k dz)
    omega

/-- A dependency in a block of its own. -/
structure DBox (w : World) (b : Nat) (d : Dp) : Prop where
  lt : b < w.heap.size
  c0 : w.cell? ⟨b, 0, none⟩ = some (.int .i64 d.k)
  c1 : w.cell? ⟨b, 1, none⟩ = some (.int .i64 d.c)
  c2 : w.cell? ⟨b, 2, none⟩ = some (.int .i64 d.s)
  c3 : w.cell? ⟨b, 3, none⟩ = some (.int .i64 d.q)
  fz : ∀ o, w.frozen? ⟨b, o, none⟩ = false

set_option maxRecDepth 100000 in
theorem DBox.start (w : World) (d : Dp) (ty : Nat) : DBox (w.alloc (.cells #[.int .i64 d.k, .int .i64 d.c, .int .i64 d.s, .int .i64 d.q] ty)) w.heap.size d := by
  have h := heap_alloc_new w (.cells #[.int .i64 d.k, .int .i64 d.c, .int .i64 d.s, .int .i64 d.q] ty)
  refine ⟨by simp, ?_, ?_, ?_, ?_, fun o => by simp [go_sem]⟩ <;> (rw [cell_of_row _ _ _ _ ty (0, 0) h]; rfl)

set_option maxRecDepth 100000 in
theorem DBox.of_block {w w' : World} {b : Nat} {d : Dp} (h : DBox w b d) (hs : w.heap.size ≤ w'.heap.size) (hb : w'.heap[b]? = w.heap[b]?) : DBox w' b d := by
  have e : ∀ o, w'.cell? ⟨b, o, none⟩ = w.cell? ⟨b, o, none⟩ := fun o => World.cell?_of_block (a := ⟨b, o, none⟩) hb
  exact ⟨Nat.lt_of_lt_of_le h.lt hs, (e _).trans h.c0, (e _).trans h.c1, (e _).trans h.c2, (e _).trans h.c3, fun o => (World.frozen?_of_block (w := w) hb).trans (h.fz o)⟩

set_option maxRecDepth 100000 in
theorem DBox.below {w w' : World} {b : Nat} {d : Dp} (h : DBox w b d) (hb : Below w.heap.size w w') : DBox w' b d := h.of_block hb.size (hb.block b h.lt)

/-- A dependency stored as a whole. -/
def put4 (w : World) (b : Nat) (k c s q : Int) : World := (((w.setCell ⟨b, 0, none⟩ (.int .i64 k)).setCell ⟨b, 1, none⟩ (.int .i64 c)).setCell ⟨b, 2, none⟩ (.int .i64 s)).setCell ⟨b, 3, none⟩ (.int .i64 q)

set_option maxRecDepth 100000 in
theorem hole_put4 {B : Nat} {w w' : World} (h : Hole B w w') (k c s q : Int) : Hole B w (put4 w' B k c s q) := (((h.set 0 _).set 1 _).set 2 _).set 3 _

set_option maxRecDepth 100000 in
theorem dbox_put4 {w : World} {b : Nat} {d : Dp} (h : DBox w b d) (k c s q : Int) : DBox (put4 w b k c s q) b ⟨k, c, s, q⟩ := by
  have s0 := cell_set_same (v := .int .i64 k) h.c0
  have o1 := cell_set_off (o := 0) (v := .int .i64 k) h.c1 (by omega)
  have o2 := cell_set_off (o := 0) (v := .int .i64 k) h.c2 (by omega)
  have o3 := cell_set_off (o := 0) (v := .int .i64 k) h.c3 (by omega)
  have s1 := cell_set_same (v := .int .i64 c) o1
  have p0 := cell_set_off (o := 1) (v := .int .i64 c) s0 (by omega)
  have p2 := cell_set_off (o := 1) (v := .int .i64 c) o2 (by omega)
  have p3 := cell_set_off (o := 1) (v := .int .i64 c) o3 (by omega)
  have s2 := cell_set_same (v := .int .i64 s) p2
  have q0 := cell_set_off (o := 2) (v := .int .i64 s) p0 (by omega)
  have q1 := cell_set_off (o := 2) (v := .int .i64 s) s1 (by omega)
  have q3 := cell_set_off (o := 2) (v := .int .i64 s) p3 (by omega)
  refine ⟨?_, cell_set_off q0 (by omega), cell_set_off q1 (by omega), cell_set_off s2 (by omega), cell_set_same q3, fun o => ?_⟩
  · simpa [put4, World.setCell] using h.lt
  · unfold put4
    rw [World.frozen?_setCell, World.frozen?_setCell, World.frozen?_setCell, World.frozen?_setCell]
    exact h.fz o

set_option maxRecDepth 100000 in
theorem RowD.aside {w w' : World} {B base : Nat} {v : Value} {zs : List Dp} (h : RowD w base v zs) (hh : Hole B w w') (hne : v.ownBlock ≠ some B) : RowD w' base v zs :=
  World.ownsRow.kept (row := some B) h ⟨hh.os, hh.tape, hh.output, hh.size, fun k hk hn => hh.block k hk (fun e => hn (by rw [e]))⟩ (.inr hne)

end Go.Proofs.YtbbmpfkijhhemabGreatDoor

/- The contracts of spec.l07Bit and spec.Because. -/
namespace Go.Proofs.YtbbmpfkijhhemabGreatDoor
open Go.ChangeShapes Go.WideShapes Go.ChangeAt Go.RowKit Go.Joins
attribute [local go_sem ↓] Go.wp_at_zero Go.wp_at_succ

/-- Whether this bit is set. -/
def bitB (mask : Int) (k : Int) : Bool := decide (mask / 2 ^ k.toNat % 2 = 1)

def headD (x : Wr) : Dp := ⟨x.k, x.c, x.s, x.q⟩

def becRun (mask : Int) (out : List Dp) (x : Wr) : List Dp := if bitB mask x.k = true then x.xs.foldl laterL (laterL out (headD x)) else out

def becL (ws : List Wr) (mask : Int) : List Dp := ws.foldl (becRun mask) []

def becB (ws : List Wr) (mask : Int) : List Dp := if mapOkB ws = true ∧ 0 ≤ mask then becL ws mask else []

set_option maxRecDepth 100000 in
theorem laterL_len (xs : List Dp) (d : Dp) : (laterL xs d).length ≤ xs.length + 1 := by
  have h := laterRun_len xs d xs.length (Nat.le_refl _)
  rw [List.take_length] at h
  unfold laterL
  split
  · rename_i hp
    rw [if_pos hp] at h
    omega
  · rename_i hp
    rw [if_neg hp] at h
    simp
    omega

set_option maxRecDepth 100000 in
theorem becL_take (ws : List Wr) (mask : Int) (k : Nat) (h : k < ws.length) : becL (ws.take (k + 1)) mask = becRun mask (becL (ws.take k) mask) (ws.getD k wz) := by
  unfold becL
  have e : ws.take (k + 1) = ws.take k ++ [ws.getD k wz] := by
    rw [List.take_add_one, List.getElem?_eq_getElem h]
    simp [List.getD, h]
  rw [e, List.foldl_append]
  rfl

set_option maxRecDepth 100000 in
theorem laterF_take (xs out : List Dp) (k : Nat) (h : k < xs.length) : (xs.take (k + 1)).foldl laterL out = laterL ((xs.take k).foldl laterL out) (xs.getD k dz) := by
  have e : xs.take (k + 1) = xs.take k ++ [xs.getD k dz] := by
    rw [List.take_add_one, List.getElem?_eq_getElem h]
    simp [List.getD, h]
  rw [e, List.foldl_append]
  rfl

set_option maxRecDepth 100000 in
set_option maxHeartbeats 1000000 in
theorem bit7_any (mask : Int) (k : Nat) (w : World) (h0 : 0 ≤ mask) (_h1 : mask ≤ 9223372036854775807) (hk : k ≤ 5) :
    Calls Tryz.prog 15 #[.int .i64 mask, .int .i64 (k : Int)] w fun e w' => e = .returned (.bool (bitB mask (k : Int))) ∧ w' = w := by
  have hp : (0 : Int) < 2 ^ k := Int.pow_pos (by omega)
  have hd0 : 0 ≤ mask / 2 ^ k := Int.ediv_nonneg h0 (by omega)
  have hd1 : mask / 2 ^ k ≤ mask := Int.ediv_le_self _ h0
  have hm : (mask / 2 ^ k).tmod 2 = mask / 2 ^ k % 2 := Int.tmod_eq_emod_of_nonneg hd0
  have k0 : (0 : Int) ≤ (k : Int) := by omega
  have hb : bitB mask (k : Int) = decide (mask / 2 ^ k % 2 = 1) := rfl
  rw [hb]
  clear hb
  go_enter Tryz.func15, Tryz.ntmps15
  go_wp2
  go_ret
  exact ⟨rfl, rfl⟩

end Go.Proofs.YtbbmpfkijhhemabGreatDoor

/- Causes: the lists of dependencies by keys, of one key the last, and the six tags of the program's causes. No Go in sight. -/
namespace Go.Proofs.YtbbmpfkijhhemabGreatDoor

/-- The keys rise. -/
def RiseD (xs : List Dp) : Prop := xs.Pairwise fun x y => x.k < y.k

/-- A dependency put to a list by keys, said by recursion. -/
def insD : List Dp → Dp → List Dp
  | [], d => [d]
  | x :: r, d => if x.k = d.k then lastD x d :: r else if d.k < x.k then d :: x :: r else x :: insD r d

theorem laterStep_past (d : Dp) : ∀ (xs acc : List Dp), (∀ y ∈ xs, d.k < y.k) → xs.foldl (laterStep d) (acc, true) = (acc ++ xs, true)
  | [], acc, _ => by simp
  | y :: r, acc, h => by
    have hy : d.k < y.k := h y (by simp)
    have e : laterStep d (acc, true) y = (acc ++ [y], true) := by
      unfold laterStep
      rw [if_neg (by omega), if_neg (by simp)]
    rw [List.foldl_cons, e, laterStep_past d r _ fun z hz => h z (by simp [hz])]
    simp

theorem laterStep_fold (d : Dp) : ∀ (xs acc : List Dp), RiseD xs → (if (xs.foldl (laterStep d) (acc, false)).2 = true then (xs.foldl (laterStep d) (acc, false)).1 else (xs.foldl (laterStep d) (acc, false)).1 ++ [d]) = acc ++ insD xs d
  | [], acc, _ => by simp [insD]
  | y :: r, acc, h => by
    have hp := List.pairwise_cons.1 h
    rw [List.foldl_cons]
    unfold insD
    by_cases h1 : y.k = d.k
    · have hr : ∀ z ∈ r, d.k < z.k := fun z hz => by have := hp.1 z hz; omega
      have e : laterStep d (acc, false) y = (acc ++ [lastD y d], true) := by simp [laterStep, h1]
      rw [e, laterStep_past d r _ hr]
      simp [h1]
    · by_cases h2 : d.k < y.k
      · have hr : ∀ z ∈ r, d.k < z.k := fun z hz => by have := hp.1 z hz; omega
        have e : laterStep d (acc, false) y = (acc ++ [d] ++ [y], true) := by simp [laterStep, h1, h2]
        rw [e, laterStep_past d r _ hr]
        simp [h1, h2]
      · have e : laterStep d (acc, false) y = (acc ++ [y], false) := by simp [laterStep, h1, h2]
        rw [e, laterStep_fold d r _ hp.2]
        simp [h1, h2]

theorem laterL_eq {xs : List Dp} (h : RiseD xs) (d : Dp) : laterL xs d = insD xs d := by
  have := laterStep_fold d xs [] h
  rw [List.nil_append] at this
  exact this

/-- Three numbers of a tag; all 0 of none. -/
structure Tg where
  c : Int
  s : Int
  q : Int

def tgz : Tg := ⟨0, 0, 0⟩

def putC (ts : List Tg) (d : Dp) : List Tg := if 0 < tcmp d.c d.s d.q (ts.getD d.k.toNat tgz).c (ts.getD d.k.toNat tgz).s (ts.getD d.k.toNat tgz).q then ts.set d.k.toNat ⟨d.c, d.s, d.q⟩ else ts

theorem putC_len (ts : List Tg) (d : Dp) : (putC ts d).length = ts.length := by
  unfold putC
  split <;> simp

/-- Whether a tag is none. -/
def isZ (t : Tg) : Bool := decide (t.c = 0 ∧ t.s = 0 ∧ t.q = 0)

def tellAt : Nat → List Tg → List Dp
  | _, [] => []
  | i, t :: r => (if isZ t = true then [] else [⟨(i : Int), t.c, t.s, t.q⟩]) ++ tellAt (i + 1) r

theorem tellAt_ge : ∀ (ts : List Tg) (i : Nat), ∀ x ∈ tellAt i ts, (i : Int) ≤ x.k ∧ x.k < i + ts.length
  | [], i, x, h => by simp [tellAt] at h
  | t :: r, i, x, h => by
    unfold tellAt at h
    rcases List.mem_append.1 h with h | h
    · split at h
      · simp at h
      · simp at h
        rw [h]
        simp
        omega
    · have := tellAt_ge r (i + 1) x h
      simp
      omega

theorem tellAt_rise : ∀ (ts : List Tg) (i : Nat), RiseD (tellAt i ts)
  | [], _ => List.Pairwise.nil
  | t :: r, i => by
    unfold tellAt
    split
    · simpa using tellAt_rise r (i + 1)
    · refine List.Pairwise.cons (fun z hz => ?_) (tellAt_rise r (i + 1))
      have := (tellAt_ge r (i + 1) z hz).1
      simp
      omega

theorem insD_past : ∀ (xs : List Dp) (d : Dp), (∀ x ∈ xs, d.k < x.k) → insD xs d = d :: xs
  | [], _, _ => rfl
  | x :: r, d, h => by
    have := h x (by simp)
    unfold insD
    rw [if_neg (by omega), if_pos this]

theorem tellAt_put : ∀ (ts : List Tg) (i : Nat) (d : Dp) (j : Nat), d.k = ((i + j : Nat) : Int) → j < ts.length → 1 ≤ d.c →
    tellAt i (if 0 < tcmp d.c d.s d.q (ts.getD j tgz).c (ts.getD j tgz).s (ts.getD j tgz).q then ts.set j ⟨d.c, d.s, d.q⟩ else ts) = insD (tellAt i ts) d
  | [], i, d, j, _, h, _ => by simp at h
  | t :: r, i, d, 0, hk, _, hc => by
    have hnz : isZ ⟨d.c, d.s, d.q⟩ = false := by
      unfold isZ
      simp
      omega
    have hd : (⟨(i : Int), d.c, d.s, d.q⟩ : Dp) = d := by
      obtain ⟨dk, dc, ds, dq⟩ := d
      simp at hk ⊢
      omega
    have hpast : ∀ x ∈ tellAt (i + 1) r, d.k < x.k := fun x hx => by have := (tellAt_ge r (i + 1) x hx).1; omega
    by_cases hz : isZ t = true
    · have hz' : t = tgz := by
        unfold isZ at hz
        obtain ⟨c, s, q⟩ := t
        simp at hz
        simp [tgz, hz]
      subst hz'
      have hpos : 0 < tcmp d.c d.s d.q 0 0 0 := by
        have h1 : sgn d.c 0 = 1 := by
          unfold sgn
          rw [if_neg (by omega), if_pos (by omega)]
        rw [tcmp_lex, h1]
        unfold lexI
        rw [if_pos (by decide)]
        decide
      simp only [List.getD_cons_zero, List.set_cons_zero, tgz, hpos, if_true]
      unfold tellAt
      rw [hnz]
      simp only [isZ]
      simp [insD_past _ _ hpast, hd]
    · simp only [List.getD_cons_zero, List.set_cons_zero]
      have hzf : isZ t = false := by simpa using hz
      have hneg := tcmp_neg d.c d.s d.q t.c t.s t.q
      conv => rhs; unfold tellAt
      simp only [hzf, Bool.false_eq_true, if_false, List.singleton_append]
      have hins : insD (⟨(i : Int), t.c, t.s, t.q⟩ :: tellAt (i + 1) r) d = lastD ⟨(i : Int), t.c, t.s, t.q⟩ d :: tellAt (i + 1) r := by
        unfold insD
        exact if_pos (by simp [hk])
      rw [hins]
      by_cases hp : 0 < tcmp d.c d.s d.q t.c t.s t.q
      · rw [if_pos hp]
        have hl : lastD ⟨(i : Int), t.c, t.s, t.q⟩ d = d := by
          unfold lastD
          exact if_pos (by show tcmp t.c t.s t.q d.c d.s d.q < 0; omega)
        rw [hl]
        conv => lhs; unfold tellAt
        simp only [hnz, Bool.false_eq_true, if_false, List.singleton_append, hd]
      · rw [if_neg hp]
        have hl : lastD ⟨(i : Int), t.c, t.s, t.q⟩ d = ⟨(i : Int), t.c, t.s, t.q⟩ := by
          unfold lastD
          exact if_neg (by show ¬ tcmp t.c t.s t.q d.c d.s d.q < 0; omega)
        rw [hl]
        conv => lhs; unfold tellAt
        simp only [hzf, Bool.false_eq_true, if_false, List.singleton_append]
  | t :: r, i, d, j + 1, hk, hj, hc => by
    have ih := tellAt_put r (i + 1) d j (by rw [hk]; omega) (by simpa using hj) hc
    simp only [List.getD_cons_succ, List.set_cons_succ]
    have hins : insD (tellAt i (t :: r)) d = (if isZ t = true then [] else [⟨(i : Int), t.c, t.s, t.q⟩]) ++ insD (tellAt (i + 1) r) d := by
      conv => lhs; unfold tellAt
      split
      · rfl
      · simp only [List.singleton_append]
        conv => lhs; unfold insD
        rw [if_neg (by simp; omega), if_neg (by simp; omega)]
    rw [hins, ← ih]
    split
    · rw [tellAt]
    · rw [tellAt]

def tellC (ts : List Tg) : List Dp := tellAt 0 ts

theorem tell_put (ts : List Tg) (d : Dp) (hl : ts.length = 6) (h0 : 0 ≤ d.k) (h1 : d.k ≤ 5) (hc : 1 ≤ d.c) : tellC (putC ts d) = laterL (tellC ts) d := by
  unfold tellC
  rw [laterL_eq (tellAt_rise ts 0)]
  exact tellAt_put ts 0 d d.k.toNat (by omega) (by omega) hc

theorem tell_puts : ∀ (xs : List Dp) (ts : List Tg), ts.length = 6 → (∀ d ∈ xs, (0 ≤ d.k ∧ d.k ≤ 5) ∧ 1 ≤ d.c) → tellC (xs.foldl putC ts) = xs.foldl laterL (tellC ts) ∧ (xs.foldl putC ts).length = 6
  | [], _, hl, _ => ⟨rfl, hl⟩
  | d :: r, ts, hl, h => by
    have hd := h d (by simp)
    have := tell_puts r (putC ts d) (by rw [putC_len]; exact hl) fun x hx => h x (by simp [hx])
    rw [tell_put ts d hl hd.1.1 hd.1.2 hd.2] at this
    exact this

def cz : List Tg := [tgz, tgz, tgz, tgz, tgz, tgz]

theorem tell_cz : tellC cz = [] := by decide

/-- The program's causes behind one write. -/
def cauRun (mask : Int) (ts : List Tg) (x : Wr) : List Tg := if bitB mask x.k = true then x.xs.foldl putC (putC ts (headD x)) else ts

def cauL (ws : List Wr) (mask : Int) : List Tg := ws.foldl (cauRun mask) cz

theorem tagOk_c {c s q : Int} (h : tagOkB c s q = true) : 1 ≤ c := by
  simp [tagOkB, btw] at h
  omega

theorem cau_run {x : Wr} (hx : okW x = true) (mask : Int) (ts : List Tg) (hl : ts.length = 6) : tellC (cauRun mask ts x) = becRun mask (tellC ts) x ∧ (cauRun mask ts x).length = 6 := by
  unfold cauRun becRun
  obtain ⟨hk, ht, hd⟩ := okW_parts hx
  split
  · have h1 := tell_put ts (headD x) hl hk.1 hk.2 (tagOk_c ht)
    have := tell_puts x.xs (putC ts (headD x)) (by rw [putC_len]; exact hl) fun d hd' => ⟨(depsOk_each hd hd').1, tagOk_c (depsOk_each hd hd').2⟩
    rw [h1] at this
    exact this
  · exact ⟨rfl, hl⟩

theorem cau_fold (mask : Int) : ∀ (ws : List Wr) (ts : List Tg), ts.length = 6 → (∀ x ∈ ws, okW x = true) → tellC (ws.foldl (cauRun mask) ts) = ws.foldl (becRun mask) (tellC ts) ∧ (ws.foldl (cauRun mask) ts).length = 6
  | [], _, hl, _ => ⟨rfl, hl⟩
  | x :: r, ts, hl, h => by
    obtain ⟨h1, h2⟩ := cau_run (h x (by simp)) mask ts hl
    have := cau_fold mask r (cauRun mask ts x) h2 fun y hy => h y (by simp [hy])
    rw [h1] at this
    exact this

/-- What the causes tell is what the specification gathers. -/
theorem cau_tell {ws : List Wr} (h : mapOkB ws = true) (mask : Int) : tellC (cauL ws mask) = becL ws mask := by
  have := (cau_fold mask ws cz rfl ((mapOk_iff ws).1 h).1).1
  rw [tell_cz] at this
  exact this

end Go.Proofs.YtbbmpfkijhhemabGreatDoor

/- Marks of a row of dependencies of one's own, of whatever length. -/
namespace Go.Proofs.YtbbmpfkijhhemabGreatDoor
open Go.ChangeShapes Go.WideShapes Go.ChangeAt Go.RowKit Go.Joins

theorem OwnD.below {w w' : World} {lo hi : Nat} {a : Option Addr} {ds : List Dp} (h : OwnD w lo hi a ds) (hb : Below w.heap.size w w') : OwnD w' lo hi a ds := by
  rcases h with h | ⟨g, ha, h1, h2, h3, h4, h5⟩
  · exact .inl h
  · exact .inr ⟨g, ha, h1, h2, Nat.lt_of_lt_of_le h3 hb.size, h4.below hb h3, fun o => (hb.frozen (p := ⟨g, o, none⟩) h3).trans (h5 o)⟩

theorem OwnD.only {w w' : World} {S : Nat → Prop} {lo hi : Nat} {a : Option Addr} {ds : List Dp} (h : OwnD w lo hi a ds) (ho : Only S w w') (hS : ∀ x, S x → x < lo ∨ hi ≤ x) : OwnD w' lo hi a ds := by
  rcases h with h | ⟨g, ha, h1, h2, h3, h4, h5⟩
  · exact .inl h
  · have hb := ho.block g fun hs => by have := hS g hs; omega
    refine .inr ⟨g, ha, h1, h2, by rw [ho.size]; exact h3, fun i hi => ?_, fun o => (ho.frozen _).trans (h5 o)⟩
    have e : ∀ o, w'.cell? ⟨g, o, none⟩ = w.cell? ⟨g, o, none⟩ := fun o => World.cell?_of_block (a := ⟨g, o, none⟩) hb
    obtain ⟨a0, a1, a2, a3⟩ := h4 i hi
    exact ⟨(e _).trans a0, (e _).trans a1, (e _).trans a2, (e _).trans a3⟩

def MarkedD (w : World) (a : Option Addr) (ds : List Dp) (k : Int) : Prop := ds = [] ∨ ∃ g, a = some ⟨g, 0, none⟩ ∧ g < w.heap.size ∧ CellsAre w g (ds.length * 4) (markFn k)

theorem MarkedD.below {w w' : World} {a : Option Addr} {ds : List Dp} {k : Int} (h : MarkedD w a ds k) (hb : Below w.heap.size w w') : MarkedD w' a ds k := by
  rcases h with h | ⟨g, ha, h1, h2⟩
  · exact .inl h
  · exact .inr ⟨g, ha, Nat.lt_of_lt_of_le h1 hb.size, h2.of_block (hb.block g h1)⟩

theorem deps_cellsAre {w : World} {g : Nat} {ds : List Dp} (h : HoldsDeps w g 0 ds) : CellsAre w g (ds.length * 4) (fun o => (w.cell? ⟨g, o, none⟩).getD undef) := fun o ho => by
  obtain ⟨a0, a1, a2, a3⟩ := h (o / 4) (by omega)
  have hs : ∃ v, w.cell? ⟨g, o, none⟩ = some v := by
    have : o = 0 + o / 4 * 4 ∨ o = 0 + o / 4 * 4 + 1 ∨ o = 0 + o / 4 * 4 + 2 ∨ o = 0 + o / 4 * 4 + 3 := by omega
    rcases this with e | e | e | e <;> rw [e]
    · exact ⟨_, a0⟩
    · exact ⟨_, a1⟩
    · exact ⟨_, a2⟩
    · exact ⟨_, a3⟩
  obtain ⟨v, hv⟩ := hs
  show w.cell? ⟨g, o, none⟩ = some ((w.cell? ⟨g, o, none⟩).getD undef)
  rw [hv]
  rfl

theorem markDepS_all (lo hi n cap : Nat) (a : Option Addr) (k : Int) (ds : List Dp) (w : World) (hn : ds.length = n) (hm : n ≤ 1048576) (h0 : 0 ≤ k) (h1 : k ≤ 1099511627776) (h : OwnD w lo hi a ds) :
    Calls Tryz.prog 22 #[.slice a n cap, .int .i64 k] w fun e w' => e = .returned (.int .i64 (k + 4 * n)) ∧ MarkedD w' a ds k ∧ Only (fun b => lo ≤ b ∧ b < hi) w w' := by
  rcases h with h | ⟨g, ha, g1, g2, g3, g4, g5⟩
  · subst h
    have hn0 : n = 0 := by rw [← hn]; rfl
    subst hn0
    refine (markDepS_any a 0 0 cap k (fun _ => undef) w (by omega) h0 h1 (fun h => absurd h (Nat.lt_irrefl 0)) (fun o ho => by omega) (fun h => absurd h (Nat.lt_irrefl 0))).mono ?_
    rintro e w' ⟨he, -, ho⟩
    exact ⟨he, .inl rfl, ⟨ho.os, ho.tape, ho.output, ho.size, fun b _ => ho.block b (by rintro ⟨h, _⟩; omega), ho.frozen⟩⟩
  · have hc := deps_cellsAre g4
    rw [hn] at hc
    refine (markDepS_any a g n cap k _ w hm h0 h1 (fun _ => ha) hc (fun _ => g5)).mono ?_
    rintro e w' ⟨he, hk, ho⟩
    refine ⟨he, .inr ⟨g, ha, by rw [ho.size]; exact g3, by rw [hn]; exact hk⟩, ⟨ho.os, ho.tape, ho.output, ho.size, fun b hb => ho.block b (by rintro ⟨_, rfl⟩; exact hb ⟨g1, g2⟩), ho.frozen⟩⟩

theorem heldDepS_all (n cap : Nat) (a : Option Addr) (k : Int) (ds : List Dp) (w : World) (hn : ds.length = n) (hm : n ≤ 1048576) (h0 : 0 ≤ k) (h1 : k ≤ 1099511627776) (h : MarkedD w a ds k) :
    Calls Tryz.prog 23 #[.slice a n cap, .int .i64 k] w fun e w' => e = .returned (.int .i64 (k + 4 * n)) ∧ w' = w := by
  rcases h with h | ⟨g, ha, g1, g2⟩
  · subst h
    have hn0 : n = 0 := by rw [← hn]; rfl
    subst hn0
    exact heldDepS_any a 0 0 cap k w (by omega) h0 h1 (fun h => absurd h (Nat.lt_irrefl 0)) (fun o ho => by omega)
  · rw [hn] at g2
    exact heldDepS_any a g n cap k w hm h0 h1 (fun _ => ha) g2

end Go.Proofs.YtbbmpfkijhhemabGreatDoor

/- The contract of spec.Because. -/
namespace Go.Proofs.YtbbmpfkijhhemabGreatDoor
open Go.ChangeShapes Go.WideShapes Go.ChangeAt Go.RowKit Go.Joins
attribute [local go_sem ↓] Go.wp_at_zero Go.wp_at_succ

theorem laterF_len : ∀ (xs out : List Dp), (xs.foldl laterL out).length ≤ out.length + xs.length
  | [], out => by simp
  | d :: r, out => by
    have h1 := laterF_len r (laterL out d)
    have h2 := laterL_len out d
    simp only [List.foldl_cons, List.length_cons]
    omega

theorem becRun_len {x : Wr} (h : x.xs.length ≤ 6) (mask : Int) (out : List Dp) : (becRun mask out x).length ≤ out.length + 7 := by
  unfold becRun
  split
  · have h1 := laterF_len x.xs (laterL out (headD x))
    have h2 := laterL_len out (headD x)
    omega
  · omega

theorem becF_len (mask : Int) : ∀ (ws : List Wr) (out : List Dp), (∀ x ∈ ws, x.xs.length ≤ 6) → (ws.foldl (becRun mask) out).length ≤ out.length + 7 * ws.length
  | [], out, _ => by simp
  | x :: r, out, h => by
    have h1 := becF_len mask r (becRun mask out x) fun y hy => h y (by simp [hy])
    have h2 := becRun_len (h x (by simp)) mask out
    simp only [List.foldl_cons, List.length_cons]
    omega

theorem becL_len {ws : List Wr} (h : mapOkB ws = true) (mask : Int) (k : Nat) : (becL (ws.take k) mask).length ≤ 42 := by
  have hx := ((mapOk_iff ws).1 h).1
  have h1 := becF_len mask (ws.take k) [] fun y hy => okW_len (hx y (List.mem_of_mem_take hy))
  have h2 := mapOk_len h
  have h3 : (ws.take k).length ≤ ws.length := by simp; omega
  unfold becL
  simp only [List.length_nil] at h1
  omega

end Go.Proofs.YtbbmpfkijhhemabGreatDoor

/- The registers' putAll over a list that was made behind the registers. -/
namespace Go.Proofs.YtbbmpfkijhhemabGreatDoor
open Go.ChangeShapes Go.WideShapes Go.ChangeAt Go.RowKit Go.Joins
attribute [local go_sem ↓] Go.wp_at_zero Go.wp_at_succ

/-- Dependencies that lie in no cell of block b. -/
def IsDepsX (b : Nat) (w : World) (a : Option Addr) (xs : List Dp) : Prop := xs = [] ∨ ∃ g o, a = some ⟨g, o, none⟩ ∧ g ≠ b ∧ g < w.heap.size ∧ HoldsDeps w g o xs

/-- Writes that lie, with their dependencies, in no cell of block b. -/
def IsWsX (b : Nat) (w : World) (a : Option Addr) (ws : List Wr) : Prop :=
  ws = [] ∨ ∃ g o, a = some ⟨g, o, none⟩ ∧ g ≠ b ∧ g < w.heap.size ∧ ∀ i, i < ws.length → ∃ a' cap, WrAt w g (o + i * 7) (ws.getD i wz) a' cap ∧ IsDepsX b w a' (ws.getD i wz).xs

theorem holdsDeps_block {w w' : World} {g o : Nat} {xs : List Dp} (h : HoldsDeps w g o xs) (hb : w'.heap[g]? = w.heap[g]?) : HoldsDeps w' g o xs := fun i hi => by
  have e : ∀ o, w'.cell? ⟨g, o, none⟩ = w.cell? ⟨g, o, none⟩ := fun o => World.cell?_of_block (a := ⟨g, o, none⟩) hb
  obtain ⟨a0, a1, a2, a3⟩ := h i hi
  exact ⟨(e _).trans a0, (e _).trans a1, (e _).trans a2, (e _).trans a3⟩

theorem IsDepsX.now {b : Nat} {w w' : World} {a : Option Addr} {xs : List Dp} (h : IsDepsX b w a xs) (hg : w.grownBy w' (some b)) : IsDeps w' a xs := by
  rcases h with h | ⟨g, o, ha, hne, hlt, hh⟩
  · exact .inl h
  · exact .inr ⟨g, o, ha, Nat.lt_of_lt_of_le hlt hg.size, holdsDeps_block hh (hg.block g hlt (by simpa using hne))⟩

theorem IsDeps.away {b : Nat} {w : World} {a : Option Addr} {xs : List Dp} (h : IsDeps w a xs) {w' : World} (hb : Below w.heap.size w w') (hB : w.heap.size ≤ b) : IsDepsX b w' a xs := by
  rcases h with h | ⟨g, o, ha, hlt, hh⟩
  · exact .inl h
  · exact .inr ⟨g, o, ha, by omega, Nat.lt_of_lt_of_le hlt hb.size, hh.below hb hlt⟩

theorem IsWs.away {b : Nat} {w : World} {a : Option Addr} {ws : List Wr} (h : IsWs w a ws) {w' : World} (hb : Below w.heap.size w w') (hB : w.heap.size ≤ b) : IsWsX b w' a ws := by
  rcases h with h | ⟨g, o, ha, hlt, hh⟩
  · exact .inl h
  · refine .inr ⟨g, o, ha, by omega, Nat.lt_of_lt_of_le hlt hb.size, fun i hi => ?_⟩
    obtain ⟨a', cap, h1, _, h3⟩ := hh i hi
    exact ⟨a', cap, h1.of_block (hb.block _ hlt), h3.away hb hB⟩

/-- One write of a slice, in a later world; its dependencies in the world of the slice. -/
theorem IsWsX.base {b : Nat} {w w' : World} {a : Option Addr} {ws : List Wr} (h : IsWsX b w a ws) (hb : w.grownBy w' (some b)) {k n : Nat} (hn : ws.length = n) (hk : k < n) :
    ∃ g o a' cap, a = some ⟨g, o, none⟩ ∧ g < w'.heap.size ∧ WrAt w' g (o + k * 7) (ws.getD k wz) a' cap ∧ IsDepsX b w a' (ws.getD k wz).xs := by
  rcases h with h | ⟨g, o, ha, hne, hlt, hh⟩
  · subst h
    simp at hn
    omega
  · obtain ⟨a', cap, h1, h3⟩ := hh k (by omega)
    exact ⟨g, o, a', cap, ha, Nat.lt_of_lt_of_le hlt hb.size, h1.of_block (hb.block g hlt (by simpa using hne)), h3⟩

/-- A row of one's own that was made behind block b. -/
theorem RowG.away {b base : Nat} {w : World} {v : Value} {es : List EnG} (h : RowG w base v es) (hB : b < base) {ws : List Wr} (hw : es.map (·.x) = ws) (hl : ∀ x ∈ ws, x.xs.length ≤ 1048576) : ∃ a cap, v = .slice a ws.length cap ∧ IsWsX b w a ws := by
  subst hw
  rcases h.own.2 with ⟨h1, h2⟩ | ⟨g, cap, cur, h1, h2, h3, _⟩
  · have : es = [] := List.length_eq_zero_iff.1 h2
    subst this
    exact ⟨none, 0, h1, .inl rfl⟩
  · subst h1
    have hlt : g < w.heap.size := (h.own.lt g rfl).2
    refine ⟨_, cap, by rw [List.length_map], .inr ⟨g, 0, rfl, by omega, hlt, fun i hi => ?_⟩⟩
    have hi' : i < es.length := by simpa using hi
    have hm : es.getD i ezG ∈ es := by simp [List.getD, hi']
    have hx : (es.map (·.x)).getD i wz = (es.getD i ezG).x := by simp [List.getD, hi']
    rw [hx, Nat.zero_add]
    have c : ∀ c, c < 7 → w.cell? ⟨g, i * 7 + c, none⟩ = (wrValsG (es.getD i ezG))[c]? := fun c hc => by rw [h.own.cellAt _ (by omega), valsG_at es i c hi' hc]
    refine ⟨(es.getD i ezG).a, (es.getD i ezG).cp, ⟨c 0 (by omega), c 1 (by omega), c 2 (by omega), c 3 (by omega), c 4 (by omega), c 5 (by omega), c 6 (by omega)⟩, ?_⟩
    by_cases hp : 0 < (es.getD i ezG).x.xs.length
    · obtain ⟨h4, h5, h6, h7, _⟩ := (h.deps _ hm).1 hp
      exact .inr ⟨_, 0, h4, by omega, h6, h7⟩
    · exact .inl (List.length_eq_zero_iff.1 (by omega))

/-- Registers that hold the writes M, whose dependencies lie in the world w0, off the registers. -/
def RegsX (w0 w : World) (b n : Nat) (M : Int → Option Wr) : Prop :=
  ∃ f, RegsAre w b n f ∧ ∀ k, (M k = none → f k = none) ∧ ∀ x, M k = some x → ∃ ad cp, f k = some (wrOf x ad cp) ∧ IsDepsX b w0 ad x.xs ∧ x.xs.length ≤ 1048576

theorem RegsX.of_block {w0 w w' : World} {b n : Nat} {M : Int → Option Wr} (h : RegsX w0 w b n M) (hb : w'.heap[b]? = w.heap[b]?) : RegsX w0 w' b n M := by
  obtain ⟨f, h1, h2⟩ := h
  exact ⟨f, h1.of_block hb, h2⟩

theorem RegsX.lt {w0 w : World} {b n : Nat} {M : Int → Option Wr} (h : RegsX w0 w b n M) : b < w.heap.size := by
  obtain ⟨f, h1, _⟩ := h
  exact h1.lt

theorem RegsX.below {w0 w w' : World} {b n : Nat} {M : Int → Option Wr} (h : RegsX w0 w b n M) (hb : Below w.heap.size w w') : RegsX w0 w' b n M := h.of_block (hb.block b h.lt)

/-- .. as they lie in a later world. -/
theorem RegsX.now {w0 w : World} {b n : Nat} {M : Int → Option Wr} (h : RegsX w0 w b n M) (hg : w0.grownBy w (some b)) : RegsW w w b n M := by
  obtain ⟨f, h1, h2⟩ := h
  refine ⟨f, h1, fun k => ⟨(h2 k).1, fun x hx => ?_⟩⟩
  obtain ⟨ad, cp, h3, h4, h5⟩ := (h2 k).2 x hx
  exact ⟨ad, cp, h3, h4.now hg, h5⟩

theorem RegsW.away {w0 w : World} {b n : Nat} {M : Int → Option Wr} (h : RegsW w0 w b n M) (hb : Below w0.heap.size w0 w) (hB : w0.heap.size ≤ b) : RegsX w w b n M := by
  obtain ⟨f, h1, h2⟩ := h
  refine ⟨f, h1, fun k => ⟨(h2 k).1, fun x hx => ?_⟩⟩
  obtain ⟨ad, cp, h3, h4, h5⟩ := (h2 k).2 x hx
  exact ⟨ad, cp, h3, h4.away hb hB, h5⟩

/-- .. a later world takes the place of the one in which they lie. -/
theorem RegsX.later {w0 w w' : World} {b n : Nat} {M : Int → Option Wr} (h : RegsX w0 w b n M) (hb : Below w0.heap.size w0 w') (hb' : w'.heap[b]? = w.heap[b]?) : RegsX w' w' b n M := by
  obtain ⟨f, h1, h2⟩ := h
  refine ⟨f, h1.of_block hb', fun k => ⟨(h2 k).1, fun x hx => ?_⟩⟩
  obtain ⟨ad, cp, h3, h4, h5⟩ := (h2 k).2 x hx
  refine ⟨ad, cp, h3, ?_, h5⟩
  rcases h4 with h4 | ⟨g, o, ha, hne, hlt, hh⟩
  · exact .inl h4
  · exact .inr ⟨g, o, ha, hne, Nat.lt_of_lt_of_le hlt hb.size, holdsDeps_block hh (hb.block g hlt)⟩

set_option maxRecDepth 100000 in
theorem put_x (w0 : World) (b m : Nat) (M : Int → Option Wr) (x : Wr) (ad : Option Addr) (cp : Nat) (w : World) (hmm : m ≤ 4611686018427387904) (hxl : x.xs.length ≤ 1048576) (hk : 0 ≤ x.k ∧ x.k ≤ 5) (hd : IsDepsX b w0 ad x.xs) (hb : w0.grownBy w (some b)) (hr : RegsX w0 w b m M) :
    Calls Tryz.prog 69 #[.map (some b), wrOf x ad cp] w fun e w' => e = .returned (.tuple #[]) ∧ RegsX w0 w' b (m + 1) (regPut M x) ∧ w0.grownBy w' (some b) := by
  refine (put_p (IsDepsX b w0) b m M x ad cp w hmm hxl hk hd (fun w' h ad xs hx => hx.now (grown_trans hb (grown_of_below h (some b)))) hr).mono ?_
  rintro e w' ⟨he, h1, h2⟩
  exact ⟨he, h1, grown_trans hb h2⟩

end Go.Proofs.YtbbmpfkijhhemabGreatDoor
