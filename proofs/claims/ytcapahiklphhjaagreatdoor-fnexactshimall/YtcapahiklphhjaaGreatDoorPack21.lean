import Derived.Test.YtcapahiklphhjaaGreatDoorPack13
import Derived.Test.YtcapahiklphhjaaGreatDoorPack20
/- Contracts of Within of both sides. -/
namespace Go.Proofs.YtcapahiklphhjaaGreatDoor
open Go.ChangeShapes Go.WideShapes Go.ChangeAt Go.RowKit Go.Joins
attribute [local go_sem ↓] Go.wp_at_zero Go.wp_at_succ

/-- Two lists of writes are the same. -/
def sameB (us vs : List Wr) : Bool := decide (us.length = vs.length) && (List.range us.length).all fun i => decide (cmpW (us.getD i wz) (vs.getD i wz) = 0)

theorem same_len {us vs : List Wr} (h : us.length ≠ vs.length) : sameB us vs = false := by
  unfold sameB
  rw [decide_eq_false h, Bool.false_and]

theorem same_false {us vs : List Wr} {i : Nat} (hi : i < us.length) (h : cmpW (us.getD i wz) (vs.getD i wz) ≠ 0) : sameB us vs = false := by
  unfold sameB
  rw [Bool.and_eq_false_iff]
  refine .inr ?_
  rw [List.all_eq_false]
  exact ⟨i, List.mem_range.2 hi, by simpa using h⟩

theorem same_true {us vs : List Wr} (hl : us.length = vs.length) (h : ∀ i, i < us.length → cmpW (us.getD i wz) (vs.getD i wz) = 0) : sameB us vs = true := by
  unfold sameB
  rw [decide_eq_true hl, Bool.true_and, List.all_eq_true]
  intro i hi
  exact decide_eq_true (h i (List.mem_range.1 hi))

set_option maxHeartbeats 1000000 in
theorem sameWrite_any (x y : Wr) (a a' : Option Addr) (cp cp' : Nat) (w : World) (hn : x.xs.length ≤ 1048576) (hm : y.xs.length ≤ 1048576) (hh : IsDeps w a x.xs) (hh' : IsDeps w a' y.xs) :
    Calls Tryz.prog 38 #[wrOf x a cp, wrOf y a' cp'] w fun e w' => e = .returned (.bool (cmpW x y == 0)) ∧ Below w.heap.size w w' := by
  obtain ⟨xk, xc, xs', xq, xv, xd, xx⟩ := x
  obtain ⟨yk, yc, ys, yq, yv, yd, yy⟩ := y
  have HB : Hid (Below w.heap.size w ((w.alloc (.cells #[.int .i64 xk, .int .i64 xc, .int .i64 xs', .int .i64 xq, .int .i64 xv, .bool xd, .slice a xx.length cp] 37)).alloc (.cells #[.int .i64 yk, .int .i64 yc, .int .i64 ys, .int .i64 yq, .int .i64 yv, .bool yd, .slice a' yy.length cp'] 37))) := ((Below.refl _ _).alloc (Nat.le_refl _) _).alloc (by simp) _
  have HI := Lib.hid (hh.below HB.out)
  have HJ := Lib.hid (hh'.below HB.out)
  clear hh hh'
  go_enter Tryz.func38, Tryz.ntmps38
  go_wp2_with fail
  refine (implWriteCmp_gen xk xc xs' xq xv xd a xx _ cp yk yc ys yq yv yd a' yy _ cp' _ rfl rfl hn hm HI.out HJ.out).mono ?_
  rintro e w1 ⟨rfl, hb⟩
  have HB1 := Lib.hid (below_step HB.out HB.out.size hb)
  clear hb
  go_wp2
  go_ret
  exact ⟨rfl, HB1.out⟩

set_option maxHeartbeats 4000000 in
theorem equalFunc_any (a b : Option Addr) (n m cap cap' : Nat) (us vs : List Wr) (w : World) (hn : us.length = n) (hm : vs.length = m) (hn1 : n ≤ 1048576) (hm1 : m ≤ 1048576) (hx : Few us) (hy : Few vs) (hi : IsWs w a us) (hj : IsWs w b vs) :
    Calls Tryz.prog 37 #[.slice a n cap, .slice b m cap', .func (.func 38) #[] #[]] w fun e w' => e = .returned (.bool (sameB us vs)) ∧ Below w.heap.size w w' := by
  have HI : Hid (IsWs w a us) := hi
  have HJ : Hid (IsWs w b vs) := hj
  have HN : Hid (us.length = n) := hn
  have HM : Hid (vs.length = m) := hm
  have HX : Hid (Few us) := hx
  have HY : Hid (Few vs) := hy
  clear hi hj hn hm hx hy
  by_cases hnm : n = m
  case neg =>
    have HF : Hid (sameB us vs = false) := same_len (by rw [HN.out, HM.out]; exact hnm)
    have hb : ((n : Int) != (m : Int)) = true := by rw [bne_iff_ne]; omega
    go_enter Tryz.func37, Tryz.ntmps37
    go_wp2
    go_ret
    exact ⟨ret_bool HF.out.symm, Below.refl _ _⟩
  subst hnm
  go_enter Tryz.func37, Tryz.ntmps37
  go_wp2
  go_loopw [17] (fun i wr => ∃ k : Nat, k ≤ n ∧ i = .int .i64 k ∧ Hid (∀ j, j < k → cmpW (us.getD j wz) (vs.getD j wz) = 0) ∧ Hid (Below w.heap.size w wr)) (fun i _ => n - (intOf i).toNat)
  case atStart => exact ⟨0, Nat.zero_le _, rfl, fun j hj => absurd hj (Nat.not_lt_zero j), Below.refl _ _⟩
  case round =>
    obtain ⟨k, hk, rfl, HK, HB⟩ := hrel
    by_cases hk' : k < n
    · obtain ⟨b1, o1, ad, cp, rfl, hz, ⟨e0, e1, e2, e3, e4, e5, e6⟩, hd⟩ := HI.out.at HB.out HN.out hk'
      obtain ⟨b2, o2, ad', cp', rfl, hz', ⟨f0, f1, f2, f3, f4, f5, f6⟩, hd'⟩ := HJ.out.at HB.out HM.out hk'
      have i1 : (0 : Int) ≤ (k : Int) := by omega
      have i2 : (k : Int) < (n : Int) := by omega
      have HS : Hid (∀ W, Below wr.heap.size wr W → Calls Tryz.prog 38 #[wrOf (us.getD k wz) ad cp, wrOf (vs.getD k wz) ad' cp'] W fun e w' => e = .returned (.bool (cmpW (us.getD k wz) (vs.getD k wz) == 0)) ∧ Below W.heap.size W w') := fun W hW =>
        sameWrite_any _ _ ad ad' cp cp' W (HX.out k (by rw [HN.out]; exact hk')) (HY.out k (by rw [HM.out]; exact hk')) (hd.below hW) (hd'.below hW)
      have HE : Hid (cmpW (us.getD k wz) (vs.getD k wz) ≠ 0 → sameB us vs = false) := fun h => same_false (by rw [HN.out]; exact hk') h
      have HK' : Hid (cmpW (us.getD k wz) (vs.getD k wz) = 0 → ∀ j, j < k + 1 → cmpW (us.getD j wz) (vs.getD j wz) = 0) := fun h j hj => by
        by_cases h' : j < k
        · exact HK.out j h'
        · have : j = k := by omega
          rw [this]
          exact h
      clear hd hd' HI HJ
      by_cases hc : cmpW (us.getD k wz) (vs.getD k wz) = 0
      · have HK2 := Lib.hid (HK'.out hc)
        have hcb : (cmpW (us.getD k wz) (vs.getD k wz) == 0) = true := by simpa using hc
        rw [hcb] at HS
        clear hc hcb HE HK'
        generalize us.getD k wz = x at *
        generalize vs.getD k wz = y at *
        obtain ⟨xk, xc, xs', xq, xv, xd, xx⟩ := x
        obtain ⟨yk, yc, ys, yq, yv, yd, yy⟩ := y
        simp only at e0 e1 e2 e3 e4 e5 e6 f0 f1 f2 f3 f4 f5 f6 HS
        go_wp2_with fail
        refine (HS.out _ (((Below.refl _ _).alloc (Nat.le_refl _) _).alloc (by simp) _)).mono ?_
        rintro e w2 ⟨rfl, hb⟩
        have HB2 : Hid (Below w.heap.size w w2) := below_step HB.out HB.out.size (below_step (((Below.refl _ _).alloc (Nat.le_refl _) _).alloc (by simp) _) (by simp; omega) hb)
        clear hb
        go_wp2
        exact ⟨⟨k + 1, by omega, by go_num, HK2, HB2⟩, by simp [intOf]; omega⟩
      · have HF := Lib.hid (HE.out hc)
        have hcb : (cmpW (us.getD k wz) (vs.getD k wz) == 0) = false := by simpa using hc
        rw [hcb] at HS
        clear hc hcb HE HK'
        generalize us.getD k wz = x at *
        generalize vs.getD k wz = y at *
        obtain ⟨xk, xc, xs', xq, xv, xd, xx⟩ := x
        obtain ⟨yk, yc, ys, yq, yv, yd, yy⟩ := y
        simp only at e0 e1 e2 e3 e4 e5 e6 f0 f1 f2 f3 f4 f5 f6 HS
        go_wp2_with fail
        refine (HS.out _ (((Below.refl _ _).alloc (Nat.le_refl _) _).alloc (by simp) _)).mono ?_
        rintro e w2 ⟨rfl, hb⟩
        have HB2 : Hid (Below w.heap.size w w2) := below_step HB.out HB.out.size (below_step (((Below.refl _ _).alloc (Nat.le_refl _) _).alloc (by simp) _) (by simp; omega) hb)
        clear hb
        go_wp2
        go_ret
        exact ⟨ret_bool HF.out.symm, HB2.out⟩
    · have hkk : k = n := by omega
      subst hkk
      have HF : Hid (sameB us vs = true) := same_true (by rw [HN.out, HM.out]) (fun i hi => HK.out i (by rw [← HN.out]; exact hi))
      go_wp2
      go_ret
      exact ⟨ret_bool HF.out.symm, HB.out⟩

def withinB (us vs : List Wr) : Bool := mapOkB us && (mapOkB vs && sameB (joinB us vs) vs)

set_option maxHeartbeats 4000000 in
theorem l02Same_gen (a b : Option Addr) (n m cap cap' : Nat) (us vs : List Wr) (w : World) (hn : us.length = n) (hm : vs.length = m) (hn1 : n ≤ 1048576) (hm1 : m ≤ 1048576) (hx : Few us) (hy : Few vs) (hi : IsWs w a us) (hj : IsWs w b vs) :
    Calls Tryz.prog 34 #[.slice a n cap, .slice b m cap'] w fun e w' => e = .returned (.bool (sameB us vs)) ∧ Below w.heap.size w w' := by
  have HI : Hid (IsWs w a us) := hi
  have HJ : Hid (IsWs w b vs) := hj
  have HN : Hid (us.length = n) := hn
  have HM : Hid (vs.length = m) := hm
  have HX : Hid (Few us) := hx
  have HY : Hid (Few vs) := hy
  clear hi hj hn hm hx hy
  by_cases hnm : n = m
  case neg =>
    have HF : Hid (sameB us vs = false) := same_len (by rw [HN.out, HM.out]; exact hnm)
    have hb : ((n : Int) != (m : Int)) = true := by rw [bne_iff_ne]; omega
    go_enter Tryz.func34, Tryz.ntmps34
    go_wp2
    go_ret
    exact ⟨ret_bool HF.out.symm, Below.refl _ _⟩
  subst hnm
  go_enter Tryz.func34, Tryz.ntmps34
  go_wp2
  go_loopw [5] (fun i wr => ∃ k : Nat, k ≤ n ∧ i = .int .i64 k ∧ Hid (∀ j, j < k → cmpW (us.getD j wz) (vs.getD j wz) = 0) ∧ Hid (Below w.heap.size w wr)) (fun i _ => n - (intOf i).toNat)
  case atStart => exact ⟨0, Nat.zero_le _, rfl, fun j hj => absurd hj (Nat.not_lt_zero j), Below.refl _ _⟩
  case round =>
    obtain ⟨k, hk, rfl, HK, HB⟩ := hrel
    by_cases hk' : k < n
    · obtain ⟨b1, o1, ad, cp, rfl, hz, ⟨e0, e1, e2, e3, e4, e5, e6⟩, hd⟩ := HI.out.at HB.out HN.out hk'
      obtain ⟨b2, o2, ad', cp', rfl, hz', ⟨f0, f1, f2, f3, f4, f5, f6⟩, hd'⟩ := HJ.out.at HB.out HM.out hk'
      have i1 : (0 : Int) ≤ (k : Int) := by omega
      have i2 : (k : Int) < (n : Int) := by omega
      have HC : Hid (∀ p : Aft wr.heap.size wr, Calls Tryz.prog 72 #[wrOf (us.getD k wz) ad cp, wrOf (vs.getD k wz) ad' cp'] p.now fun e w' => e = .returned (.int .i64 (cmpW (us.getD k wz) (vs.getD k wz))) ∧ Below p.now.heap.size p.now w') := fun p =>
        specWriteCmp_gen _ _ _ _ _ _ _ (us.getD k wz).xs _ _ _ _ _ _ _ _ _ (vs.getD k wz).xs _ _ _ rfl rfl (HX.out k (by rw [HN.out]; exact hk')) (HY.out k (by rw [HM.out]; exact hk')) (hd.below p.below) (hd'.below p.below)
      have HE : Hid (cmpW (us.getD k wz) (vs.getD k wz) ≠ 0 → sameB us vs = false) := fun h => same_false (by rw [HN.out]; exact hk') h
      have HK' : Hid (cmpW (us.getD k wz) (vs.getD k wz) = 0 → ∀ j, j < k + 1 → cmpW (us.getD j wz) (vs.getD j wz) = 0) := fun h j hj => by
        by_cases h' : j < k
        · exact HK.out j h'
        · have : j = k := by omega
          rw [this]
          exact h
      clear hd hd' HI HJ
      by_cases hc : cmpW (us.getD k wz) (vs.getD k wz) = 0
      · have HK2 := Lib.hid (HK'.out hc)
        rw [hc] at HC
        clear hc HE HK'
        generalize us.getD k wz = x at *
        generalize vs.getD k wz = y at *
        obtain ⟨xk, xc, xs', xq, xv, xd, xx⟩ := x
        obtain ⟨yk, yc, ys, yq, yv, yd, yy⟩ := y
        simp only at e0 e1 e2 e3 e4 e5 e6 f0 f1 f2 f3 f4 f5 f6 HC
        go_wp2_with fail
        have ge0 := aft_cell hz e0
        have ge1 := aft_cell hz e1
        have ge2 := aft_cell hz e2
        have ge3 := aft_cell hz e3
        have ge4 := aft_cell hz e4
        have ge5 := aft_cell hz e5
        have ge6 := aft_cell hz e6
        have gf0 := aft_cell hz' f0
        have gf1 := aft_cell hz' f1
        have gf2 := aft_cell hz' f2
        have gf3 := aft_cell hz' f3
        have gf4 := aft_cell hz' f4
        have gf5 := aft_cell hz' f5
        have gf6 := aft_cell hz' f6
        have ne := aft_some wr
        refine wp_region_aft (by kernel_rfl) (by kernel_rfl) ?_
        repeat (first | go_big_quiet_step (first | (go_at_call 72; exact aft_of (HC.out _))))
        refine wpQuiet_nil ?_
        intro wq hq
        have HBQ : Hid (Below w.heap.size w wq) := below_step HB.out HB.out.size hq
        clear hq
        go_wp2
        exact ⟨⟨k + 1, by omega, by go_num, HK2, HBQ⟩, by simp [intOf]; omega⟩
      · have HF := Lib.hid (HE.out hc)
        have hcb : (cmpW (us.getD k wz) (vs.getD k wz) != 0) = true := by rw [bne_iff_ne]; exact hc
        clear hc HE HK'
        generalize cmpW (us.getD k wz) (vs.getD k wz) = z at *
        generalize us.getD k wz = x at *
        generalize vs.getD k wz = y at *
        obtain ⟨xk, xc, xs', xq, xv, xd, xx⟩ := x
        obtain ⟨yk, yc, ys, yq, yv, yd, yy⟩ := y
        simp only at e0 e1 e2 e3 e4 e5 e6 f0 f1 f2 f3 f4 f5 f6 HC
        go_wp2_with fail
        have ge0 := aft_cell hz e0
        have ge1 := aft_cell hz e1
        have ge2 := aft_cell hz e2
        have ge3 := aft_cell hz e3
        have ge4 := aft_cell hz e4
        have ge5 := aft_cell hz e5
        have ge6 := aft_cell hz e6
        have gf0 := aft_cell hz' f0
        have gf1 := aft_cell hz' f1
        have gf2 := aft_cell hz' f2
        have gf3 := aft_cell hz' f3
        have gf4 := aft_cell hz' f4
        have gf5 := aft_cell hz' f5
        have gf6 := aft_cell hz' f6
        have ne := aft_some wr
        refine wp_region_aft (by kernel_rfl) (by kernel_rfl) ?_
        repeat (first | go_big_quiet_step (first | (go_at_call 72; exact aft_of (HC.out _))))
        refine wpQuiet_nil ?_
        intro wq hq
        have HBQ : Hid (Below w.heap.size w wq) := below_step HB.out HB.out.size hq
        clear hq
        go_wp2
        go_ret
        exact ⟨ret_bool HF.out.symm, HBQ.out⟩
    · have hkk : k = n := by omega
      subst hkk
      have HF : Hid (sameB us vs = true) := same_true (by rw [HN.out, HM.out]) (fun i hi => HK.out i (by rw [← HN.out]; exact hi))
      go_wp2
      go_ret
      exact ⟨ret_bool HF.out.symm, HB.out⟩

theorem l02Same_any (b c n m cap cap' : Nat) (us vs : List Wr) (γ δ : Nat → Nat) (w : World) (hn : us.length = n) (hm : vs.length = m) (hn1 : n ≤ 1048576) (hm1 : m ≤ 1048576) (hx : Few us) (hy : Few vs) (hi : HoldsWs w b us γ) (hj : HoldsWs w c vs δ) :
    Calls Tryz.prog 34 #[.slice (some ⟨b, 0, none⟩) n cap, .slice (some ⟨c, 0, none⟩) m cap'] w fun e w' => e = .returned (.bool (sameB us vs)) ∧ Below w.heap.size w w' :=
  l02Same_gen _ _ n m cap cap' us vs w hn hm hn1 hm1 hx hy (hi.isWs hx) (hj.isWs hy)

end Go.Proofs.YtcapahiklphhjaaGreatDoor

/- Maps joined: whichever comes first, the same comes; within is an order. No program in sight. -/
namespace Go.Proofs.YtcapahiklphhjaaGreatDoor

theorem dcmp_zero {d e : Dp} (h : dcmp d e = 0) : d = e := by
  obtain ⟨k, c, s, q⟩ := d
  obtain ⟨k', c', s', q'⟩ := e
  unfold dcmp at h
  simp only at h
  by_cases hk : k = k'
  · rw [if_neg (by simp [hk])] at h
    obtain ⟨rfl, rfl, rfl⟩ := tcmp_zero.1 h
    rw [hk]
  · rw [if_pos hk] at h
    exact absurd (sgn_zero.1 h) hk

theorem depsCmp_zero : ∀ {xs ys : List Dp}, depsCmp xs ys = 0 → xs = ys
  | [], [], _ => rfl
  | [], _ :: _, h => by simp [depsCmp] at h
  | _ :: _, [], h => by simp [depsCmp] at h
  | d :: r, e :: t, h => by
    unfold depsCmp at h
    by_cases hd : dcmp d e = 0
    · rw [if_neg (by simp [hd])] at h
      rw [dcmp_zero hd, depsCmp_zero h]
    · rw [if_pos hd] at h
      exact absurd h hd

theorem cmpW_zero {x y : Wr} (h : cmpW x y = 0) : x = y := by
  obtain ⟨k, c, s, q, v, de, xs⟩ := x
  obtain ⟨k', c', s', q', v', de', ys⟩ := y
  unfold cmpW wcmp at h
  simp only at h
  by_cases h1 : tcmp c s q c' s' q' = 0
  · rw [if_neg (by simp [h1])] at h
    obtain ⟨rfl, rfl, rfl⟩ := tcmp_zero.1 h1
    by_cases h2 : k = k'
    · subst h2
      rw [if_neg (by simp)] at h
      by_cases h3 : v = v'
      · subst h3
        rw [if_neg (by simp)] at h
        by_cases h4 : de = de'
        · subst h4
          rw [if_neg (by simp)] at h
          rw [depsCmp_zero h]
        · rw [if_pos h4] at h
          exact absurd (sgn_zero.1 h) (by cases de <;> cases de' <;> simp [bit] at h4 ⊢)
      · rw [if_pos h3] at h
        exact absurd (sgn_zero.1 h) h3
    · rw [if_pos h2] at h
      exact absurd (sgn_zero.1 h) h2
  · rw [if_pos h1] at h
    exact absurd h h1

theorem cmpW_self (x : Wr) : cmpW x x = 0 := by
  have h := wcmp_neg x.k x.c x.s x.q x.v x.de x.xs x.k x.c x.s x.q x.v x.de x.xs
  unfold cmpW
  omega

theorem same_iff (us vs : List Wr) : sameB us vs = true ↔ us = vs := by
  constructor
  · intro h
    unfold sameB at h
    rw [Bool.and_eq_true, decide_eq_true_eq, List.all_eq_true] at h
    refine List.ext_getElem h.1 fun i h1 h2 => ?_
    have h3 := h.2 i (List.mem_range.2 h1)
    have e1 : us.getD i wz = us[i] := by simp [List.getD, h1]
    have e2 : vs.getD i wz = vs[i] := by simp [List.getD, h2]
    rw [decide_eq_true_eq, e1, e2] at h3
    exact cmpW_zero h3
  · rintro rfl
    exact same_true rfl fun i _ => cmpW_self _

/-- The later of two registers. -/
def later2 (a b : Option Wr) : Option Wr := match b with
  | none => a
  | some y => some (laterO a y)

theorem fold_find : ∀ (b : List Wr) (M : Int → Option Wr), Rise b → ∀ key, b.foldl regPut M key = later2 (M key) (findW b key)
  | [], M, _, key => rfl
  | x :: r, M, h, key => by
    have hp := List.pairwise_cons.1 h
    show r.foldl regPut (regPut M x) key = _
    rw [fold_find r (regPut M x) hp.2 key, findW_cons]
    by_cases hk : x.k = key
    · subst hk
      rw [if_pos rfl, findW_past (fun z hz => hp.1 z hz)]
      show regPut M x x.k = _
      unfold regPut later2
      rw [if_pos rfl]
    · rw [if_neg hk]
      unfold regPut
      rw [if_neg (Ne.symm hk)]

theorem find_join {a b : List Wr} (ha : Rise a) (hb : Rise b) (key : Int) : findW (joinW a b) key = later2 (findW a key) (findW b key) := by
  rw [(join_spec b a ha).2.2 key, fold_find b _ hb]

theorem later_some (x y : Wr) : later2 (some x) (some y) = some (if cmpW x y < 0 then y else x) := rfl

theorem cmpW_turn (x y : Wr) : cmpW y x = -cmpW x y := wcmp_neg ..

theorem later_comm (a b : Option Wr) : later2 a b = later2 b a := by
  cases a with
  | none => cases b <;> rfl
  | some x =>
    cases b with
    | none => rfl
    | some y =>
      rw [later_some, later_some, cmpW_turn x y]
      by_cases h1 : cmpW x y < 0
      · rw [if_pos h1, if_neg (by omega)]
      · rw [if_neg h1]
        by_cases h2 : cmpW x y = 0
        · rw [if_neg (by omega), cmpW_zero h2]
        · rw [if_pos (by omega)]

theorem later_self (a : Option Wr) : later2 a a = a := by
  cases a with
  | none => rfl
  | some x => rw [later_some, if_neg (by rw [cmpW_self]; omega)]

theorem cmpW_three (x y z : Wr) : T3 (cmpW x y) (cmpW y z) (cmpW x z) := wcmp_three ..

theorem later_assoc (a b c : Option Wr) : later2 (later2 a b) c = later2 a (later2 b c) := by
  cases c with
  | none => rfl
  | some z =>
    cases b with
    | none => rfl
    | some y =>
      cases a with
      | none =>
        show later2 (some y) (some z) = later2 none (later2 (some y) (some z))
        rw [later_some]
        rfl
      | some x =>
        rw [later_some x y, later_some y z]
        have t1 := cmpW_three x y z
        have t2 := cmpW_three z y x
        rw [cmpW_turn y z, cmpW_turn x y, cmpW_turn x z] at t2
        by_cases h1 : cmpW x y < 0
        · rw [if_pos h1, later_some]
          by_cases h2 : cmpW y z < 0
          · rw [if_pos h2, later_some, if_pos (t1.n h1 h2)]
          · rw [if_neg h2, later_some, if_pos h1]
        · rw [if_neg h1, later_some]
          by_cases h2 : cmpW y z < 0
          · rw [if_pos h2, later_some]
          · rw [if_neg h2, later_some, if_neg h1]
            by_cases h3 : cmpW x z < 0
            · exfalso
              rcases t2.on (by omega) (by omega) with h4 | h4 <;> omega
            · rw [if_neg h3]

structure OkM (ws : List Wr) : Prop where
  rise : Rise ws
  keys : ∀ x ∈ ws, 0 ≤ x.k ∧ x.k ≤ 5

theorem OkM.join {a b : List Wr} (ha : OkM a) (hb : OkM b) : OkM (joinW a b) where
  rise := (join_spec b a ha.rise).1
  keys := fun x hx => ((join_spec b a ha.rise).2.1 x hx).elim (ha.keys x) (hb.keys x)

theorem OkM.ext {a b : List Wr} (ha : OkM a) (hb : OkM b) (h : ∀ key, findW a key = findW b key) : a = b := by
  rw [← told_find ha.rise ha.keys, ← told_find hb.rise hb.keys, funext h]

theorem join_comm {a b : List Wr} (ha : OkM a) (hb : OkM b) : joinW a b = joinW b a :=
  (ha.join hb).ext (hb.join ha) fun key => by rw [find_join ha.rise hb.rise, find_join hb.rise ha.rise, later_comm]

theorem join_self {a : List Wr} (ha : OkM a) : joinW a a = a :=
  (ha.join ha).ext ha fun key => by rw [find_join ha.rise ha.rise, later_self]

theorem join_assoc {a b c : List Wr} (ha : OkM a) (hb : OkM b) (hc : OkM c) : joinW (joinW a b) c = joinW a (joinW b c) :=
  ((ha.join hb).join hc).ext (ha.join (hb.join hc)) fun key => by
    rw [find_join (ha.join hb).rise hc.rise, find_join ha.rise hb.rise, find_join ha.rise (hb.join hc).rise, find_join hb.rise hc.rise, later_assoc]

theorem okM {ws : List Wr} (h : mapOkB ws = true) : OkM ws := ⟨((mapOk_iff ws).1 h).2, mapOk_keys h⟩

theorem joinB_yes {us vs : List Wr} (h : mapOkB us = true) (h' : mapOkB vs = true) : joinB us vs = joinW us vs := by
  unfold joinB
  exact if_pos ⟨h, h'⟩

theorem within_iff (us vs : List Wr) : withinB us vs = true ↔ mapOkB us = true ∧ mapOkB vs = true ∧ joinW us vs = vs := by
  unfold withinB
  rw [Bool.and_eq_true, Bool.and_eq_true, same_iff]
  constructor
  · rintro ⟨h1, h2, h3⟩
    rw [joinB_yes h1 h2] at h3
    exact ⟨h1, h2, h3⟩
  · rintro ⟨h1, h2, h3⟩
    refine ⟨h1, h2, ?_⟩
    rw [joinB_yes h1 h2]
    exact h3

theorem within_self (us : List Wr) : withinB us us = mapOkB us := by
  cases h : mapOkB us
  · unfold withinB
    rw [h, Bool.false_and]
  · exact (within_iff us us).2 ⟨h, h, join_self (okM h)⟩

theorem within_anti {us vs : List Wr} (h : withinB us vs = true) (h' : withinB vs us = true) : us = vs := by
  obtain ⟨h1, h2, h3⟩ := (within_iff us vs).1 h
  obtain ⟨_, _, h4⟩ := (within_iff vs us).1 h'
  rw [← h3, join_comm (okM h1) (okM h2), h4]

theorem within_join {us vs ws : List Wr} (h : withinB us vs = true) (hw : mapOkB ws = true) : withinB us (joinB vs ws) = true := by
  obtain ⟨h1, h2, h3⟩ := (within_iff us vs).1 h
  refine (within_iff us _).2 ⟨h1, joinB_mapOk _ _, ?_⟩
  rw [joinB_yes h2 hw, ← join_assoc (okM h1) (okM h2) (okM hw), h3]

/-- What FnWithin asks. -/
theorem within_law (us vs ws : List Wr) : (withinB us vs = true → withinB vs us = true → sameB us vs = true) ∧ (withinB us vs = true → mapOkB ws = true → withinB us (joinB vs ws) = true) :=
  ⟨fun h h' => (same_iff _ _).2 (within_anti h h'), fun h h' => within_join h h'⟩

end Go.Proofs.YtcapahiklphhjaaGreatDoor

/- Which shims are right; the contracts of spec.ShimOk and impl.ShimOk. -/
namespace Go.Proofs.YtcapahiklphhjaaGreatDoor
open Go.ChangeShapes Go.WideShapes Go.ChangeAt Go.RowKit Go.Joins
attribute [local go_sem ↓] Go.wp_at_zero Go.wp_at_succ

/-- Whether a shim is right. -/
noncomputable def smOkB (x : Sm) : Bool := btw x.si 0 3 && cutB x.ws && decide (x.t.size ≤ 60000) && btw x.cl 0 100000 && sameB (backX x.si x.t).ws x.ws && decide ((backX x.si x.t).t = x.t) && decide ((backX x.si x.t).sq = x.sq) && decide ((backX x.si x.t).la = x.la) && decide ((backX x.si x.t).cl ≤ x.cl)

theorem clock_nonneg (ws : List Wr) : 0 ≤ clockL ws := by
  have h : ∀ (ws : List Wr) (n : Int), 0 ≤ n → 0 ≤ ws.foldl (fun n x => max n x.c) n := by
    intro ws
    induction ws with
    | nil => exact fun n h => h
    | cons x r ih => exact fun n h => ih _ (by show 0 ≤ max n x.c; omega)
  exact h ws 0 (Int.le_refl 0)

theorem backX_cl (si : Int) (s : ByteArray) : 0 ≤ (backX si s).cl := by
  unfold backX
  split
  · exact clock_nonneg _
  · exact Int.le_refl 0

theorem bytes_beq (a b : ByteArray) : (a.toList == b.toList) = decide (a = b) := by
  rw [Bool.eq_iff_iff, decide_eq_true_iff, beq_iff_eq, ByteArray.toList_eq, ByteArray.toList_eq]
  constructor
  · intro h
    cases a with
    | mk d =>
      cases b with
      | mk d' => exact congrArg ByteArray.mk (Array.toList_inj.1 h)
  · rintro rfl
    rfl

set_option maxRecDepth 100000 in
set_option maxHeartbeats 8000000 in
theorem specOk_x (x : Sm) (a : Option Addr) (cap : Nat) (w : World) (hn : x.ws.length ≤ 1048576) (hx : Few x.ws) (ht : x.t.size ≤ 1048576) (h : IsWs w a x.ws) :
    Calls Tryz.prog 9 #[smV x a cap] w fun e w' => e = .returned (.bool (smOkB x)) ∧ Below w.heap.size w w' := by
  obtain ⟨si, cl, sq, la, ws, t⟩ := x
  simp only at hn hx ht h
  have H := Lib.hid h
  have HX := Lib.hid hx
  clear h hx
  unfold smV
  simp only
  obtain ⟨n, hnn⟩ : ∃ n, ws.length = n := ⟨_, rfl⟩
  rw [hnn] at hn ⊢
  have HN := Lib.hid hnn
  clear hnn
  have HB0 : Hid (Below w.heap.size w (w.alloc (.cells #[.int .i64 si, .int .i64 cl, .int .i64 sq, .int .i64 la, .slice a n cap, .string t] 29))) := (Below.refl _ _).alloc (Nat.le_refl _) _
  have HS0 := Lib.hid (SBox.start w si cl sq la a n cap t 29)
  obtain ⟨r, hr⟩ : ∃ r, r = smOkB ⟨si, cl, sq, la, ws, t⟩ := ⟨_, rfl⟩
  rw [← hr]
  unfold smOkB at hr
  simp only at hr
  have HR := Lib.hid hr
  clear hr
  unfold shV
  go_enter Tryz.func9, Tryz.ntmps9
  go_wp2_with fail
  generalize w.alloc (.cells #[.int .i64 si, .int .i64 cl, .int .i64 sq, .int .i64 la, .slice a n cap, .string t] 29) = W0 at *
  refine (site_any si _).mono ?_
  rintro e w1 ⟨rfl, hw⟩
  subst w1
  cases h1 : btw si 0 3
  · have HF : Hid (r = false) := by rw [HR.out, h1]; exact Lib.hid (by simp)
    clear h1 HR
    go_wp2
    go_ret
    exact ⟨by rw [HF.out]; rfl, HB0.out⟩
  rw [h1] at HR
  obtain ⟨-, x0, x1, x2, x3, x4, x5, -⟩ := HS0.out
  go_wp2_with fail
  refine (specIsCut_any a n cap ws _ HN.out hn HX.out (H.out.below HB0.out)).mono ?_
  rintro e w2 ⟨rfl, hb⟩
  have HB2 := Lib.hid (below_step HB0.out HB0.out.size hb)
  have HS2 := Lib.hid (HS0.out.below hb)
  clear hb HB0 HS0 x0 x1 x2 x3 x4 x5
  obtain ⟨-, x0, x1, x2, x3, x4, x5, -⟩ := HS2.out
  cases h2 : cutB ws
  · have HF : Hid (r = false) := by rw [HR.out, h2]; exact Lib.hid (by simp)
    clear h2 HR
    go_wp2
    go_ret
    exact ⟨by rw [HF.out]; rfl, HB2.out⟩
  rw [h2] at HR
  by_cases h3 : t.size ≤ 60000
  rotate_left
  · have HF : Hid (r = false) := by rw [HR.out, decide_eq_false h3]; exact Lib.hid (by simp)
    have h3' : (60000 : Int) < (t.size : Int) := by omega
    clear HR
    go_wp2
    go_ret
    exact ⟨by rw [HF.out]; rfl, HB2.out⟩
  rw [decide_eq_true h3] at HR
  have h3' : ¬ (60000 : Int) < (t.size : Int) := by omega
  go_wp2_with fail
  refine (between_any _ _ _ _).mono ?_
  rintro e w3 ⟨rfl, hw⟩
  subst w3
  cases h4 : btw cl 0 100000
  · have HF : Hid (r = false) := by rw [HR.out, h4]; exact Lib.hid (by simp)
    clear h4 HR
    go_wp2
    go_ret
    exact ⟨by rw [HF.out]; rfl, HB2.out⟩
  rw [h4] at HR
  go_wp2_with fail
  refine (specBack_x si t _ ht).mono ?_
  rintro e w4 ⟨ba, bc, rfl, hw, hb⟩
  have HB4 := Lib.hid (below_step HB2.out HB2.out.size hb)
  have HS4 := Lib.hid (HS2.out.below hb)
  have HW4 := Lib.hid hw
  have HOK := Lib.hid (backX_ok si t)
  obtain ⟨B, hB⟩ : ∃ B, B = backX si t := ⟨_, rfl⟩
  rw [← hB] at HR HW4 HOK
  rw [← hB]
  clear hb hw HB2 HS2 hB x0 x1 x2 x3 x4 x5
  have hb6 : B.ws.length ≤ 6 := mapOk_len HOK.out
  have HBF := Lib.hid (ok_few HOK.out)
  obtain ⟨bsi, bcl, bsq, bla, bws, bt⟩ := B
  simp only at HR HW4 HOK hb6 HBF
  unfold smV shV
  simp only
  obtain ⟨bn, hbn⟩ : ∃ bn, bws.length = bn := ⟨_, rfl⟩
  rw [hbn] at hb6 ⊢
  have HBN := Lib.hid hbn
  clear hbn
  have HA : Hid (Below w4.heap.size w4 (w4.alloc (.cells #[.int .i64 bsi, .int .i64 bcl, .int .i64 bsq, .int .i64 bla, .slice ba bn bc, .string bt] 29))) := (Below.refl _ _).alloc (Nat.le_refl _) _
  have HS5 := Lib.hid (SBox.start w4 bsi bcl bsq bla ba bn bc bt 29)
  have HS4' := Lib.hid (HS4.out.below HA.out)
  have HB5 := Lib.hid (below_step HB4.out HB4.out.size HA.out)
  have HW5 := Lib.hid (HW4.out.below HA.out)
  obtain ⟨-, x0, x1, x2, x3, x4, x5, -⟩ := HS4'.out
  obtain ⟨-, y0, y1, y2, y3, y4, y5, -⟩ := HS5.out
  go_wp2_with fail
  generalize (w4.alloc (.cells #[.int .i64 bsi, .int .i64 bcl, .int .i64 bsq, .int .i64 bla, .slice ba bn bc, .string bt] 29)) = V4 at *
  refine (l02Same_gen ba a bn n bc cap bws ws _ HBN.out HN.out (by omega) hn HBF.out HX.out HW5.out (H.out.below HB5.out)).mono ?_
  rintro e w6 ⟨rfl, hb⟩
  have HB6 := Lib.hid (below_step HB5.out HB5.out.size hb)
  have HS6 := Lib.hid (HS4'.out.below hb)
  have HS7 := Lib.hid (HS5.out.below hb)
  clear hb x0 x1 x2 x3 x4 x5 y0 y1 y2 y3 y4 y5 HB5 HS5 HS4' HB4 HS4 HA
  obtain ⟨-, x0, x1, x2, x3, x4, x5, -⟩ := HS6.out
  obtain ⟨-, y0, y1, y2, y3, y4, y5, -⟩ := HS7.out
  have hbe : ∀ p q : ByteArray, (p.toList == q.toList) = decide (p = q) := bytes_beq
  cases h5 : sameB bws ws
  · have HF : Hid (r = false) := by rw [HR.out, h5]; exact Lib.hid (by simp)
    clear h5 HR
    go_wp2
    go_ret
    exact ⟨by rw [HF.out]; rfl, HB6.out⟩
  rw [h5] at HR
  by_cases h6 : bt = t
  rotate_left
  · have HF : Hid (r = false) := by rw [HR.out, decide_eq_false h6]; exact Lib.hid (by simp)
    have h6' : (bt.toList == t.toList) = false := by rw [hbe]; exact decide_eq_false h6
    clear HR h6 hbe
    go_wp2
    go_ret
    exact ⟨by rw [HF.out]; rfl, HB6.out⟩
  subst h6
  by_cases h7 : bsq = sq
  rotate_left
  · have HF : Hid (r = false) := by rw [HR.out, decide_eq_false h7]; exact Lib.hid (by simp)
    clear HR hbe
    go_wp2
    go_ret
    exact ⟨by rw [HF.out]; rfl, HB6.out⟩
  subst h7
  by_cases h8 : bla = la
  rotate_left
  · have HF : Hid (r = false) := by rw [HR.out, decide_eq_false h8]; exact Lib.hid (by simp)
    clear HR hbe
    go_wp2
    go_ret
    exact ⟨by rw [HF.out]; rfl, HB6.out⟩
  subst h8
  have HF : Hid (r = decide (bcl ≤ cl)) := by rw [HR.out]; exact Lib.hid (by simp)
  clear HR hbe
  go_wp2
  go_ret
  exact ⟨by rw [HF.out]; rfl, HB6.out⟩

end Go.Proofs.YtcapahiklphhjaaGreatDoor

/- The contract of impl.ShimOk. -/
namespace Go.Proofs.YtcapahiklphhjaaGreatDoor
open Go.ChangeShapes Go.WideShapes Go.ChangeAt Go.RowKit Go.Joins
attribute [local go_sem ↓] Go.wp_at_zero Go.wp_at_succ

set_option maxRecDepth 100000 in
set_option maxHeartbeats 8000000 in
theorem implOk_x (x : Sm) (a : Option Addr) (cap : Nat) (w : World) (hn : x.ws.length ≤ 1048576) (hx : Few x.ws) (ht : x.t.size ≤ 1048576) (h : IsWs w a x.ws) (hL : LV w) :
    Calls Tryz.prog 11 #[smV x a cap] w fun e w' => e = .returned (.bool (smOkB x)) ∧ Below w.heap.size w w' := by
  obtain ⟨si, cl, sq, la, ws, t⟩ := x
  simp only at hn hx ht h
  have H := Lib.hid h
  have HL := Lib.hid hL
  clear hL
  have HX := Lib.hid hx
  clear h hx
  unfold smV
  simp only
  obtain ⟨n, hnn⟩ : ∃ n, ws.length = n := ⟨_, rfl⟩
  rw [hnn] at hn ⊢
  have HN := Lib.hid hnn
  clear hnn
  have HB0 : Hid (Below w.heap.size w (w.alloc (.cells #[.int .i64 si, .int .i64 cl, .int .i64 sq, .int .i64 la, .slice a n cap, .string t] 29))) := (Below.refl _ _).alloc (Nat.le_refl _) _
  have HS0 := Lib.hid (SBox.start w si cl sq la a n cap t 29)
  obtain ⟨r, hr⟩ : ∃ r, r = smOkB ⟨si, cl, sq, la, ws, t⟩ := ⟨_, rfl⟩
  rw [← hr]
  unfold smOkB at hr
  simp only at hr
  have HR := Lib.hid hr
  clear hr
  unfold shV
  go_enter Tryz.func11, Tryz.ntmps11
  go_wp2_with fail
  generalize w.alloc (.cells #[.int .i64 si, .int .i64 cl, .int .i64 sq, .int .i64 la, .slice a n cap, .string t] 29) = W0 at *
  refine (siteOk_any si _).mono ?_
  rintro e w1 ⟨rfl, hw⟩
  subst w1
  obtain ⟨-, x0, x1, x2, x3, x4, x5, -⟩ := HS0.out
  cases h1 : btw si 0 3
  · have HF : Hid (r = false) := by rw [HR.out, h1]; exact Lib.hid (by simp)
    clear h1 HR
    go_wp2
    go_ret
    exact ⟨by rw [HF.out]; rfl, HB0.out⟩
  rw [h1] at HR
  by_cases h4 : cl ≤ 100000
  rotate_left
  · have hb4 : btw cl 0 100000 = false := by unfold btw; simp; omega
    have HF : Hid (r = false) := by rw [HR.out, hb4]; exact Lib.hid (by simp)
    have h4' : (100000 : Int) < cl := by omega
    clear HR hb4 h1
    go_wp2
    go_ret
    exact ⟨by rw [HF.out]; rfl, HB0.out⟩
  have h4' : ¬ (100000 : Int) < cl := by omega
  by_cases h3 : t.size ≤ 60000
  rotate_left
  · have HF : Hid (r = false) := by rw [HR.out, decide_eq_false h3]; exact Lib.hid (by simp)
    have h3' : (60000 : Int) < (t.size : Int) := by omega
    clear HR h1
    go_wp2
    go_ret
    exact ⟨by rw [HF.out]; rfl, HB0.out⟩
  rw [decide_eq_true h3] at HR
  have h3' : ¬ (60000 : Int) < (t.size : Int) := by omega
  go_wp2_with fail
  refine (implIsCut_any a n cap ws _ HN.out hn HX.out (H.out.below HB0.out)).mono ?_
  rintro e w2 ⟨rfl, hb⟩
  have HB2 := Lib.hid (below_step HB0.out HB0.out.size hb)
  have HS2 := Lib.hid (HS0.out.below hb)
  clear hb HB0 HS0 x0 x1 x2 x3 x4 x5
  obtain ⟨-, x0, x1, x2, x3, x4, x5, -⟩ := HS2.out
  cases h2 : cutB ws
  · have HF : Hid (r = false) := by rw [HR.out, h2]; exact Lib.hid (by simp)
    clear h2 HR
    go_wp2
    go_ret
    exact ⟨by rw [HF.out]; rfl, HB2.out⟩
  rw [h2] at HR
  have HLV := Lib.hid (HL.out.below HB2.out)
  go_wp2_with fail
  refine (implBack_x si t _ ht HLV.out).mono ?_
  rintro e w4 ⟨ba, bc, γ, rfl, hw, hb⟩
  have HB4 := Lib.hid (below_step HB2.out HB2.out.size hb)
  have HS4 := Lib.hid (HS2.out.below hb)
  have HOK := Lib.hid (backX_ok si t)
  have HW4 := Lib.hid (hw.isWs (ok_few HOK.out))
  have hc0 := backX_cl si t
  obtain ⟨B, hB⟩ : ∃ B, B = backX si t := ⟨_, rfl⟩
  rw [← hB] at HR HW4 HOK hc0
  rw [← hB]
  clear hb hw HB2 HS2 hB x0 x1 x2 x3 x4 x5 HLV
  have hb6 : B.ws.length ≤ 6 := mapOk_len HOK.out
  have HBF := Lib.hid (ok_few HOK.out)
  obtain ⟨bsi, bcl, bsq, bla, bws, bt⟩ := B
  simp only at HR HW4 HOK hb6 HBF hc0
  unfold smV shV
  simp only
  obtain ⟨bn, hbn⟩ : ∃ bn, bws.length = bn := ⟨_, rfl⟩
  rw [hbn] at hb6 ⊢
  have HBN := Lib.hid hbn
  clear hbn
  have HA : Hid (Below w4.heap.size w4 (w4.alloc (.cells #[.int .i64 bsi, .int .i64 bcl, .int .i64 bsq, .int .i64 bla, .slice ba bn bc, .string bt] 29))) := (Below.refl _ _).alloc (Nat.le_refl _) _
  have HS5 := Lib.hid (SBox.start w4 bsi bcl bsq bla ba bn bc bt 29)
  have HS4' := Lib.hid (HS4.out.below HA.out)
  have HB5 := Lib.hid (below_step HB4.out HB4.out.size HA.out)
  have HW5 := Lib.hid (HW4.out.below HA.out)
  obtain ⟨-, x0, x1, x2, x3, x4, x5, -⟩ := HS4'.out
  obtain ⟨-, y0, y1, y2, y3, y4, y5, -⟩ := HS5.out
  have hbe : ∀ p q : ByteArray, (p.toList == q.toList) = decide (p = q) := bytes_beq
  by_cases h9 : bcl ≤ cl
  rotate_left
  · have HF : Hid (r = false) := by rw [HR.out, decide_eq_false h9]; exact Lib.hid (by simp)
    clear HR hbe
    go_wp2
    go_ret
    exact ⟨by rw [HF.out]; rfl, HB5.out⟩
  have hb4 : btw cl 0 100000 = true := by unfold btw; simp; omega
  rw [hb4, decide_eq_true h9] at HR
  clear hb4
  by_cases h7 : bsq = sq
  rotate_left
  · have HF : Hid (r = false) := by rw [HR.out, decide_eq_false h7]; exact Lib.hid (by simp)
    clear HR hbe
    go_wp2
    go_ret
    exact ⟨by rw [HF.out]; rfl, HB5.out⟩
  subst h7
  by_cases h8 : bla = la
  rotate_left
  · have HF : Hid (r = false) := by rw [HR.out, decide_eq_false h8]; exact Lib.hid (by simp)
    clear HR hbe
    go_wp2
    go_ret
    exact ⟨by rw [HF.out]; rfl, HB5.out⟩
  subst h8
  by_cases h6 : bt = t
  rotate_left
  · have HF : Hid (r = false) := by rw [HR.out, decide_eq_false h6]; exact Lib.hid (by simp)
    have h6' : (bt.toList == t.toList) = false := by rw [hbe]; exact decide_eq_false h6
    clear HR h6 hbe
    go_wp2
    go_ret
    exact ⟨by rw [HF.out]; rfl, HB5.out⟩
  subst h6
  have HF : Hid (r = sameB bws ws) := by rw [HR.out]; exact Lib.hid (by simp)
  clear HR hbe
  go_wp2_with fail
  generalize (w4.alloc (.cells #[.int .i64 bsi, .int .i64 bcl, .int .i64 bsq, .int .i64 bla, .slice ba bn bc, .string bt] 29)) = V4 at *
  refine (equalFunc_any ba a bn n bc cap bws ws _ HBN.out HN.out (by omega) hn HBF.out HX.out HW5.out (H.out.below HB5.out)).mono ?_
  rintro e w6 ⟨rfl, hb⟩
  have HB6 := Lib.hid (below_step HB5.out HB5.out.size hb)
  clear hb x0 x1 x2 x3 x4 x5 y0 y1 y2 y3 y4 y5
  go_wp2
  go_ret
  exact ⟨by rw [HF.out]; rfl, HB6.out⟩

end Go.Proofs.YtcapahiklphhjaaGreatDoor
