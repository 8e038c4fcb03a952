import Derived.Test.YtbbmpfkijhhemaaGreatDoorPack11
import Derived.Test.YtbbmpfkijhhemaaGreatDoorPack17
import Derived.Test.YtbbmpfkijhhemaaGreatDoorPack7
import Derived.Test.YtbbmpfkijhhemaaGreatDoorPack1
import Derived.Test.YtbbmpfkijhhemaaGreatDoorPack12
import Derived.Test.YtbbmpfkijhhemaaGreatDoorPack6
import Derived.Test.YtbbmpfkijhhemaaGreatDoorPack2
import Derived.Test.YtbbmpfkijhhemaaGreatDoorPack5
namespace Go.Proofs.YtbbmpfkijhhemaaGreatDoor
open Go.ChangeShapes Go.WideShapes Go.ChangeAt Go.RowKit Go.Joins
attribute [local go_sem ↓] Go.wp_at_zero Go.wp_at_succ

def sameB (us vs : List Wr) : Bool := decide (us.length = vs.length) && (List.range us.length).all fun i => decide (cmpW (us.getD i wz) (vs.getD i wz) = 0)

theorem same_len {us vs : List Wr} (h : us.length ≠ vs.length) : sameB us vs = false := by
  unfold sameB
  rw [decide_eq_false h, Bool.false_and]

theorem same_false {us vs : List Wr} {i : Nat} (hi : i < us.length) (h : cmpW (us.getD i wz) (vs.getD i wz) ≠ 0) : sameB us vs = false := by
  unfold sameB
  rw [Bool.and_eq_false_iff]
  refine .inr ?_
  rw [List.all_eq_false]
  exact ⟨i, List.mem_range.2 hi, by simpa using h⟩

theorem same_true {us vs : List Wr} (hl : us.length = vs.length) (h : ∀ i, i < us.length → cmpW (us.getD i wz) (vs.getD i wz) = 0) : sameB us vs = true := by
  unfold sameB
  rw [decide_eq_true hl, Bool.true_and, List.all_eq_true]
  intro i hi
  exact decide_eq_true (h i (List.mem_range.1 hi))

set_option maxHeartbeats 1000000 in
theorem sameWrite_any (x y : Wr) (a a' : Option Addr) (cp cp' : Nat) (w : World) (hn : x.xs.length ≤ 1048576) (hm : y.xs.length ≤ 1048576) (hh : IsDeps w a x.xs) (hh' : IsDeps w a' y.xs) :
    Calls Tryz.prog 59 #[wrOf x a cp, wrOf y a' cp'] w fun e w' => e = .returned (.bool (cmpW x y == 0)) ∧ Below w.heap.size w w' := by
  obtain ⟨xk, xc, xs', xq, xv, xd, xx⟩ := x
  obtain ⟨yk, yc, ys, yq, yv, yd, yy⟩ := y
  have HB : Hid (Below w.heap.size w ((w.alloc (.cells #[.int .i64 xk, .int .i64 xc, .int .i64 xs', .int .i64 xq, .int .i64 xv, .bool xd, .slice a xx.length cp] 33)).alloc (.cells #[.int .i64 yk, .int .i64 yc, .int .i64 ys, .int .i64 yq, .int .i64 yv, .bool yd, .slice a' yy.length cp'] 33))) := ((Below.refl _ _).alloc (Nat.le_refl _) _).alloc (by simp) _
  have HI := Lib.hid (hh.below HB.out)
  have HJ := Lib.hid (hh'.below HB.out)
  clear hh hh'
  go_enter Tryz.func59, Tryz.ntmps59
  go_wp2_with fail
  refine (implWriteCmp_gen xk xc xs' xq xv xd a xx _ cp yk yc ys yq yv yd a' yy _ cp' _ rfl rfl hn hm HI.out HJ.out).mono ?_
  rintro e w1 ⟨rfl, hb⟩
  have HB1 := Lib.hid (below_step HB.out HB.out.size hb)
  clear hb
  go_wp2
  go_ret
  exact ⟨rfl, HB1.out⟩

set_option maxHeartbeats 4000000 in
theorem equalFunc_any (a b : Option Addr) (n m cap cap' : Nat) (us vs : List Wr) (w : World) (hn : us.length = n) (hm : vs.length = m) (hn1 : n ≤ 1048576) (hm1 : m ≤ 1048576) (hx : Few us) (hy : Few vs) (hi : IsWs w a us) (hj : IsWs w b vs) :
    Calls Tryz.prog 58 #[.slice a n cap, .slice b m cap', .func (.func 59) #[] #[]] w fun e w' => e = .returned (.bool (sameB us vs)) ∧ Below w.heap.size w w' := by
  have HI : Hid (IsWs w a us) := hi
  have HJ : Hid (IsWs w b vs) := hj
  have HN : Hid (us.length = n) := hn
  have HM : Hid (vs.length = m) := hm
  have HX : Hid (Few us) := hx
  have HY : Hid (Few vs) := hy
  clear hi hj hn hm hx hy
  by_cases hnm : n = m
  case neg =>
    have HF : Hid (sameB us vs = false) := same_len (by rw [HN.out, HM.out]; exact hnm)
    have hb : ((n : Int) != (m : Int)) = true := by rw [bne_iff_ne]; omega
    go_enter Tryz.func58, Tryz.ntmps58
    go_wp2
    go_ret
    exact ⟨ret_bool HF.out.symm, Below.refl _ _⟩
  subst hnm
  go_enter Tryz.func58, Tryz.ntmps58
  go_wp2
  go_loopw [17] (fun i wr => ∃ k : Nat, k ≤ n ∧ i = .int .i64 k ∧ Hid (∀ j, j < k → cmpW (us.getD j wz) (vs.getD j wz) = 0) ∧ Hid (Below w.heap.size w wr)) (fun i _ => n - (intOf i).toNat)
  case atStart => exact ⟨0, Nat.zero_le _, rfl, fun j hj => absurd hj (Nat.not_lt_zero j), Below.refl _ _⟩
  case round =>
    obtain ⟨k, hk, rfl, HK, HB⟩ := hrel
    by_cases hk' : k < n
    · obtain ⟨b1, o1, ad, cp, rfl, hz, ⟨e0, e1, e2, e3, e4, e5, e6⟩, hd⟩ := HI.out.at HB.out HN.out hk'
      obtain ⟨b2, o2, ad', cp', rfl, hz', ⟨f0, f1, f2, f3, f4, f5, f6⟩, hd'⟩ := HJ.out.at HB.out HM.out hk'
      have i1 : (0 : Int) ≤ (k : Int) := by omega
      have i2 : (k : Int) < (n : Int) := by omega
      have HS : Hid (∀ W, Below wr.heap.size wr W → Calls Tryz.prog 59 #[wrOf (us.getD k wz) ad cp, wrOf (vs.getD k wz) ad' cp'] W fun e w' => e = .returned (.bool (cmpW (us.getD k wz) (vs.getD k wz) == 0)) ∧ Below W.heap.size W w') := fun W hW =>
        sameWrite_any _ _ ad ad' cp cp' W (HX.out k (by rw [HN.out]; exact hk')) (HY.out k (by rw [HM.out]; exact hk')) (hd.below hW) (hd'.below hW)
      have HE : Hid (cmpW (us.getD k wz) (vs.getD k wz) ≠ 0 → sameB us vs = false) := fun h => same_false (by rw [HN.out]; exact hk') h
      have HK' : Hid (cmpW (us.getD k wz) (vs.getD k wz) = 0 → ∀ j, j < k + 1 → cmpW (us.getD j wz) (vs.getD j wz) = 0) := fun h j hj => by
        by_cases h' : j < k
        · exact HK.out j h'
        · have : j = k := by omega
          rw [this]
          exact h
      clear hd hd' HI HJ
      by_cases hc : cmpW (us.getD k wz) (vs.getD k wz) = 0
      · have HK2 := Lib.hid (HK'.out hc)
        have hcb : (cmpW (us.getD k wz) (vs.getD k wz) == 0) = true := by simpa using hc
        rw [hcb] at HS
        clear hc hcb HE HK'
        generalize us.getD k wz = x at *
        generalize vs.getD k wz = y at *
        obtain ⟨xk, xc, xs', xq, xv, xd, xx⟩ := x
        obtain ⟨yk, yc, ys, yq, yv, yd, yy⟩ := y
        simp only at e0 e1 e2 e3 e4 e5 e6 f0 f1 f2 f3 f4 f5 f6 HS
        go_wp2_with fail
        refine (HS.out _ (((Below.refl _ _).alloc (Nat.le_refl _) _).alloc (by simp) _)).mono ?_
        rintro e w2 ⟨rfl, hb⟩
        have HB2 : Hid (Below w.heap.size w w2) := below_step HB.out HB.out.size (below_step (((Below.refl _ _).alloc (Nat.le_refl _) _).alloc (by simp) _) (by simp; omega) hb)
        clear hb
        go_wp2
        exact ⟨⟨k + 1, by omega, by go_num, HK2, HB2⟩, by simp [intOf]; omega⟩
      · have HF := Lib.hid (HE.out hc)
        have hcb : (cmpW (us.getD k wz) (vs.getD k wz) == 0) = false := by simpa using hc
        rw [hcb] at HS
        clear hc hcb HE HK'
        generalize us.getD k wz = x at *
        generalize vs.getD k wz = y at *
        obtain ⟨xk, xc, xs', xq, xv, xd, xx⟩ := x
        obtain ⟨yk, yc, ys, yq, yv, yd, yy⟩ := y
        simp only at e0 e1 e2 e3 e4 e5 e6 f0 f1 f2 f3 f4 f5 f6 HS
        go_wp2_with fail
        refine (HS.out _ (((Below.refl _ _).alloc (Nat.le_refl _) _).alloc (by simp) _)).mono ?_
        rintro e w2 ⟨rfl, hb⟩
        have HB2 : Hid (Below w.heap.size w w2) := below_step HB.out HB.out.size (below_step (((Below.refl _ _).alloc (Nat.le_refl _) _).alloc (by simp) _) (by simp; omega) hb)
        clear hb
        go_wp2
        go_ret
        exact ⟨ret_bool HF.out.symm, HB2.out⟩
    · have hkk : k = n := by omega
      subst hkk
      have HF : Hid (sameB us vs = true) := same_true (by rw [HN.out, HM.out]) (fun i hi => HK.out i (by rw [← HN.out]; exact hi))
      go_wp2
      go_ret
      exact ⟨ret_bool HF.out.symm, HB.out⟩

set_option maxHeartbeats 4000000 in
theorem l02Same_gen (a b : Option Addr) (n m cap cap' : Nat) (us vs : List Wr) (w : World) (hn : us.length = n) (hm : vs.length = m) (hn1 : n ≤ 1048576) (hm1 : m ≤ 1048576) (hx : Few us) (hy : Few vs) (hi : IsWs w a us) (hj : IsWs w b vs) :
    Calls Tryz.prog 83 #[.slice a n cap, .slice b m cap'] w fun e w' => e = .returned (.bool (sameB us vs)) ∧ Below w.heap.size w w' := by
  have HI : Hid (IsWs w a us) := hi
  have HJ : Hid (IsWs w b vs) := hj
  have HN : Hid (us.length = n) := hn
  have HM : Hid (vs.length = m) := hm
  have HX : Hid (Few us) := hx
  have HY : Hid (Few vs) := hy
  clear hi hj hn hm hx hy
  by_cases hnm : n = m
  case neg =>
    have HF : Hid (sameB us vs = false) := same_len (by rw [HN.out, HM.out]; exact hnm)
    have hb : ((n : Int) != (m : Int)) = true := by rw [bne_iff_ne]; omega
    go_enter Tryz.func83, Tryz.ntmps83
    go_wp2
    go_ret
    exact ⟨ret_bool HF.out.symm, Below.refl _ _⟩
  subst hnm
  go_enter Tryz.func83, Tryz.ntmps83
  go_wp2
  go_loopw [5] (fun i wr => ∃ k : Nat, k ≤ n ∧ i = .int .i64 k ∧ Hid (∀ j, j < k → cmpW (us.getD j wz) (vs.getD j wz) = 0) ∧ Hid (Below w.heap.size w wr)) (fun i _ => n - (intOf i).toNat)
  case atStart => exact ⟨0, Nat.zero_le _, rfl, fun j hj => absurd hj (Nat.not_lt_zero j), Below.refl _ _⟩
  case round =>
    obtain ⟨k, hk, rfl, HK, HB⟩ := hrel
    by_cases hk' : k < n
    · obtain ⟨b1, o1, ad, cp, rfl, hz, ⟨e0, e1, e2, e3, e4, e5, e6⟩, hd⟩ := HI.out.at HB.out HN.out hk'
      obtain ⟨b2, o2, ad', cp', rfl, hz', ⟨f0, f1, f2, f3, f4, f5, f6⟩, hd'⟩ := HJ.out.at HB.out HM.out hk'
      have i1 : (0 : Int) ≤ (k : Int) := by omega
      have i2 : (k : Int) < (n : Int) := by omega
      have HC : Hid (∀ p : Aft wr.heap.size wr, Calls Tryz.prog 12 #[wrOf (us.getD k wz) ad cp, wrOf (vs.getD k wz) ad' cp'] p.now fun e w' => e = .returned (.int .i64 (cmpW (us.getD k wz) (vs.getD k wz))) ∧ Below p.now.heap.size p.now w') := fun p =>
        specWriteCmp_gen _ _ _ _ _ _ _ (us.getD k wz).xs _ _ _ _ _ _ _ _ _ (vs.getD k wz).xs _ _ _ rfl rfl (HX.out k (by rw [HN.out]; exact hk')) (HY.out k (by rw [HM.out]; exact hk')) (hd.below p.below) (hd'.below p.below)
      have HE : Hid (cmpW (us.getD k wz) (vs.getD k wz) ≠ 0 → sameB us vs = false) := fun h => same_false (by rw [HN.out]; exact hk') h
      have HK' : Hid (cmpW (us.getD k wz) (vs.getD k wz) = 0 → ∀ j, j < k + 1 → cmpW (us.getD j wz) (vs.getD j wz) = 0) := fun h j hj => by
        by_cases h' : j < k
        · exact HK.out j h'
        · have : j = k := by omega
          rw [this]
          exact h
      clear hd hd' HI HJ
      by_cases hc : cmpW (us.getD k wz) (vs.getD k wz) = 0
      · have HK2 := Lib.hid (HK'.out hc)
        rw [hc] at HC
        clear hc HE HK'
        generalize us.getD k wz = x at *
        generalize vs.getD k wz = y at *
        obtain ⟨xk, xc, xs', xq, xv, xd, xx⟩ := x
        obtain ⟨yk, yc, ys, yq, yv, yd, yy⟩ := y
        simp only at e0 e1 e2 e3 e4 e5 e6 f0 f1 f2 f3 f4 f5 f6 HC
        go_wp2_with fail
        have ge0 := aft_cell hz e0
        have ge1 := aft_cell hz e1
        have ge2 := aft_cell hz e2
        have ge3 := aft_cell hz e3
        have ge4 := aft_cell hz e4
        have ge5 := aft_cell hz e5
        have ge6 := aft_cell hz e6
        have gf0 := aft_cell hz' f0
        have gf1 := aft_cell hz' f1
        have gf2 := aft_cell hz' f2
        have gf3 := aft_cell hz' f3
        have gf4 := aft_cell hz' f4
        have gf5 := aft_cell hz' f5
        have gf6 := aft_cell hz' f6
        have ne := aft_some wr
        refine wp_region_aft (by kernel_rfl) (by kernel_rfl) ?_
        repeat (first | go_big_quiet_step (first | (go_at_call 12; exact aft_of (HC.out _))))
        refine wpQuiet_nil ?_
        intro wq hq
        have HBQ : Hid (Below w.heap.size w wq) := below_step HB.out HB.out.size hq
        clear hq
        go_wp2
        exact ⟨⟨k + 1, by omega, by go_num, HK2, HBQ⟩, by simp [intOf]; omega⟩
      · have HF := Lib.hid (HE.out hc)
        have hcb : (cmpW (us.getD k wz) (vs.getD k wz) != 0) = true := by rw [bne_iff_ne]; exact hc
        clear hc HE HK'
        generalize cmpW (us.getD k wz) (vs.getD k wz) = z at *
        generalize us.getD k wz = x at *
        generalize vs.getD k wz = y at *
        obtain ⟨xk, xc, xs', xq, xv, xd, xx⟩ := x
        obtain ⟨yk, yc, ys, yq, yv, yd, yy⟩ := y
        simp only at e0 e1 e2 e3 e4 e5 e6 f0 f1 f2 f3 f4 f5 f6 HC
        go_wp2_with fail
        have ge0 := aft_cell hz e0
        have ge1 := aft_cell hz e1
        have ge2 := aft_cell hz e2
        have ge3 := aft_cell hz e3
        have ge4 := aft_cell hz e4
        have ge5 := aft_cell hz e5
        have ge6 := aft_cell hz e6
        have gf0 := aft_cell hz' f0
        have gf1 := aft_cell hz' f1
        have gf2 := aft_cell hz' f2
        have gf3 := aft_cell hz' f3
        have gf4 := aft_cell hz' f4
        have gf5 := aft_cell hz' f5
        have gf6 := aft_cell hz' f6
        have ne := aft_some wr
        refine wp_region_aft (by kernel_rfl) (by kernel_rfl) ?_
        repeat (first | go_big_quiet_step (first | (go_at_call 12; exact aft_of (HC.out _))))
        refine wpQuiet_nil ?_
        intro wq hq
        have HBQ : Hid (Below w.heap.size w wq) := below_step HB.out HB.out.size hq
        clear hq
        go_wp2
        go_ret
        exact ⟨ret_bool HF.out.symm, HBQ.out⟩
    · have hkk : k = n := by omega
      subst hkk
      have HF : Hid (sameB us vs = true) := same_true (by rw [HN.out, HM.out]) (fun i hi => HK.out i (by rw [← HN.out]; exact hi))
      go_wp2
      go_ret
      exact ⟨ret_bool HF.out.symm, HB.out⟩

end Go.Proofs.YtbbmpfkijhhemaaGreatDoor

namespace Go.Proofs.YtbbmpfkijhhemaaGreatDoor

end Go.Proofs.YtbbmpfkijhhemaaGreatDoor

namespace Go.Proofs.YtbbmpfkijhhemaaGreatDoor
open Go.ChangeShapes Go.WideShapes Go.ChangeAt Go.RowKit Go.Joins
set_option maxRecDepth 100000
attribute [local go_sem ↓] Go.wp_at_zero Go.wp_at_succ

noncomputable def smOkB (x : Sm) : Bool := btw x.si 0 3 && cutB x.ws && decide (x.t.size ≤ 60000) && btw x.cl 0 100000 && sameB (backX x.si x.t).ws x.ws && decide ((backX x.si x.t).t = x.t) && decide ((backX x.si x.t).sq = x.sq) && decide ((backX x.si x.t).la = x.la) && decide ((backX x.si x.t).cl ≤ x.cl)

theorem clock_nonneg (ws : List Wr) : 0 ≤ clockL ws := by
  have h : ∀ (ws : List Wr) (n : Int), 0 ≤ n → 0 ≤ ws.foldl (fun n x => max n x.c) n := by
    intro ws
    induction ws with
    | nil => exact fun n h => h
    | cons x r ih => exact fun n h => ih _ (by show 0 ≤ max n x.c; omega)
  exact h ws 0 (Int.le_refl 0)

theorem backX_cl (si : Int) (s : ByteArray) : 0 ≤ (backX si s).cl := by
  unfold backX
  split
  · exact clock_nonneg _
  · exact Int.le_refl 0

theorem bytes_beq (a b : ByteArray) : (a.toList == b.toList) = decide (a = b) := by
  rw [Bool.eq_iff_iff, decide_eq_true_iff, beq_iff_eq, ByteArray.toList_eq, ByteArray.toList_eq]
  constructor
  · intro h
    cases a with
    | mk d =>
      cases b with
      | mk d' => exact congrArg ByteArray.mk (Array.toList_inj.1 h)
  · rintro rfl
    rfl

set_option maxHeartbeats 8000000 in
theorem specOk_x (x : Sm) (a : Option Addr) (cap : Nat) (w : World) (hn : x.ws.length ≤ 1048576) (hx : Few x.ws) (ht : x.t.size ≤ 1048576) (h : IsWs w a x.ws) :
    Calls Tryz.prog 26 #[smV x a cap] w fun e w' => e = .returned (.bool (smOkB x)) ∧ Below w.heap.size w w' := by
  obtain ⟨si, cl, sq, la, ws, t⟩ := x
  simp only at hn hx ht h
  have H := Lib.hid h
  have HX := Lib.hid hx
  clear h hx
  unfold smV
  simp only
  obtain ⟨n, hnn⟩ : ∃ n, ws.length = n := ⟨_, rfl⟩
  rw [hnn] at hn ⊢
  have HN := Lib.hid hnn
  clear hnn
  have HB0 : Hid (Below w.heap.size w (w.alloc (.cells #[.int .i64 si, .int .i64 cl, .int .i64 sq, .int .i64 la, .slice a n cap, .string t] 26))) := (Below.refl _ _).alloc (Nat.le_refl _) _
  have HS0 := Lib.hid (SBox.start w si cl sq la a n cap t 26)
  obtain ⟨r, hr⟩ : ∃ r, r = smOkB ⟨si, cl, sq, la, ws, t⟩ := ⟨_, rfl⟩
  rw [← hr]
  unfold smOkB at hr
  simp only at hr
  have HR := Lib.hid hr
  clear hr
  unfold shV
  go_enter Tryz.func26, Tryz.ntmps26
  go_wp2_with fail
  generalize w.alloc (.cells #[.int .i64 si, .int .i64 cl, .int .i64 sq, .int .i64 la, .slice a n cap, .string t] 26) = W0 at *
  refine (site_any si _).mono ?_
  rintro e w1 ⟨rfl, hw⟩
  subst w1
  cases h1 : btw si 0 3
  · have HF : Hid (r = false) := by rw [HR.out, h1]; exact Lib.hid (by simp)
    clear h1 HR
    go_wp2
    go_ret
    exact ⟨by rw [HF.out]; rfl, HB0.out⟩
  rw [h1] at HR
  obtain ⟨-, x0, x1, x2, x3, x4, x5, -⟩ := HS0.out
  go_wp2_with fail
  refine (specIsCut_any a n cap ws _ HN.out hn HX.out (H.out.below HB0.out)).mono ?_
  rintro e w2 ⟨rfl, hb⟩
  have HB2 := Lib.hid (below_step HB0.out HB0.out.size hb)
  have HS2 := Lib.hid (HS0.out.below hb)
  clear hb HB0 HS0 x0 x1 x2 x3 x4 x5
  obtain ⟨-, x0, x1, x2, x3, x4, x5, -⟩ := HS2.out
  cases h2 : cutB ws
  · have HF : Hid (r = false) := by rw [HR.out, h2]; exact Lib.hid (by simp)
    clear h2 HR
    go_wp2
    go_ret
    exact ⟨by rw [HF.out]; rfl, HB2.out⟩
  rw [h2] at HR
  by_cases h3 : t.size ≤ 60000
  rotate_left
  · have HF : Hid (r = false) := by rw [HR.out, decide_eq_false h3]; exact Lib.hid (by simp)
    have h3' : (60000 : Int) < (t.size : Int) := by omega
    clear HR
    go_wp2
    go_ret
    exact ⟨by rw [HF.out]; rfl, HB2.out⟩
  rw [decide_eq_true h3] at HR
  have h3' : ¬ (60000 : Int) < (t.size : Int) := by omega
  go_wp2_with fail
  refine (between_any _ _ _ _).mono ?_
  rintro e w3 ⟨rfl, hw⟩
  subst w3
  cases h4 : btw cl 0 100000
  · have HF : Hid (r = false) := by rw [HR.out, h4]; exact Lib.hid (by simp)
    clear h4 HR
    go_wp2
    go_ret
    exact ⟨by rw [HF.out]; rfl, HB2.out⟩
  rw [h4] at HR
  go_wp2_with fail
  refine (specBack_x si t _ ht).mono ?_
  rintro e w4 ⟨ba, bc, rfl, hw, hb⟩
  have HB4 := Lib.hid (below_step HB2.out HB2.out.size hb)
  have HS4 := Lib.hid (HS2.out.below hb)
  have HW4 := Lib.hid hw
  have HOK := Lib.hid (backX_ok si t)
  obtain ⟨B, hB⟩ : ∃ B, B = backX si t := ⟨_, rfl⟩
  rw [← hB] at HR HW4 HOK
  rw [← hB]
  clear hb hw HB2 HS2 hB x0 x1 x2 x3 x4 x5
  have hb6 : B.ws.length ≤ 6 := mapOk_len HOK.out
  have HBF := Lib.hid (ok_few HOK.out)
  obtain ⟨bsi, bcl, bsq, bla, bws, bt⟩ := B
  simp only at HR HW4 HOK hb6 HBF
  unfold smV shV
  simp only
  obtain ⟨bn, hbn⟩ : ∃ bn, bws.length = bn := ⟨_, rfl⟩
  rw [hbn] at hb6 ⊢
  have HBN := Lib.hid hbn
  clear hbn
  have HA : Hid (Below w4.heap.size w4 (w4.alloc (.cells #[.int .i64 bsi, .int .i64 bcl, .int .i64 bsq, .int .i64 bla, .slice ba bn bc, .string bt] 26))) := (Below.refl _ _).alloc (Nat.le_refl _) _
  have HS5 := Lib.hid (SBox.start w4 bsi bcl bsq bla ba bn bc bt 26)
  have HS4' := Lib.hid (HS4.out.below HA.out)
  have HB5 := Lib.hid (below_step HB4.out HB4.out.size HA.out)
  have HW5 := Lib.hid (HW4.out.below HA.out)
  obtain ⟨-, x0, x1, x2, x3, x4, x5, -⟩ := HS4'.out
  obtain ⟨-, y0, y1, y2, y3, y4, y5, -⟩ := HS5.out
  go_wp2_with fail
  generalize (w4.alloc (.cells #[.int .i64 bsi, .int .i64 bcl, .int .i64 bsq, .int .i64 bla, .slice ba bn bc, .string bt] 26)) = V4 at *
  refine (l02Same_gen ba a bn n bc cap bws ws _ HBN.out HN.out (by omega) hn HBF.out HX.out HW5.out (H.out.below HB5.out)).mono ?_
  rintro e w6 ⟨rfl, hb⟩
  have HB6 := Lib.hid (below_step HB5.out HB5.out.size hb)
  have HS6 := Lib.hid (HS4'.out.below hb)
  have HS7 := Lib.hid (HS5.out.below hb)
  clear hb x0 x1 x2 x3 x4 x5 y0 y1 y2 y3 y4 y5 HB5 HS5 HS4' HB4 HS4 HA
  obtain ⟨-, x0, x1, x2, x3, x4, x5, -⟩ := HS6.out
  obtain ⟨-, y0, y1, y2, y3, y4, y5, -⟩ := HS7.out
  have hbe : ∀ p q : ByteArray, (p.toList == q.toList) = decide (p = q) := bytes_beq
  cases h5 : sameB bws ws
  · have HF : Hid (r = false) := by rw [HR.out, h5]; exact Lib.hid (by simp)
    clear h5 HR
    go_wp2
    go_ret
    exact ⟨by rw [HF.out]; rfl, HB6.out⟩
  rw [h5] at HR
  by_cases h6 : bt = t
  rotate_left
  · have HF : Hid (r = false) := by rw [HR.out, decide_eq_false h6]; exact Lib.hid (by simp)
    have h6' : (bt.toList == t.toList) = false := by rw [hbe]; exact decide_eq_false h6
    clear HR h6 hbe
    go_wp2
    go_ret
    exact ⟨by rw [HF.out]; rfl, HB6.out⟩
  subst h6
  by_cases h7 : bsq = sq
  rotate_left
  · have HF : Hid (r = false) := by rw [HR.out, decide_eq_false h7]; exact Lib.hid (by simp)
    clear HR hbe
    go_wp2
    go_ret
    exact ⟨by rw [HF.out]; rfl, HB6.out⟩
  subst h7
  by_cases h8 : bla = la
  rotate_left
  · have HF : Hid (r = false) := by rw [HR.out, decide_eq_false h8]; exact Lib.hid (by simp)
    clear HR hbe
    go_wp2
    go_ret
    exact ⟨by rw [HF.out]; rfl, HB6.out⟩
  subst h8
  have HF : Hid (r = decide (bcl ≤ cl)) := by rw [HR.out]; exact Lib.hid (by simp)
  clear HR hbe
  go_wp2
  go_ret
  exact ⟨by rw [HF.out]; rfl, HB6.out⟩

end Go.Proofs.YtbbmpfkijhhemaaGreatDoor

namespace Go.Proofs.YtbbmpfkijhhemaaGreatDoor
open Go.ChangeShapes Go.WideShapes Go.ChangeAt Go.RowKit Go.Joins
set_option maxRecDepth 100000
attribute [local go_sem ↓] Go.wp_at_zero Go.wp_at_succ

set_option maxHeartbeats 8000000 in
theorem implOk_x (x : Sm) (a : Option Addr) (cap : Nat) (w : World) (hn : x.ws.length ≤ 1048576) (hx : Few x.ws) (ht : x.t.size ≤ 1048576) (h : IsWs w a x.ws) (hL : LV w) :
    Calls Tryz.prog 14 #[smV x a cap] w fun e w' => e = .returned (.bool (smOkB x)) ∧ Below w.heap.size w w' := by
  obtain ⟨si, cl, sq, la, ws, t⟩ := x
  simp only at hn hx ht h
  have H := Lib.hid h
  have HL := Lib.hid hL
  clear hL
  have HX := Lib.hid hx
  clear h hx
  unfold smV
  simp only
  obtain ⟨n, hnn⟩ : ∃ n, ws.length = n := ⟨_, rfl⟩
  rw [hnn] at hn ⊢
  have HN := Lib.hid hnn
  clear hnn
  have HB0 : Hid (Below w.heap.size w (w.alloc (.cells #[.int .i64 si, .int .i64 cl, .int .i64 sq, .int .i64 la, .slice a n cap, .string t] 26))) := (Below.refl _ _).alloc (Nat.le_refl _) _
  have HS0 := Lib.hid (SBox.start w si cl sq la a n cap t 26)
  obtain ⟨r, hr⟩ : ∃ r, r = smOkB ⟨si, cl, sq, la, ws, t⟩ := ⟨_, rfl⟩
  rw [← hr]
  unfold smOkB at hr
  simp only at hr
  have HR := Lib.hid hr
  clear hr
  unfold shV
  go_enter Tryz.func14, Tryz.ntmps14
  go_wp2_with fail
  generalize w.alloc (.cells #[.int .i64 si, .int .i64 cl, .int .i64 sq, .int .i64 la, .slice a n cap, .string t] 26) = W0 at *
  refine (siteOk_any si _).mono ?_
  rintro e w1 ⟨rfl, hw⟩
  subst w1
  obtain ⟨-, x0, x1, x2, x3, x4, x5, -⟩ := HS0.out
  cases h1 : btw si 0 3
  · have HF : Hid (r = false) := by rw [HR.out, h1]; exact Lib.hid (by simp)
    clear h1 HR
    go_wp2
    go_ret
    exact ⟨by rw [HF.out]; rfl, HB0.out⟩
  rw [h1] at HR
  by_cases h4 : cl ≤ 100000
  rotate_left
  · have hb4 : btw cl 0 100000 = false := by unfold btw; simp; omega
    have HF : Hid (r = false) := by rw [HR.out, hb4]; exact Lib.hid (by simp)
    have h4' : (100000 : Int) < cl := by omega
    clear HR hb4 h1
    go_wp2
    go_ret
    exact ⟨by rw [HF.out]; rfl, HB0.out⟩
  have h4' : ¬ (100000 : Int) < cl := by omega
  by_cases h3 : t.size ≤ 60000
  rotate_left
  · have HF : Hid (r = false) := by rw [HR.out, decide_eq_false h3]; exact Lib.hid (by simp)
    have h3' : (60000 : Int) < (t.size : Int) := by omega
    clear HR h1
    go_wp2
    go_ret
    exact ⟨by rw [HF.out]; rfl, HB0.out⟩
  rw [decide_eq_true h3] at HR
  have h3' : ¬ (60000 : Int) < (t.size : Int) := by omega
  go_wp2_with fail
  refine (implIsCut_any a n cap ws _ HN.out hn HX.out (H.out.below HB0.out)).mono ?_
  rintro e w2 ⟨rfl, hb⟩
  have HB2 := Lib.hid (below_step HB0.out HB0.out.size hb)
  have HS2 := Lib.hid (HS0.out.below hb)
  clear hb HB0 HS0 x0 x1 x2 x3 x4 x5
  obtain ⟨-, x0, x1, x2, x3, x4, x5, -⟩ := HS2.out
  cases h2 : cutB ws
  · have HF : Hid (r = false) := by rw [HR.out, h2]; exact Lib.hid (by simp)
    clear h2 HR
    go_wp2
    go_ret
    exact ⟨by rw [HF.out]; rfl, HB2.out⟩
  rw [h2] at HR
  have HLV := Lib.hid (HL.out.below HB2.out)
  go_wp2_with fail
  refine (implBack_x si t _ ht HLV.out).mono ?_
  rintro e w4 ⟨ba, bc, γ, rfl, hw, hb⟩
  have HB4 := Lib.hid (below_step HB2.out HB2.out.size hb)
  have HS4 := Lib.hid (HS2.out.below hb)
  have HOK := Lib.hid (backX_ok si t)
  have HW4 := Lib.hid (hw.isWs (ok_few HOK.out))
  have hc0 := backX_cl si t
  obtain ⟨B, hB⟩ : ∃ B, B = backX si t := ⟨_, rfl⟩
  rw [← hB] at HR HW4 HOK hc0
  rw [← hB]
  clear hb hw HB2 HS2 hB x0 x1 x2 x3 x4 x5 HLV
  have hb6 : B.ws.length ≤ 6 := mapOk_len HOK.out
  have HBF := Lib.hid (ok_few HOK.out)
  obtain ⟨bsi, bcl, bsq, bla, bws, bt⟩ := B
  simp only at HR HW4 HOK hb6 HBF hc0
  unfold smV shV
  simp only
  obtain ⟨bn, hbn⟩ : ∃ bn, bws.length = bn := ⟨_, rfl⟩
  rw [hbn] at hb6 ⊢
  have HBN := Lib.hid hbn
  clear hbn
  have HA : Hid (Below w4.heap.size w4 (w4.alloc (.cells #[.int .i64 bsi, .int .i64 bcl, .int .i64 bsq, .int .i64 bla, .slice ba bn bc, .string bt] 26))) := (Below.refl _ _).alloc (Nat.le_refl _) _
  have HS5 := Lib.hid (SBox.start w4 bsi bcl bsq bla ba bn bc bt 26)
  have HS4' := Lib.hid (HS4.out.below HA.out)
  have HB5 := Lib.hid (below_step HB4.out HB4.out.size HA.out)
  have HW5 := Lib.hid (HW4.out.below HA.out)
  obtain ⟨-, x0, x1, x2, x3, x4, x5, -⟩ := HS4'.out
  obtain ⟨-, y0, y1, y2, y3, y4, y5, -⟩ := HS5.out
  have hbe : ∀ p q : ByteArray, (p.toList == q.toList) = decide (p = q) := bytes_beq
  by_cases h9 : bcl ≤ cl
  rotate_left
  · have HF : Hid (r = false) := by rw [HR.out, decide_eq_false h9]; exact Lib.hid (by simp)
    clear HR hbe
    go_wp2
    go_ret
    exact ⟨by rw [HF.out]; rfl, HB5.out⟩
  have hb4 : btw cl 0 100000 = true := by unfold btw; simp; omega
  rw [hb4, decide_eq_true h9] at HR
  clear hb4
  by_cases h7 : bsq = sq
  rotate_left
  · have HF : Hid (r = false) := by rw [HR.out, decide_eq_false h7]; exact Lib.hid (by simp)
    clear HR hbe
    go_wp2
    go_ret
    exact ⟨by rw [HF.out]; rfl, HB5.out⟩
  subst h7
  by_cases h8 : bla = la
  rotate_left
  · have HF : Hid (r = false) := by rw [HR.out, decide_eq_false h8]; exact Lib.hid (by simp)
    clear HR hbe
    go_wp2
    go_ret
    exact ⟨by rw [HF.out]; rfl, HB5.out⟩
  subst h8
  by_cases h6 : bt = t
  rotate_left
  · have HF : Hid (r = false) := by rw [HR.out, decide_eq_false h6]; exact Lib.hid (by simp)
    have h6' : (bt.toList == t.toList) = false := by rw [hbe]; exact decide_eq_false h6
    clear HR h6 hbe
    go_wp2
    go_ret
    exact ⟨by rw [HF.out]; rfl, HB5.out⟩
  subst h6
  have HF : Hid (r = sameB bws ws) := by rw [HR.out]; exact Lib.hid (by simp)
  clear HR hbe
  go_wp2_with fail
  generalize (w4.alloc (.cells #[.int .i64 bsi, .int .i64 bcl, .int .i64 bsq, .int .i64 bla, .slice ba bn bc, .string bt] 26)) = V4 at *
  refine (equalFunc_any ba a bn n bc cap bws ws _ HBN.out HN.out (by omega) hn HBF.out HX.out HW5.out (H.out.below HB5.out)).mono ?_
  rintro e w6 ⟨rfl, hb⟩
  have HB6 := Lib.hid (below_step HB5.out HB5.out.size hb)
  clear hb x0 x1 x2 x3 x4 x5 y0 y1 y2 y3 y4 y5
  go_wp2
  go_ret
  exact ⟨by rw [HF.out]; rfl, HB6.out⟩

end Go.Proofs.YtbbmpfkijhhemaaGreatDoor

namespace Go.Proofs.YtbbmpfkijhhemaaGreatDoor
open Go.ChangeShapes Go.WideShapes Go.ChangeAt Go.RowKit Go.Joins
set_option maxRecDepth 100000
attribute [local go_sem ↓] Go.wp_at_zero Go.wp_at_succ

def lastD (x d : Dp) : Dp := if tcmp x.c x.s x.q d.c d.s d.q < 0 then d else x

def laterStep (d : Dp) (st : List Dp × Bool) (x : Dp) : List Dp × Bool :=
  if x.k = d.k then (st.1 ++ [lastD x d], true) else if d.k < x.k ∧ st.2 = false then (st.1 ++ [d] ++ [x], true) else (st.1 ++ [x], st.2)

def laterRun (xs : List Dp) (d : Dp) : List Dp × Bool := xs.foldl (laterStep d) ([], false)

def laterL (xs : List Dp) (d : Dp) : List Dp := if (laterRun xs d).2 = true then (laterRun xs d).1 else (laterRun xs d).1 ++ [d]

theorem laterRun_take (xs : List Dp) (d : Dp) (k : Nat) (h : k < xs.length) : laterRun (xs.take (k + 1)) d = laterStep d (laterRun (xs.take k) d) (xs.getD k dz) := by
  unfold laterRun
  have e : xs.take (k + 1) = xs.take k ++ [xs.getD k dz] := by
    rw [List.take_add_one, List.getElem?_eq_getElem h]
    simp [List.getD, h]
  rw [e, List.foldl_append]
  rfl

theorem laterStep_len (d : Dp) (st : List Dp × Bool) (x : Dp) : (laterStep d st x).1.length + (if (laterStep d st x).2 = true then 0 else 1) ≤ st.1.length + (if st.2 = true then 0 else 1) + 1 := by
  unfold laterStep
  split
  · cases st.2 <;> simp
  · split
    · rename_i h
      rw [h.2]
      simp
    · cases st.2 <;> simp

theorem laterRun_len (xs : List Dp) (d : Dp) : ∀ k, k ≤ xs.length → (laterRun (xs.take k) d).1.length + (if (laterRun (xs.take k) d).2 = true then 0 else 1) ≤ k + 1
  | 0, _ => by simp [laterRun]
  | k + 1, h => by
    have ih := laterRun_len xs d k (by omega)
    rw [laterRun_take xs d k (by omega)]
    have := laterStep_len d (laterRun (xs.take k) d) (xs.getD k dz)
    omega

structure DBox (w : World) (b : Nat) (d : Dp) : Prop where
  lt : b < w.heap.size
  c0 : w.cell? ⟨b, 0, none⟩ = some (.int .i64 d.k)
  c1 : w.cell? ⟨b, 1, none⟩ = some (.int .i64 d.c)
  c2 : w.cell? ⟨b, 2, none⟩ = some (.int .i64 d.s)
  c3 : w.cell? ⟨b, 3, none⟩ = some (.int .i64 d.q)
  fz : ∀ o, w.frozen? ⟨b, o, none⟩ = false

theorem DBox.start (w : World) (d : Dp) (ty : Nat) : DBox (w.alloc (.cells #[.int .i64 d.k, .int .i64 d.c, .int .i64 d.s, .int .i64 d.q] ty)) w.heap.size d := by
  have h := heap_alloc_new w (.cells #[.int .i64 d.k, .int .i64 d.c, .int .i64 d.s, .int .i64 d.q] ty)
  refine ⟨by simp, ?_, ?_, ?_, ?_, fun o => by simp [go_sem]⟩ <;> (rw [cell_of_row _ _ _ _ ty (0, 0) h]; rfl)

theorem DBox.of_block {w w' : World} {b : Nat} {d : Dp} (h : DBox w b d) (hs : w.heap.size ≤ w'.heap.size) (hb : w'.heap[b]? = w.heap[b]?) : DBox w' b d := by
  have e : ∀ o, w'.cell? ⟨b, o, none⟩ = w.cell? ⟨b, o, none⟩ := fun o => World.cell?_of_block (a := ⟨b, o, none⟩) hb
  exact ⟨Nat.lt_of_lt_of_le h.lt hs, (e _).trans h.c0, (e _).trans h.c1, (e _).trans h.c2, (e _).trans h.c3, fun o => (World.frozen?_of_block (w := w) hb).trans (h.fz o)⟩

theorem DBox.below {w w' : World} {b : Nat} {d : Dp} (h : DBox w b d) (hb : Below w.heap.size w w') : DBox w' b d := h.of_block hb.size (hb.block b h.lt)

def put4 (w : World) (b : Nat) (k c s q : Int) : World := (((w.setCell ⟨b, 0, none⟩ (.int .i64 k)).setCell ⟨b, 1, none⟩ (.int .i64 c)).setCell ⟨b, 2, none⟩ (.int .i64 s)).setCell ⟨b, 3, none⟩ (.int .i64 q)

theorem hole_put4 {B : Nat} {w w' : World} (h : Hole B w w') (k c s q : Int) : Hole B w (put4 w' B k c s q) := (((h.set 0 _).set 1 _).set 2 _).set 3 _

theorem dbox_put4 {w : World} {b : Nat} {d : Dp} (h : DBox w b d) (k c s q : Int) : DBox (put4 w b k c s q) b ⟨k, c, s, q⟩ := by
  have s0 := cell_set_same (v := .int .i64 k) h.c0
  have o1 := cell_set_off (o := 0) (v := .int .i64 k) h.c1 (by omega)
  have o2 := cell_set_off (o := 0) (v := .int .i64 k) h.c2 (by omega)
  have o3 := cell_set_off (o := 0) (v := .int .i64 k) h.c3 (by omega)
  have s1 := cell_set_same (v := .int .i64 c) o1
  have p0 := cell_set_off (o := 1) (v := .int .i64 c) s0 (by omega)
  have p2 := cell_set_off (o := 1) (v := .int .i64 c) o2 (by omega)
  have p3 := cell_set_off (o := 1) (v := .int .i64 c) o3 (by omega)
  have s2 := cell_set_same (v := .int .i64 s) p2
  have q0 := cell_set_off (o := 2) (v := .int .i64 s) p0 (by omega)
  have q1 := cell_set_off (o := 2) (v := .int .i64 s) s1 (by omega)
  have q3 := cell_set_off (o := 2) (v := .int .i64 s) p3 (by omega)
  refine ⟨?_, cell_set_off q0 (by omega), cell_set_off q1 (by omega), cell_set_off s2 (by omega), cell_set_same q3, fun o => ?_⟩
  · simpa [put4, World.setCell] using h.lt
  · unfold put4
    rw [World.frozen?_setCell, World.frozen?_setCell, World.frozen?_setCell, World.frozen?_setCell]
    exact h.fz o

theorem RowD.aside {w w' : World} {B base : Nat} {v : Value} {zs : List Dp} (h : RowD w base v zs) (hh : Hole B w w') (hne : v.ownBlock ≠ some B) : RowD w' base v zs :=
  World.ownsRow.kept (row := some B) h ⟨hh.os, hh.tape, hh.output, hh.size, fun k hk hn => hh.block k hk (fun e => hn (by rw [e]))⟩ (.inr hne)

set_option maxHeartbeats 16000000 in
theorem later_any (a : Option Addr) (n cap : Nat) (xs : List Dp) (d : Dp) (w : World) (hn : xs.length = n) (hm : n ≤ 1000000) (hi : IsDeps w a xs) :
    Calls Tryz.prog 137 #[.slice a n cap, depV d.k d.c d.s d.q] w fun e w' => ∃ v, e = .returned v ∧ RowD w' w.heap.size v (laterL xs d) ∧ Below w.heap.size w w' := by
  obtain ⟨dk, dc, ds, dq⟩ := d
  have HI := Lib.hid hi
  have HN := Lib.hid hn
  clear hi hn
  obtain ⟨i0, hi0, hx0⟩ := Option.map_eq_some_iff.1 infoDep
  simp only [Prod.mk.injEq] at hx0
  have HI0 := Lib.hid hi0
  have HX0 := Lib.hid hx0
  clear hi0 hx0
  have HB1 : Hid (Below w.heap.size w (w.alloc (.cells #[.int .i64 dk, .int .i64 dc, .int .i64 ds, .int .i64 dq] 81))) := (Below.refl _ _).alloc (Nat.le_refl _) _
  have hz1 : (w.alloc (.cells #[.int .i64 dk, .int .i64 dc, .int .i64 ds, .int .i64 dq] 81)).heap.size = w.heap.size + 1 := by simp
  have HD1 : Hid (DBox (w.alloc (.cells #[.int .i64 dk, .int .i64 dc, .int .i64 ds, .int .i64 dq] 81)) w.heap.size ⟨dk, dc, ds, dq⟩) := DBox.start w ⟨dk, dc, ds, dq⟩ 81
  have HB0 : Hid (Below w.heap.size w ((w.alloc (.cells #[.int .i64 dk, .int .i64 dc, .int .i64 ds, .int .i64 dq] 81)).alloc (.cells #[] 81))) := HB1.out.alloc (by simp) _
  have HD0 := Lib.hid (HD1.out.below ((Below.refl _ _).alloc (Nat.le_refl _) (.cells #[] 81)))
  have HR0 : Hid (RowD ((w.alloc (.cells #[.int .i64 dk, .int .i64 dc, .int .i64 ds, .int .i64 dq] 81)).alloc (.cells #[] 81)) (w.heap.size + 1) (.slice (some ⟨w.heap.size + 1, 0, none⟩) 0 0) []) := by
    have h := World.ownsRow_made (e := 81) (size := 4) (w.alloc (.cells #[.int .i64 dk, .int .i64 dc, .int .i64 ds, .int .i64 dq] 81)) #[] 0 (Nat.le_refl _) (by simp [maxLen]) (by simp)
    rw [hz1] at h
    exact Lib.hid h
  clear HB1 HD1 hz1
  unfold depV
  go_enter Tryz.func137, Tryz.ntmps137
  go_wp2
  generalize (w.alloc (.cells #[.int .i64 dk, .int .i64 dc, .int .i64 ds, .int .i64 dq] 81)).alloc (.cells #[] 81) = W0 at *
  go_loopw [5, 6, 7] (fun t pu i wr => ∃ (k : Nat) (v : Value) (zs : List Dp) (p : Bool), k ≤ n ∧ i = .int .i64 k ∧ v = t ∧ pu = .bool p ∧ zs.length ≤ k + 1 ∧ Hid (laterRun (xs.take k) ⟨dk, dc, ds, dq⟩ = (zs, p)) ∧ Hid (RowD wr (w.heap.size + 1) v zs) ∧ Hid (DBox wr w.heap.size ⟨dk, dc, ds, dq⟩) ∧ Hid (Below w.heap.size w wr)) (fun _ _ i _ => n - (intOf i).toNat)
  case atStart => exact ⟨0, _, [], false, Nat.zero_le _, rfl, rfl, rfl, by simp, rfl, HR0, HD0, HB0⟩
  case round =>
    clear HR0 HD0 HB0
    obtain ⟨k, v, zs, p, hk, rfl, rfl, rfl, hzl, HE, HR, HD, HB⟩ := hrel
    by_cases hk' : k < n
    · have hkx : k < xs.length := by rw [HN.out]; exact hk'
      have i1 : (0 : Int) ≤ (k : Int) := by omega
      have i2 : (k : Int) < (n : Int) := by omega
      obtain ⟨b, o, rfl, hz, e0, e1, e2, e3⟩ := HI.out.at HB.out hkx
      have HT := Lib.hid (laterRun_take xs ⟨dk, dc, ds, dq⟩ k hkx)
      have hlen := laterRun_len xs ⟨dk, dc, ds, dq⟩ (k + 1) hkx
      rw [HE.out] at HT
      generalize xs.getD k dz = x at *
      obtain ⟨yk, yc, ys, yq⟩ := x
      simp only at e0 e1 e2 e3 HT
      have HXB : Hid (Below wr.heap.size wr (wr.alloc (.cells #[.int .i64 yk, .int .i64 yc, .int .i64 ys, .int .i64 yq] 81))) := (Below.refl _ _).alloc (Nat.le_refl _) _
      have HXX : Hid (DBox (wr.alloc (.cells #[.int .i64 yk, .int .i64 yc, .int .i64 ys, .int .i64 yq] 81)) wr.heap.size ⟨yk, yc, ys, yq⟩) := DBox.start wr ⟨yk, yc, ys, yq⟩ 81
      have HRX := Lib.hid (HR.out.below HXB.out)
      have HDX := Lib.hid (HD.out.below HXB.out)
      have HBX := Lib.hid (below_step HB.out HB.out.size HXB.out)
      have hdl : w.heap.size < wr.heap.size := HD.out.lt
      have hobX : v.ownBlock ≠ some wr.heap.size := fun e => by have := (World.ownsRow.lt HR.out _ e).2; omega
      have d0 := HDX.out.c0
      have d1 := HDX.out.c1
      have d2 := HDX.out.c2
      have d3 := HDX.out.c3
      have x0 := HXX.out.c0
      have x1 := HXX.out.c1
      have x2 := HXX.out.c2
      have x3 := HXX.out.c3
      by_cases hkey : yk = dk
      · subst hkey
        have hnl : ¬ yk < yk := by omega
        go_wp2_with fail
        generalize (wr.alloc (.cells #[.int .i64 yk, .int .i64 yc, .int .i64 ys, .int .i64 yq] 81)) = V1 at *
        refine (specTagCmp_any _ _ _ _ _ _ _).mono ?_
        rintro e w2 ⟨rfl, hb⟩
        have HR2 := Lib.hid (HRX.out.below hb)
        have HD2 := Lib.hid (HDX.out.below hb)
        have HX2 := Lib.hid (HXX.out.below hb)
        have HB2 := Lib.hid (below_step HBX.out HBX.out.size hb)
        clear hb HRX HDX HXX HBX d0 d1 d2 d3 x0 x1 x2 x3 e0 e1 e2 e3
        have d0 := HD2.out.c0
        have d1 := HD2.out.c1
        have d2 := HD2.out.c2
        have d3 := HD2.out.c3
        have x0 := HX2.out.c0
        have x1 := HX2.out.c1
        have x2 := HX2.out.c2
        have x3 := HX2.out.c3
        have xf := HX2.out.fz
        have hsz2 : w.heap.size + 1 ≤ w2.heap.size := HD2.out.lt
        by_cases hlt : tcmp yc ys yq dc ds dq < 0
        · have HE2 : Hid (laterRun (xs.take (k + 1)) ⟨yk, dc, ds, dq⟩ = (zs ++ [⟨yk, dc, ds, dq⟩], true)) := by
            rw [HT.out]
            unfold laterStep lastD
            simp [hlt, Hid]
          have hl2 : (zs ++ [(⟨yk, dc, ds, dq⟩ : Dp)]).length ≤ k + 1 + 1 := by
            rw [HE2.out] at hlen
            simp at hlen ⊢
            omega
          generalize tcmp yc ys yq dc ds dq = tc at *
          have HH3 : Hid (Hole wr.heap.size w2 (put4 w2 wr.heap.size yk dc ds dq)) := hole_put4 (Hole.refl _ _) yk dc ds dq
          have HX3 : Hid (DBox (put4 w2 wr.heap.size yk dc ds dq) wr.heap.size ⟨yk, dc, ds, dq⟩) := dbox_put4 HX2.out yk dc ds dq
          have HR3 : Hid (RowD (put4 w2 wr.heap.size yk dc ds dq) (w.heap.size + 1) v zs) := HR2.out.aside HH3.out hobX
          have HD3 : Hid (DBox (put4 w2 wr.heap.size yk dc ds dq) w.heap.size ⟨yk, dc, ds, dq⟩) := HD2.out.of_block HH3.out.size (HH3.out.block _ HD2.out.lt (by omega))
          have HB3 : Hid (Below w.heap.size w (put4 w2 wr.heap.size yk dc ds dq)) := Hole.below HB2.out HH3.out (by omega) HB2.out.size
          go_wp2_with (at_builtin; refine Hid.out ?_)
          refine Lib.hid ?_
          have hP : (((w2.setCell ⟨wr.heap.size, 0, none⟩ (.int .i64 yk)).setCell ⟨wr.heap.size, 1, none⟩ (.int .i64 dc)).setCell ⟨wr.heap.size, 2, none⟩ (.int .i64 ds)).setCell ⟨wr.heap.size, 3, none⟩ (.int .i64 dq) = put4 w2 wr.heap.size yk dc ds dq := rfl
          rw [hP]
          clear hP
          have hs3 : (put4 w2 wr.heap.size yk dc ds dq).heap.size = w2.heap.size := by simp [put4, World.setCell]
          generalize put4 w2 wr.heap.size yk dc ds dq = w3 at *
          rw [← hs3]
          clear hs3
          clear HR2 HD2 HX2 HB2 HH3
          have u0 := HX3.out.c0
          have u1 := HX3.out.c1
          have u2 := HX3.out.c2
          have u3 := HX3.out.c3
          have v0 := HD3.out.c0
          have HBA5 : Hid (Below w3.heap.size w3 (w3.alloc (.cells #[.int .i64 yk, .int .i64 dc, .int .i64 ds, .int .i64 dq] 81))) := (Below.refl _ _).alloc (Nat.le_refl _) _
          have HRA5 := Lib.hid (HR3.out.below HBA5.out)
          have HDA5 := Lib.hid (HD3.out.below HBA5.out)
          have HB05 := Lib.hid (below_step HB3.out HB3.out.size HBA5.out)
          have hsz5 : w.heap.size + 1 ≤ w3.heap.size := HD3.out.lt
          go_wp2_with (at_builtin; refine wpList_append_lies _ (by rfl) _ _ _ (by rfl) (w.heap.size + 1) 81 i0 (depV 0 0 0 0) 4 32 Tryz.underlying31 HI0.out HX0.out.1 HX0.out.2.1 HX0.out.2.2 (by rfl) (by omega) v (zs).length ((zs).flatMap dpVals) (by rfl) HRA5.out ⟨w3.heap.size, 0, none⟩ 1 1 (dpVals ⟨yk, dc, ds, dq⟩) (by rfl) (by rfl) (oneD_cells w3 _ ⟨yk, dc, ds, dq⟩) (dp_one _) (by omega) (by unfold maxLen; (try simp); omega) (by (try simp); omega) (by (try simp); omega) _ rfl ?_; intro g5 cp5 w5 hown5 hgrow5 hg5 _; refine Hid.out ?_)
          refine Lib.hid ?_
          have HB5 : Hid (Below w.heap.size w w5) := HB05.out.grown hgrow5 HB05.out.size fun j hj => by have := (World.ownsRow.lt HRA5.out j hj).1; omega
          have HR5 : Hid (RowD w5 (w.heap.size + 1) (.slice (some ⟨g5, 0, none⟩) ((zs).length + 1) cp5) (zs ++ [⟨yk, dc, ds, dq⟩])) := by
            refine Lib.hid ?_
            unfold RowD
            rw [List.length_append, List.flatMap_append]
            simpa using hown5
          have hob5 : (v).ownBlock ≠ some w.heap.size := fun e => by have := (World.ownsRow.lt HRA5.out _ e).1; omega
          have HD5 : Hid (DBox w5 w.heap.size ⟨yk, dc, ds, dq⟩) := HDA5.out.of_block hgrow5.size (hgrow5.block _ HDA5.out.lt (fun e => hob5 e.symm))
          go_wp2
          exact ⟨⟨k + 1, _, _, true, by omega, by go_num, rfl, rfl, hl2, HE2, HR5, HD5, HB5⟩, by simp [intOf]; omega⟩
        · have HE2 : Hid (laterRun (xs.take (k + 1)) ⟨yk, dc, ds, dq⟩ = (zs ++ [⟨yk, yc, ys, yq⟩], true)) := by
            rw [HT.out]
            unfold laterStep lastD
            simp [hlt, Hid]
          have hl2 : (zs ++ [(⟨yk, yc, ys, yq⟩ : Dp)]).length ≤ k + 1 + 1 := by
            rw [HE2.out] at hlen
            simp at hlen ⊢
            omega
          generalize tcmp yc ys yq dc ds dq = tc at *
          have HBA5 : Hid (Below w2.heap.size w2 (w2.alloc (.cells #[.int .i64 yk, .int .i64 yc, .int .i64 ys, .int .i64 yq] 81))) := (Below.refl _ _).alloc (Nat.le_refl _) _
          have HRA5 := Lib.hid (HR2.out.below HBA5.out)
          have HDA5 := Lib.hid (HD2.out.below HBA5.out)
          have HB05 := Lib.hid (below_step HB2.out HB2.out.size HBA5.out)
          have hsz5 : w.heap.size + 1 ≤ w2.heap.size := HD2.out.lt
          go_wp2_with (at_builtin; refine wpList_append_lies _ (by rfl) _ _ _ (by rfl) (w.heap.size + 1) 81 i0 (depV 0 0 0 0) 4 32 Tryz.underlying31 HI0.out HX0.out.1 HX0.out.2.1 HX0.out.2.2 (by rfl) (by omega) v (zs).length ((zs).flatMap dpVals) (by rfl) HRA5.out ⟨w2.heap.size, 0, none⟩ 1 1 (dpVals ⟨yk, yc, ys, yq⟩) (by rfl) (by rfl) (oneD_cells w2 _ ⟨yk, yc, ys, yq⟩) (dp_one _) (by omega) (by unfold maxLen; (try simp); omega) (by (try simp); omega) (by (try simp); omega) _ rfl ?_; intro g5 cp5 w5 hown5 hgrow5 hg5 _; refine Hid.out ?_)
          refine Lib.hid ?_
          have HB5 : Hid (Below w.heap.size w w5) := HB05.out.grown hgrow5 HB05.out.size fun j hj => by have := (World.ownsRow.lt HRA5.out j hj).1; omega
          have HR5 : Hid (RowD w5 (w.heap.size + 1) (.slice (some ⟨g5, 0, none⟩) ((zs).length + 1) cp5) (zs ++ [⟨yk, yc, ys, yq⟩])) := by
            refine Lib.hid ?_
            unfold RowD
            rw [List.length_append, List.flatMap_append]
            simpa using hown5
          have hob5 : (v).ownBlock ≠ some w.heap.size := fun e => by have := (World.ownsRow.lt HRA5.out _ e).1; omega
          have HD5 : Hid (DBox w5 w.heap.size ⟨yk, dc, ds, dq⟩) := HDA5.out.of_block hgrow5.size (hgrow5.block _ HDA5.out.lt (fun e => hob5 e.symm))
          go_wp2
          exact ⟨⟨k + 1, _, _, true, by omega, by go_num, rfl, rfl, hl2, HE2, HR5, HD5, HB5⟩, by simp [intOf]; omega⟩
      · by_cases hb1 : dk < yk ∧ p = false
        · obtain ⟨hdy, rfl⟩ := hb1
          have HE2 : Hid (laterRun (xs.take (k + 1)) ⟨dk, dc, ds, dq⟩ = (zs ++ [⟨dk, dc, ds, dq⟩] ++ [⟨yk, yc, ys, yq⟩], true)) := by
            rw [HT.out]
            unfold laterStep
            simp [hkey, hdy, Hid]
          have hl2 : (zs ++ [(⟨dk, dc, ds, dq⟩ : Dp)] ++ [(⟨yk, yc, ys, yq⟩ : Dp)]).length ≤ k + 1 + 1 := by
            rw [HE2.out] at hlen
            simp at hlen ⊢
            omega
          go_wp2_with (at_builtin; refine Hid.out ?_)
          refine Lib.hid ?_
          have hs1 : (wr.alloc (.cells #[.int .i64 yk, .int .i64 yc, .int .i64 ys, .int .i64 yq] 81)).heap.size = wr.heap.size + 1 := by simp
          generalize (wr.alloc (.cells #[.int .i64 yk, .int .i64 yc, .int .i64 ys, .int .i64 yq] 81)) = V1 at *
          rw [← hs1]
          clear hs1
          have HBA4 : Hid (Below V1.heap.size V1 (V1.alloc (.cells #[.int .i64 dk, .int .i64 dc, .int .i64 ds, .int .i64 dq] 81))) := (Below.refl _ _).alloc (Nat.le_refl _) _
          have HRA4 := Lib.hid (HRX.out.below HBA4.out)
          have HDA4 := Lib.hid (HDX.out.below HBA4.out)
          have HB04 := Lib.hid (below_step HBX.out HBX.out.size HBA4.out)
          have hsz4 : w.heap.size + 1 ≤ V1.heap.size := HDX.out.lt
          go_wp2_with (at_builtin; refine wpList_append_lies _ (by rfl) _ _ _ (by rfl) (w.heap.size + 1) 81 i0 (depV 0 0 0 0) 4 32 Tryz.underlying31 HI0.out HX0.out.1 HX0.out.2.1 HX0.out.2.2 (by rfl) (by omega) v (zs).length ((zs).flatMap dpVals) (by rfl) HRA4.out ⟨V1.heap.size, 0, none⟩ 1 1 (dpVals ⟨dk, dc, ds, dq⟩) (by rfl) (by rfl) (oneD_cells V1 _ ⟨dk, dc, ds, dq⟩) (dp_one _) (by omega) (by unfold maxLen; (try simp); omega) (by (try simp); omega) (by (try simp); omega) _ rfl ?_; intro g4 cp4 w4 hown4 hgrow4 hg4 _; refine Hid.out ?_)
          refine Lib.hid ?_
          have HB4 : Hid (Below w.heap.size w w4) := HB04.out.grown hgrow4 HB04.out.size fun j hj => by have := (World.ownsRow.lt HRA4.out j hj).1; omega
          have HR4 : Hid (RowD w4 (w.heap.size + 1) (.slice (some ⟨g4, 0, none⟩) ((zs).length + 1) cp4) (zs ++ [⟨dk, dc, ds, dq⟩])) := by
            refine Lib.hid ?_
            unfold RowD
            rw [List.length_append, List.flatMap_append]
            simpa using hown4
          have hob4 : (v).ownBlock ≠ some w.heap.size := fun e => by have := (World.ownsRow.lt HRA4.out _ e).1; omega
          have HD4 : Hid (DBox w4 w.heap.size ⟨dk, dc, ds, dq⟩) := HDA4.out.of_block hgrow4.size (hgrow4.block _ HDA4.out.lt (fun e => hob4 e.symm))
          have HX4 : Hid (DBox w4 wr.heap.size ⟨yk, yc, ys, yq⟩) := (HXX.out.below HBA4.out).of_block hgrow4.size (hgrow4.block _ (HXX.out.below HBA4.out).lt (fun e => hobX e.symm))
          clear d0 d1 d2 d3 x0 x1 x2 x3 hown4 hgrow4 HRA4 HDA4 HBA4 HB04
          have x0 := HX4.out.c0
          have x1 := HX4.out.c1
          have x2 := HX4.out.c2
          have x3 := HX4.out.c3
          have HBA5 : Hid (Below w4.heap.size w4 (w4.alloc (.cells #[.int .i64 yk, .int .i64 yc, .int .i64 ys, .int .i64 yq] 81))) := (Below.refl _ _).alloc (Nat.le_refl _) _
          have HRA5 := Lib.hid (HR4.out.below HBA5.out)
          have HDA5 := Lib.hid (HD4.out.below HBA5.out)
          have HB05 := Lib.hid (below_step HB4.out HB4.out.size HBA5.out)
          have hsz5 : w.heap.size + 1 ≤ w4.heap.size := HD4.out.lt
          go_wp2_with (at_builtin; refine wpList_append_lies _ (by rfl) _ _ _ (by rfl) (w.heap.size + 1) 81 i0 (depV 0 0 0 0) 4 32 Tryz.underlying31 HI0.out HX0.out.1 HX0.out.2.1 HX0.out.2.2 (by rfl) (by omega) (Value.slice (some ⟨g4, 0, none⟩) (zs.length + 1) cp4) (zs ++ [(⟨dk, dc, ds, dq⟩ : Dp)]).length ((zs ++ [(⟨dk, dc, ds, dq⟩ : Dp)]).flatMap dpVals) (by rfl) HRA5.out ⟨w4.heap.size, 0, none⟩ 1 1 (dpVals ⟨yk, yc, ys, yq⟩) (by rfl) (by rfl) (oneD_cells w4 _ ⟨yk, yc, ys, yq⟩) (dp_one _) (by omega) (by unfold maxLen; (try simp); omega) (by (try simp); omega) (by (try simp); omega) _ rfl ?_; intro g5 cp5 w5 hown5 hgrow5 hg5 _; refine Hid.out ?_)
          refine Lib.hid ?_
          have HB5 : Hid (Below w.heap.size w w5) := HB05.out.grown hgrow5 HB05.out.size fun j hj => by have := (World.ownsRow.lt HRA5.out j hj).1; omega
          have HR5 : Hid (RowD w5 (w.heap.size + 1) (.slice (some ⟨g5, 0, none⟩) ((zs ++ [(⟨dk, dc, ds, dq⟩ : Dp)]).length + 1) cp5) (zs ++ [(⟨dk, dc, ds, dq⟩ : Dp)] ++ [⟨yk, yc, ys, yq⟩])) := by
            refine Lib.hid ?_
            unfold RowD
            rw [List.length_append, List.flatMap_append]
            simpa using hown5
          have hob5 : ((Value.slice (some ⟨g4, 0, none⟩) (zs.length + 1) cp4)).ownBlock ≠ some w.heap.size := fun e => by have := (World.ownsRow.lt HRA5.out _ e).1; omega
          have HD5 : Hid (DBox w5 w.heap.size ⟨dk, dc, ds, dq⟩) := HDA5.out.of_block hgrow5.size (hgrow5.block _ HDA5.out.lt (fun e => hob5 e.symm))
          have ez : (zs ++ [(⟨dk, dc, ds, dq⟩ : Dp)]).length + 1 = zs.length + 1 + 1 := by simp
          rw [ez] at HR5
          go_wp2
          exact ⟨⟨k + 1, _, _, true, by omega, by go_num, rfl, rfl, hl2, HE2, HR5, HD5, HB5⟩, by simp [intOf]; omega⟩
        · have HE2 : Hid (laterRun (xs.take (k + 1)) ⟨dk, dc, ds, dq⟩ = (zs ++ [⟨yk, yc, ys, yq⟩], p)) := by
            rw [HT.out]
            unfold laterStep
            simp only [if_neg hkey]
            rw [if_neg hb1]
            exact Lib.hid rfl
          have hl2 : (zs ++ [(⟨yk, yc, ys, yq⟩ : Dp)]).length ≤ k + 1 + 1 := by
            simp
            omega
          by_cases hdy : dk < yk
          · have hpt : p = true := by
              cases p
              · exact absurd ⟨hdy, rfl⟩ hb1
              · rfl
            subst hpt
            clear hb1
            go_wp2_with (at_builtin; refine Hid.out ?_)
            refine Lib.hid ?_
            have hs1 : (wr.alloc (.cells #[.int .i64 yk, .int .i64 yc, .int .i64 ys, .int .i64 yq] 81)).heap.size = wr.heap.size + 1 := by simp
            generalize (wr.alloc (.cells #[.int .i64 yk, .int .i64 yc, .int .i64 ys, .int .i64 yq] 81)) = V1 at *
            rw [← hs1]
            clear hs1
            have HBA5 : Hid (Below V1.heap.size V1 (V1.alloc (.cells #[.int .i64 yk, .int .i64 yc, .int .i64 ys, .int .i64 yq] 81))) := (Below.refl _ _).alloc (Nat.le_refl _) _
            have HRA5 := Lib.hid (HRX.out.below HBA5.out)
            have HDA5 := Lib.hid (HDX.out.below HBA5.out)
            have HB05 := Lib.hid (below_step HBX.out HBX.out.size HBA5.out)
            have hsz5 : w.heap.size + 1 ≤ V1.heap.size := HDX.out.lt
            go_wp2_with (at_builtin; refine wpList_append_lies _ (by rfl) _ _ _ (by rfl) (w.heap.size + 1) 81 i0 (depV 0 0 0 0) 4 32 Tryz.underlying31 HI0.out HX0.out.1 HX0.out.2.1 HX0.out.2.2 (by rfl) (by omega) v (zs).length ((zs).flatMap dpVals) (by rfl) HRA5.out ⟨V1.heap.size, 0, none⟩ 1 1 (dpVals ⟨yk, yc, ys, yq⟩) (by rfl) (by rfl) (oneD_cells V1 _ ⟨yk, yc, ys, yq⟩) (dp_one _) (by omega) (by unfold maxLen; (try simp); omega) (by (try simp); omega) (by (try simp); omega) _ rfl ?_; intro g5 cp5 w5 hown5 hgrow5 hg5 _; refine Hid.out ?_)
            refine Lib.hid ?_
            have HB5 : Hid (Below w.heap.size w w5) := HB05.out.grown hgrow5 HB05.out.size fun j hj => by have := (World.ownsRow.lt HRA5.out j hj).1; omega
            have HR5 : Hid (RowD w5 (w.heap.size + 1) (.slice (some ⟨g5, 0, none⟩) ((zs).length + 1) cp5) (zs ++ [⟨yk, yc, ys, yq⟩])) := by
              refine Lib.hid ?_
              unfold RowD
              rw [List.length_append, List.flatMap_append]
              simpa using hown5
            have hob5 : (v).ownBlock ≠ some w.heap.size := fun e => by have := (World.ownsRow.lt HRA5.out _ e).1; omega
            have HD5 : Hid (DBox w5 w.heap.size ⟨dk, dc, ds, dq⟩) := HDA5.out.of_block hgrow5.size (hgrow5.block _ HDA5.out.lt (fun e => hob5 e.symm))
            go_wp2
            exact ⟨⟨k + 1, _, _, true, by omega, by go_num, rfl, rfl, hl2, HE2, HR5, HD5, HB5⟩, by simp [intOf]; omega⟩
          · clear hb1
            go_wp2_with (at_builtin; refine Hid.out ?_)
            refine Lib.hid ?_
            have hs1 : (wr.alloc (.cells #[.int .i64 yk, .int .i64 yc, .int .i64 ys, .int .i64 yq] 81)).heap.size = wr.heap.size + 1 := by simp
            generalize (wr.alloc (.cells #[.int .i64 yk, .int .i64 yc, .int .i64 ys, .int .i64 yq] 81)) = V1 at *
            rw [← hs1]
            clear hs1
            have HBA5 : Hid (Below V1.heap.size V1 (V1.alloc (.cells #[.int .i64 yk, .int .i64 yc, .int .i64 ys, .int .i64 yq] 81))) := (Below.refl _ _).alloc (Nat.le_refl _) _
            have HRA5 := Lib.hid (HRX.out.below HBA5.out)
            have HDA5 := Lib.hid (HDX.out.below HBA5.out)
            have HB05 := Lib.hid (below_step HBX.out HBX.out.size HBA5.out)
            have hsz5 : w.heap.size + 1 ≤ V1.heap.size := HDX.out.lt
            go_wp2_with (at_builtin; refine wpList_append_lies _ (by rfl) _ _ _ (by rfl) (w.heap.size + 1) 81 i0 (depV 0 0 0 0) 4 32 Tryz.underlying31 HI0.out HX0.out.1 HX0.out.2.1 HX0.out.2.2 (by rfl) (by omega) v (zs).length ((zs).flatMap dpVals) (by rfl) HRA5.out ⟨V1.heap.size, 0, none⟩ 1 1 (dpVals ⟨yk, yc, ys, yq⟩) (by rfl) (by rfl) (oneD_cells V1 _ ⟨yk, yc, ys, yq⟩) (dp_one _) (by omega) (by unfold maxLen; (try simp); omega) (by (try simp); omega) (by (try simp); omega) _ rfl ?_; intro g5 cp5 w5 hown5 hgrow5 hg5 _; refine Hid.out ?_)
            refine Lib.hid ?_
            have HB5 : Hid (Below w.heap.size w w5) := HB05.out.grown hgrow5 HB05.out.size fun j hj => by have := (World.ownsRow.lt HRA5.out j hj).1; omega
            have HR5 : Hid (RowD w5 (w.heap.size + 1) (.slice (some ⟨g5, 0, none⟩) ((zs).length + 1) cp5) (zs ++ [⟨yk, yc, ys, yq⟩])) := by
              refine Lib.hid ?_
              unfold RowD
              rw [List.length_append, List.flatMap_append]
              simpa using hown5
            have hob5 : (v).ownBlock ≠ some w.heap.size := fun e => by have := (World.ownsRow.lt HRA5.out _ e).1; omega
            have HD5 : Hid (DBox w5 w.heap.size ⟨dk, dc, ds, dq⟩) := HDA5.out.of_block hgrow5.size (hgrow5.block _ HDA5.out.lt (fun e => hob5 e.symm))
            go_wp2
            exact ⟨⟨k + 1, _, _, p, by omega, by go_num, rfl, rfl, hl2, HE2, HR5, HD5, HB5⟩, by simp [intOf]; omega⟩
    · have hkn : k = n := by omega
      subst hkn
      have HF : Hid (laterRun xs ⟨dk, dc, ds, dq⟩ = (zs, p)) := by
        have h := HE.out
        rw [List.take_of_length_le (by rw [HN.out]; exact Nat.le_refl _)] at h
        exact Lib.hid h
      have d0 := HD.out.c0
      have d1 := HD.out.c1
      have d2 := HD.out.c2
      have d3 := HD.out.c3
      cases p
      · have HL : Hid (laterL xs ⟨dk, dc, ds, dq⟩ = zs ++ [⟨dk, dc, ds, dq⟩]) := by
          unfold laterL
          rw [HF.out]
          simp [Hid]
        have HBA5 : Hid (Below wr.heap.size wr (wr.alloc (.cells #[.int .i64 dk, .int .i64 dc, .int .i64 ds, .int .i64 dq] 81))) := (Below.refl _ _).alloc (Nat.le_refl _) _
        have HRA5 := Lib.hid (HR.out.below HBA5.out)
        have HDA5 := Lib.hid (HD.out.below HBA5.out)
        have HB05 := Lib.hid (below_step HB.out HB.out.size HBA5.out)
        have hsz5 : w.heap.size + 1 ≤ wr.heap.size := HD.out.lt
        go_wp2_with (at_builtin; refine wpList_append_lies _ (by rfl) _ _ _ (by rfl) (w.heap.size + 1) 81 i0 (depV 0 0 0 0) 4 32 Tryz.underlying31 HI0.out HX0.out.1 HX0.out.2.1 HX0.out.2.2 (by rfl) (by omega) v (zs).length ((zs).flatMap dpVals) (by rfl) HRA5.out ⟨wr.heap.size, 0, none⟩ 1 1 (dpVals ⟨dk, dc, ds, dq⟩) (by rfl) (by rfl) (oneD_cells wr _ ⟨dk, dc, ds, dq⟩) (dp_one _) (by omega) (by unfold maxLen; (try simp); omega) (by (try simp); omega) (by (try simp); omega) _ rfl ?_; intro g5 cp5 w5 hown5 hgrow5 hg5 _; refine Hid.out ?_)
        refine Lib.hid ?_
        have HB5 : Hid (Below w.heap.size w w5) := HB05.out.grown hgrow5 HB05.out.size fun j hj => by have := (World.ownsRow.lt HRA5.out j hj).1; omega
        have HR5 : Hid (RowD w5 (w.heap.size + 1) (.slice (some ⟨g5, 0, none⟩) ((zs).length + 1) cp5) (zs ++ [⟨dk, dc, ds, dq⟩])) := by
          refine Lib.hid ?_
          unfold RowD
          rw [List.length_append, List.flatMap_append]
          simpa using hown5
        have hob5 : (v).ownBlock ≠ some w.heap.size := fun e => by have := (World.ownsRow.lt HRA5.out _ e).1; omega
        have HD5 : Hid (DBox w5 w.heap.size ⟨dk, dc, ds, dq⟩) := HDA5.out.of_block hgrow5.size (hgrow5.block _ HDA5.out.lt (fun e => hob5 e.symm))
        rw [← HL.out] at HR5
        have HRF := Lib.hid (HR5.out.mono (Nat.le_succ _))
        go_wp2
        go_ret
        exact ⟨_, rfl, HRF.out, HB5.out⟩
      · have HL : Hid (laterL xs ⟨dk, dc, ds, dq⟩ = zs) := by
          unfold laterL
          rw [HF.out]
          simp [Hid]
        rw [← HL.out] at HR
        have HRF := Lib.hid (HR.out.mono (Nat.le_succ _))
        go_wp2
        go_ret
        exact ⟨_, rfl, HRF.out, HB.out⟩

end Go.Proofs.YtbbmpfkijhhemaaGreatDoor

namespace Go.Proofs.YtbbmpfkijhhemaaGreatDoor
open Go.ChangeShapes Go.WideShapes Go.ChangeAt Go.RowKit Go.Joins
set_option maxRecDepth 100000
attribute [local go_sem ↓] Go.wp_at_zero Go.wp_at_succ

def bitB (mask : Int) (k : Int) : Bool := decide (mask / 2 ^ k.toNat % 2 = 1)

def headD (x : Wr) : Dp := ⟨x.k, x.c, x.s, x.q⟩

def becRun (mask : Int) (out : List Dp) (x : Wr) : List Dp := if bitB mask x.k = true then x.xs.foldl laterL (laterL out (headD x)) else out

def becL (ws : List Wr) (mask : Int) : List Dp := ws.foldl (becRun mask) []

def becB (ws : List Wr) (mask : Int) : List Dp := if mapOkB ws = true ∧ 0 ≤ mask then becL ws mask else []

theorem laterL_len (xs : List Dp) (d : Dp) : (laterL xs d).length ≤ xs.length + 1 := by
  have h := laterRun_len xs d xs.length (Nat.le_refl _)
  rw [List.take_length] at h
  unfold laterL
  split
  · rename_i hp
    rw [if_pos hp] at h
    omega
  · rename_i hp
    rw [if_neg hp] at h
    simp
    omega

theorem becL_take (ws : List Wr) (mask : Int) (k : Nat) (h : k < ws.length) : becL (ws.take (k + 1)) mask = becRun mask (becL (ws.take k) mask) (ws.getD k wz) := by
  unfold becL
  have e : ws.take (k + 1) = ws.take k ++ [ws.getD k wz] := by
    rw [List.take_add_one, List.getElem?_eq_getElem h]
    simp [List.getD, h]
  rw [e, List.foldl_append]
  rfl

theorem laterF_take (xs out : List Dp) (k : Nat) (h : k < xs.length) : (xs.take (k + 1)).foldl laterL out = laterL ((xs.take k).foldl laterL out) (xs.getD k dz) := by
  have e : xs.take (k + 1) = xs.take k ++ [xs.getD k dz] := by
    rw [List.take_add_one, List.getElem?_eq_getElem h]
    simp [List.getD, h]
  rw [e, List.foldl_append]
  rfl

set_option maxHeartbeats 1000000 in
theorem bit7_any (mask : Int) (k : Nat) (w : World) (h0 : 0 ≤ mask) (_h1 : mask ≤ 9223372036854775807) (hk : k ≤ 5) :
    Calls Tryz.prog 78 #[.int .i64 mask, .int .i64 (k : Int)] w fun e w' => e = .returned (.bool (bitB mask (k : Int))) ∧ w' = w := by
  have hp : (0 : Int) < 2 ^ k := Int.pow_pos (by omega)
  have hd0 : 0 ≤ mask / 2 ^ k := Int.ediv_nonneg h0 (by omega)
  have hd1 : mask / 2 ^ k ≤ mask := Int.ediv_le_self _ h0
  have hm : (mask / 2 ^ k).tmod 2 = mask / 2 ^ k % 2 := Int.tmod_eq_emod_of_nonneg hd0
  have k0 : (0 : Int) ≤ (k : Int) := by omega
  have hb : bitB mask (k : Int) = decide (mask / 2 ^ k % 2 = 1) := rfl
  rw [hb]
  clear hb
  go_enter Tryz.func78, Tryz.ntmps78
  go_wp2
  go_ret
  exact ⟨rfl, rfl⟩

end Go.Proofs.YtbbmpfkijhhemaaGreatDoor

namespace Go.Proofs.YtbbmpfkijhhemaaGreatDoor

def RiseD (xs : List Dp) : Prop := xs.Pairwise fun x y => x.k < y.k

def insD : List Dp → Dp → List Dp
  | [], d => [d]
  | x :: r, d => if x.k = d.k then lastD x d :: r else if d.k < x.k then d :: x :: r else x :: insD r d

theorem laterStep_past (d : Dp) : ∀ (xs acc : List Dp), (∀ y ∈ xs, d.k < y.k) → xs.foldl (laterStep d) (acc, true) = (acc ++ xs, true)
  | [], acc, _ => by simp
  | y :: r, acc, h => by
    have hy : d.k < y.k := h y (by simp)
    have e : laterStep d (acc, true) y = (acc ++ [y], true) := by
      unfold laterStep
      rw [if_neg (by omega), if_neg (by simp)]
    rw [List.foldl_cons, e, laterStep_past d r _ fun z hz => h z (by simp [hz])]
    simp

theorem laterStep_fold (d : Dp) : ∀ (xs acc : List Dp), RiseD xs → (if (xs.foldl (laterStep d) (acc, false)).2 = true then (xs.foldl (laterStep d) (acc, false)).1 else (xs.foldl (laterStep d) (acc, false)).1 ++ [d]) = acc ++ insD xs d
  | [], acc, _ => by simp [insD]
  | y :: r, acc, h => by
    have hp := List.pairwise_cons.1 h
    rw [List.foldl_cons]
    unfold insD
    by_cases h1 : y.k = d.k
    · have hr : ∀ z ∈ r, d.k < z.k := fun z hz => by have := hp.1 z hz; omega
      have e : laterStep d (acc, false) y = (acc ++ [lastD y d], true) := by simp [laterStep, h1]
      rw [e, laterStep_past d r _ hr]
      simp [h1]
    · by_cases h2 : d.k < y.k
      · have hr : ∀ z ∈ r, d.k < z.k := fun z hz => by have := hp.1 z hz; omega
        have e : laterStep d (acc, false) y = (acc ++ [d] ++ [y], true) := by simp [laterStep, h1, h2]
        rw [e, laterStep_past d r _ hr]
        simp [h1, h2]
      · have e : laterStep d (acc, false) y = (acc ++ [y], false) := by simp [laterStep, h1, h2]
        rw [e, laterStep_fold d r _ hp.2]
        simp [h1, h2]

theorem laterL_eq {xs : List Dp} (h : RiseD xs) (d : Dp) : laterL xs d = insD xs d := by
  have := laterStep_fold d xs [] h
  rw [List.nil_append] at this
  exact this

structure Tg where
  c : Int
  s : Int
  q : Int

def tgz : Tg := ⟨0, 0, 0⟩

def putC (ts : List Tg) (d : Dp) : List Tg := if 0 < tcmp d.c d.s d.q (ts.getD d.k.toNat tgz).c (ts.getD d.k.toNat tgz).s (ts.getD d.k.toNat tgz).q then ts.set d.k.toNat ⟨d.c, d.s, d.q⟩ else ts

theorem putC_len (ts : List Tg) (d : Dp) : (putC ts d).length = ts.length := by
  unfold putC
  split <;> simp

def isZ (t : Tg) : Bool := decide (t.c = 0 ∧ t.s = 0 ∧ t.q = 0)

def tellAt : Nat → List Tg → List Dp
  | _, [] => []
  | i, t :: r => (if isZ t = true then [] else [⟨(i : Int), t.c, t.s, t.q⟩]) ++ tellAt (i + 1) r

theorem tellAt_ge : ∀ (ts : List Tg) (i : Nat), ∀ x ∈ tellAt i ts, (i : Int) ≤ x.k ∧ x.k < i + ts.length
  | [], i, x, h => by simp [tellAt] at h
  | t :: r, i, x, h => by
    unfold tellAt at h
    rcases List.mem_append.1 h with h | h
    · split at h
      · simp at h
      · simp at h
        rw [h]
        simp
        omega
    · have := tellAt_ge r (i + 1) x h
      simp
      omega

theorem tellAt_rise : ∀ (ts : List Tg) (i : Nat), RiseD (tellAt i ts)
  | [], _ => List.Pairwise.nil
  | t :: r, i => by
    unfold tellAt
    split
    · simpa using tellAt_rise r (i + 1)
    · refine List.Pairwise.cons (fun z hz => ?_) (tellAt_rise r (i + 1))
      have := (tellAt_ge r (i + 1) z hz).1
      simp
      omega

theorem insD_past : ∀ (xs : List Dp) (d : Dp), (∀ x ∈ xs, d.k < x.k) → insD xs d = d :: xs
  | [], _, _ => rfl
  | x :: r, d, h => by
    have := h x (by simp)
    unfold insD
    rw [if_neg (by omega), if_pos this]

theorem tellAt_put : ∀ (ts : List Tg) (i : Nat) (d : Dp) (j : Nat), d.k = ((i + j : Nat) : Int) → j < ts.length → 1 ≤ d.c →
    tellAt i (if 0 < tcmp d.c d.s d.q (ts.getD j tgz).c (ts.getD j tgz).s (ts.getD j tgz).q then ts.set j ⟨d.c, d.s, d.q⟩ else ts) = insD (tellAt i ts) d
  | [], i, d, j, _, h, _ => by simp at h
  | t :: r, i, d, 0, hk, _, hc => by
    have hnz : isZ ⟨d.c, d.s, d.q⟩ = false := by
      unfold isZ
      simp
      omega
    have hd : (⟨(i : Int), d.c, d.s, d.q⟩ : Dp) = d := by
      obtain ⟨dk, dc, ds, dq⟩ := d
      simp at hk ⊢
      omega
    have hpast : ∀ x ∈ tellAt (i + 1) r, d.k < x.k := fun x hx => by have := (tellAt_ge r (i + 1) x hx).1; omega
    by_cases hz : isZ t = true
    · have hz' : t = tgz := by
        unfold isZ at hz
        obtain ⟨c, s, q⟩ := t
        simp at hz
        simp [tgz, hz]
      subst hz'
      have hpos : 0 < tcmp d.c d.s d.q 0 0 0 := by
        have h1 : sgn d.c 0 = 1 := by
          unfold sgn
          rw [if_neg (by omega), if_pos (by omega)]
        rw [tcmp_lex, h1]
        unfold lexI
        rw [if_pos (by decide)]
        decide
      simp only [List.getD_cons_zero, List.set_cons_zero, tgz, hpos, if_true]
      unfold tellAt
      rw [hnz]
      simp only [isZ]
      simp [insD_past _ _ hpast, hd]
    · simp only [List.getD_cons_zero, List.set_cons_zero]
      have hzf : isZ t = false := by simpa using hz
      have hneg := tcmp_neg d.c d.s d.q t.c t.s t.q
      conv => rhs; unfold tellAt
      simp only [hzf, Bool.false_eq_true, if_false, List.singleton_append]
      have hins : insD (⟨(i : Int), t.c, t.s, t.q⟩ :: tellAt (i + 1) r) d = lastD ⟨(i : Int), t.c, t.s, t.q⟩ d :: tellAt (i + 1) r := by
        unfold insD
        exact if_pos (by simp [hk])
      rw [hins]
      by_cases hp : 0 < tcmp d.c d.s d.q t.c t.s t.q
      · rw [if_pos hp]
        have hl : lastD ⟨(i : Int), t.c, t.s, t.q⟩ d = d := by
          unfold lastD
          exact if_pos (by show tcmp t.c t.s t.q d.c d.s d.q < 0; omega)
        rw [hl]
        conv => lhs; unfold tellAt
        simp only [hnz, Bool.false_eq_true, if_false, List.singleton_append, hd]
      · rw [if_neg hp]
        have hl : lastD ⟨(i : Int), t.c, t.s, t.q⟩ d = ⟨(i : Int), t.c, t.s, t.q⟩ := by
          unfold lastD
          exact if_neg (by show ¬ tcmp t.c t.s t.q d.c d.s d.q < 0; omega)
        rw [hl]
        conv => lhs; unfold tellAt
        simp only [hzf, Bool.false_eq_true, if_false, List.singleton_append]
  | t :: r, i, d, j + 1, hk, hj, hc => by
    have ih := tellAt_put r (i + 1) d j (by rw [hk]; omega) (by simpa using hj) hc
    simp only [List.getD_cons_succ, List.set_cons_succ]
    have hins : insD (tellAt i (t :: r)) d = (if isZ t = true then [] else [⟨(i : Int), t.c, t.s, t.q⟩]) ++ insD (tellAt (i + 1) r) d := by
      conv => lhs; unfold tellAt
      split
      · rfl
      · simp only [List.singleton_append]
        conv => lhs; unfold insD
        rw [if_neg (by simp; omega), if_neg (by simp; omega)]
    rw [hins, ← ih]
    split
    · rw [tellAt]
    · rw [tellAt]

def tellC (ts : List Tg) : List Dp := tellAt 0 ts

theorem tell_put (ts : List Tg) (d : Dp) (hl : ts.length = 6) (h0 : 0 ≤ d.k) (h1 : d.k ≤ 5) (hc : 1 ≤ d.c) : tellC (putC ts d) = laterL (tellC ts) d := by
  unfold tellC
  rw [laterL_eq (tellAt_rise ts 0)]
  exact tellAt_put ts 0 d d.k.toNat (by omega) (by omega) hc

theorem tell_puts : ∀ (xs : List Dp) (ts : List Tg), ts.length = 6 → (∀ d ∈ xs, (0 ≤ d.k ∧ d.k ≤ 5) ∧ 1 ≤ d.c) → tellC (xs.foldl putC ts) = xs.foldl laterL (tellC ts) ∧ (xs.foldl putC ts).length = 6
  | [], _, hl, _ => ⟨rfl, hl⟩
  | d :: r, ts, hl, h => by
    have hd := h d (by simp)
    have := tell_puts r (putC ts d) (by rw [putC_len]; exact hl) fun x hx => h x (by simp [hx])
    rw [tell_put ts d hl hd.1.1 hd.1.2 hd.2] at this
    exact this

def cz : List Tg := [tgz, tgz, tgz, tgz, tgz, tgz]

theorem tell_cz : tellC cz = [] := by decide

def cauRun (mask : Int) (ts : List Tg) (x : Wr) : List Tg := if bitB mask x.k = true then x.xs.foldl putC (putC ts (headD x)) else ts

def cauL (ws : List Wr) (mask : Int) : List Tg := ws.foldl (cauRun mask) cz

theorem tagOk_c {c s q : Int} (h : tagOkB c s q = true) : 1 ≤ c := by
  simp [tagOkB, btw] at h
  omega

theorem cau_run {x : Wr} (hx : okW x = true) (mask : Int) (ts : List Tg) (hl : ts.length = 6) : tellC (cauRun mask ts x) = becRun mask (tellC ts) x ∧ (cauRun mask ts x).length = 6 := by
  unfold cauRun becRun
  obtain ⟨hk, ht, hd⟩ := okW_parts hx
  split
  · have h1 := tell_put ts (headD x) hl hk.1 hk.2 (tagOk_c ht)
    have := tell_puts x.xs (putC ts (headD x)) (by rw [putC_len]; exact hl) fun d hd' => ⟨(depsOk_each hd hd').1, tagOk_c (depsOk_each hd hd').2⟩
    rw [h1] at this
    exact this
  · exact ⟨rfl, hl⟩

theorem cau_fold (mask : Int) : ∀ (ws : List Wr) (ts : List Tg), ts.length = 6 → (∀ x ∈ ws, okW x = true) → tellC (ws.foldl (cauRun mask) ts) = ws.foldl (becRun mask) (tellC ts) ∧ (ws.foldl (cauRun mask) ts).length = 6
  | [], _, hl, _ => ⟨rfl, hl⟩
  | x :: r, ts, hl, h => by
    obtain ⟨h1, h2⟩ := cau_run (h x (by simp)) mask ts hl
    have := cau_fold mask r (cauRun mask ts x) h2 fun y hy => h y (by simp [hy])
    rw [h1] at this
    exact this

theorem cau_tell {ws : List Wr} (h : mapOkB ws = true) (mask : Int) : tellC (cauL ws mask) = becL ws mask := by
  have := (cau_fold mask ws cz rfl ((mapOk_iff ws).1 h).1).1
  rw [tell_cz] at this
  exact this

end Go.Proofs.YtbbmpfkijhhemaaGreatDoor
