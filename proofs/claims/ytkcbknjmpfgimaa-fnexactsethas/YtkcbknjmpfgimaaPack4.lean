import Derived.Test.YtkcbknjmpfgimaaPack3
import Derived.Test.YtkcbknjmpfgimaaPack1
import Derived.WalkSmall
import Derived.Test.YtkcbknjmpfgimaaPack2
import Derived.Laws.Append
import Derived.Maps.OwnSet
import Derived.DeepKeys4
import Derived.Maps.RangeWalk
import Derived.Deep.DrawnRows
namespace Go.Proofs.Ytkcbknjmpfgimaa
open Go.ChangeShapes Go.WideShapes Go.ChangeAt Go.RowKit Go.Joins
attribute [local go_sem ↓] Go.wp_at_zero Go.wp_at_succ
set_option maxRecDepth 100000

theorem stcmp_is (c s q c' s' q' x : Int) (h : tcmp c s q c' s' q' = x) (w : World) :
    Calls Try.prog 34 #[tagV c s q, tagV c' s' q'] w fun e w' => e = .returned (.int .i64 x) ∧ Below w.heap.size w w' := by
  rw [← h]
  exact specTagCmp_any c s q c' s' q' w

theorem betweenE_is (n : Int) (v : Bool) (h : btw n 0 1000 = v) (w : World) :
    Calls Try.prog 33 #[.int .i64 n, .int .i64 0, .int .i64 1000] w fun e w' => e = .returned (.bool v) ∧ w' = w := by
  rw [← h]
  exact between_any n 0 1000 w

def marksOkB (us : List Mk) : Bool := us.all (fun m => btw m.e 0 1000) && tagsOkB (us.map mkT)

theorem setOk_split (us : List Mk) (ds : List Tm) : setOkB us ds = (marksOkB us && tagsOkB ds) := rfl

def markGood (us : List Mk) (k : Nat) : Bool := tOk (mkT (us.getD k mkZ)) && btw (us.getD k mkZ).e 0 1000 && decide (k = 0 ∨ tc (mkT (us.getD (k - 1) mkZ)) (mkT (us.getD k mkZ)) < 0)

theorem marks_true {us : List Mk} (h : ∀ k, k < us.length → markGood us k = true) : marksOkB us = true := by
  unfold marksOkB
  rw [Bool.and_eq_true, List.all_eq_true]
  constructor
  · intro m hm
    obtain ⟨i, hi, rfl⟩ := List.mem_iff_getElem.1 hm
    have h1 := h i hi
    unfold markGood at h1
    rw [Bool.and_eq_true, Bool.and_eq_true, List.getD_eq_getElem?_getD, List.getElem?_eq_getElem hi] at h1
    exact h1.1.2
  · refine tagsOk_all _ fun k hk => ?_
    rw [List.length_map] at hk
    have h1 := h k hk
    unfold markGood at h1
    unfold tagGood
    rw [Bool.and_eq_true, Bool.and_eq_true] at h1
    rw [Bool.and_eq_true, getD_map hk]
    refine ⟨h1.1.1, ?_⟩
    have h2 := h1.2
    cases k with
    | zero => simp
    | succ j => rw [getD_map (by omega)]; exact h2

theorem marks_false {us : List Mk} {k : Nat} (hk : k < us.length) (h : markGood us k = false) : marksOkB us = false := by
  cases e : marksOkB us
  · rfl
  · exfalso
    unfold marksOkB at e
    rw [Bool.and_eq_true, List.all_eq_true] at e
    have h1 := tagsOk_good _ e.2 k (by simpa using hk)
    have h2 := e.1 us[k] (List.getElem_mem hk)
    have e1 : us.getD k mkZ = us[k] := by
      rw [List.getD_eq_getElem?_getD, List.getElem?_eq_getElem hk]
      rfl
    unfold tagGood at h1
    rw [Bool.and_eq_true, getD_map hk] at h1
    have h3 : markGood us k = true := by
      unfold markGood
      rw [Bool.and_eq_true, Bool.and_eq_true]
      refine ⟨⟨h1.1, by rw [e1]; exact h2⟩, ?_⟩
      have h4 := h1.2
      cases k with
      | zero => simp
      | succ j => rw [getD_map (by omega)] at h4; exact h4
    rw [h3] at h
    cases h

theorem sgn3 {x : Int} (h : -1 ≤ x ∧ x ≤ 1) : x = -1 ∨ x = 0 ∨ x = 1 := by omega

set_option maxHeartbeats 8000000 in
theorem specSetOk_any (a : Option Addr) (n cap : Nat) (b : Option Addr) (m cb : Nat) (us : List Mk) (ds : List Tm) (w : World) (hl : us.length = n) (hn : n ≤ maxLen) (hl' : ds.length = m) (hm : m ≤ maxLen) (hh : IsSt w a b us ds) :
    Calls Try.prog 10 #[setV a n cap b m cb] w fun e w' => e = .returned (.bool (setOkB us ds)) ∧ Below w.heap.size w w' := by
  have HB0 : Hid (Below w.heap.size w (w.alloc (.cells #[.slice a n cap, .slice b m cb] 31))) := (Below.refl _ _).alloc (Nat.le_refl _) _
  have HC : Hid (IsSt (w.alloc (.cells #[.slice a n cap, .slice b m cb] 31)) a b us ds) := hh.below HB0.out
  have HL := Lib.hid hl
  have HL' := Lib.hid hl'
  have hn2 : n ≤ 9223372036854775807 := Nat.le_trans hn (by decide)
  have hm2 : m ≤ 9223372036854775807 := Nat.le_trans hm (by decide)
  clear hh hl hl' hn hm
  go_enter Try.func10, Try.ntmps10
  go_wp2_with fail
  have c0 : (w.alloc (.cells #[.slice a n cap, .slice b m cb] 31)).cell? ⟨w.heap.size, 0, none⟩ = some (.slice a n cap) := by go_simp
  have c1 : (w.alloc (.cells #[.slice a n cap, .slice b m cb] 31)).cell? ⟨w.heap.size, 1, none⟩ = some (.slice b m cb) := by go_simp
  have hz : w.heap.size < (w.alloc (.cells #[.slice a n cap, .slice b m cb] 31)).heap.size := by simp
  generalize w.alloc (.cells #[.slice a n cap, .slice b m cb] 31) = V at *
  go_loopw [3] (fun i wr => ∃ k : Nat, k ≤ n ∧ i = .int .i64 k ∧ Hid (∀ j, j < k → markGood us j = true) ∧ Hid (Below V.heap.size V wr)) (fun i _ => n - (intOf i).toNat)
  case atStart => exact ⟨0, Nat.zero_le _, rfl, fun j hj => by omega, Below.refl _ _⟩
  case round =>
    obtain ⟨k, hk, rfl, HG, HB⟩ := hrel
    have d0 := fl_cells HB.out hz c0
    have d1 := fl_cells HB.out hz c1
    have hzr := Nat.lt_of_lt_of_le hz HB.out.size
    by_cases hk' : k < n
    · have hkk : k < us.length := by rw [HL.out]; exact hk'
      obtain ⟨b', o, rfl, hzb, hat⟩ := HC.out.1.at HB.out hkk
      obtain ⟨e0, e1, e2, e3⟩ := mk_at hat
      simp only [show mkF.k = 4 from rfl, show mkF.z = mkZ from rfl] at e0 e1 e2 e3
      have HD : Hid (markGood us k = (tOk (mkT (us.getD k mkZ)) && btw (us.getD k mkZ).e 0 1000 && decide (k = 0 ∨ tc (mkT (us.getD (k - 1) mkZ)) (mkT (us.getD k mkZ)) < 0))) := rfl
      have i1 : (0 : Int) ≤ (k : Int) := by omega
      have i2 : (k : Int) < (n : Int) := by omega
      clear hat c0 c1
      cases h2 : tagOkB (us.getD k mkZ).c (us.getD k mkZ).s (us.getD k mkZ).q
      · have HF : Hid (setOkB us ds = false) := by
          show setOkB us ds = false
          rw [setOk_split, marks_false hkk (by rw [HD.out]; show (tagOkB (us.getD k mkZ).c (us.getD k mkZ).s (us.getD k mkZ).q && _ && _) = false; rw [h2]; rfl)]
          rfl
        clear HD
        generalize (us.getD k mkZ).e = ye at *
        generalize (us.getD k mkZ).c = yc at *
        generalize (us.getD k mkZ).s = ys at *
        generalize (us.getD k mkZ).q = yq at *
        go_wp2_with fail
        have gd0 := aft_cell hzr d0
        have gd1 := aft_cell hzr d1
        have ge0 := aft_cell hzb e0
        have ge1 := aft_cell hzb e1
        have ge2 := aft_cell hzb e2
        have ge3 := aft_cell hzb e3
        have ne := aft_some wr
        refine wp_region_aft (by kernel_rfl) (by kernel_rfl) ?_
        repeat (first | go_big_quiet_step (first | (go_at_call 32; exact aft_of (specTagOk_is _ _ _ false h2 _))))
        refine wpQuiet_nil ?_
        intro wq hq
        go_wp2
        go_ret
        exact ⟨ret_bool HF.out.symm, HB0.out.trans ((below_step HB.out HB.out.size hq).mono HB0.out.size)⟩
      · cases h1 : btw (us.getD k mkZ).e 0 1000
        · have HF : Hid (setOkB us ds = false) := by
            show setOkB us ds = false
            rw [setOk_split, marks_false hkk (by rw [HD.out, h1, Bool.and_false]; rfl)]
            rfl
          clear HD
          generalize (us.getD k mkZ).e = ye at *
          generalize (us.getD k mkZ).c = yc at *
          generalize (us.getD k mkZ).s = ys at *
          generalize (us.getD k mkZ).q = yq at *
          go_wp2_with fail
          have gd0 := aft_cell hzr d0
          have gd1 := aft_cell hzr d1
          have ge0 := aft_cell hzb e0
          have ge1 := aft_cell hzb e1
          have ge2 := aft_cell hzb e2
          have ge3 := aft_cell hzb e3
          have ne := aft_some wr
          refine wp_region_aft (by kernel_rfl) (by kernel_rfl) ?_
          repeat (first | go_big_quiet_step (first | (go_at_call 32; exact aft_of (specTagOk_is _ _ _ true h2 _)) | (go_at_call 33; exact aft_same (betweenE_is _ false h1 _))))
          refine wpQuiet_nil ?_
          intro wq hq
          go_wp2
          go_ret
          exact ⟨ret_bool HF.out.symm, HB0.out.trans ((below_step HB.out HB.out.size hq).mono HB0.out.size)⟩
        · by_cases h0 : k = 0
          · have HG' : Hid (∀ j, j < k + 1 → markGood us j = true) := fun j hj => by
              by_cases h : j < k
              · exact HG.out j h
              · have : j = k := by omega
                rw [this, HD.out, h1, decide_eq_true (Or.inl h0)]
                show (tagOkB (us.getD k mkZ).c (us.getD k mkZ).s (us.getD k mkZ).q && true && true) = true
                rw [h2]
                rfl
            have hd : decide (0 < k) = false := by simp [h0]
            clear HD h0
            generalize (us.getD k mkZ).e = ye at *
            generalize (us.getD k mkZ).c = yc at *
            generalize (us.getD k mkZ).s = ys at *
            generalize (us.getD k mkZ).q = yq at *
            go_wp2_with fail
            have gd0 := aft_cell hzr d0
            have gd1 := aft_cell hzr d1
            have ge0 := aft_cell hzb e0
            have ge1 := aft_cell hzb e1
            have ge2 := aft_cell hzb e2
            have ge3 := aft_cell hzb e3
            have ne := aft_some wr
            refine wp_region_aft (by kernel_rfl) (by kernel_rfl) ?_
            repeat (first | go_big_quiet_step (first | (go_at_call 32; exact aft_of (specTagOk_is _ _ _ true h2 _)) | (go_at_call 33; exact aft_same (betweenE_is _ true h1 _))))
            refine wpQuiet_nil ?_
            intro wq hq
            go_wp2
            exact ⟨⟨k + 1, by omega, by go_num, HG', below_step HB.out HB.out.size hq⟩, by simp [intOf]; omega⟩
          · obtain ⟨j, rfl⟩ : ∃ j, k = j + 1 := ⟨k - 1, by omega⟩
            obtain ⟨b2, o2, hbo, -, hat2⟩ := HC.out.1.at HB.out (show j < us.length by omega)
            obtain ⟨f0, f1, f2, f3⟩ := mk_at hat2
            simp only [show mkF.k = 4 from rfl, show mkF.z = mkZ from rfl] at f0 f1 f2 f3
            injection hbo with hbo
            injection hbo with hb1 hb2
            subst hb1 hb2
            clear hat2 f0
            rw [show j + 1 - 1 = j from rfl] at HD
            have i3 : (j : Int) + 1 < (n : Int) := by omega
            have HX : Hid (tc (mkT (us.getD j mkZ)) (mkT (us.getD (j + 1) mkZ)) = tcmp (us.getD j mkZ).c (us.getD j mkZ).s (us.getD j mkZ).q (us.getD (j + 1) mkZ).c (us.getD (j + 1) mkZ).s (us.getD (j + 1) mkZ).q) := rfl
            have HT : Hid (tOk (mkT (us.getD (j + 1) mkZ)) = true) := h2
            rcases sgn3 (tcmp_bd (us.getD j mkZ).c (us.getD j mkZ).s (us.getD j mkZ).q (us.getD (j + 1) mkZ).c (us.getD (j + 1) mkZ).s (us.getD (j + 1) mkZ).q) with hx | hx | hx
            · have HG' : Hid (∀ i, i < j + 1 + 1 → markGood us i = true) := fun i hi => by
                by_cases h : i < j + 1
                · exact HG.out i h
                · have : i = j + 1 := by omega
                  rw [this, HD.out, h1, HT.out, decide_eq_true (Or.inr (by rw [HX.out, hx]; decide))]
                  rfl
              clear HD HX HT
              generalize (us.getD j mkZ).c = pc at *
              generalize (us.getD j mkZ).s = ps at *
              generalize (us.getD j mkZ).q = pq at *
              generalize (us.getD (j + 1) mkZ).e = ye at *
              generalize (us.getD (j + 1) mkZ).c = yc at *
              generalize (us.getD (j + 1) mkZ).s = ys at *
              generalize (us.getD (j + 1) mkZ).q = yq at *
              go_wp2_with fail
              have gd0 := aft_cell hzr d0
              have gd1 := aft_cell hzr d1
              have ge0 := aft_cell hzb e0
              have ge1 := aft_cell hzb e1
              have ge2 := aft_cell hzb e2
              have ge3 := aft_cell hzb e3
              have gf1 := aft_cell hzb f1
              have gf2 := aft_cell hzb f2
              have gf3 := aft_cell hzb f3
              have ne := aft_some wr
              refine wp_region_aft (by kernel_rfl) (by kernel_rfl) ?_
              repeat (first | go_big_quiet_step (first | (go_at_call 32; exact aft_of (specTagOk_is _ _ _ true h2 _)) | (go_at_call 33; exact aft_same (betweenE_is _ true h1 _)) | (go_at_call 34; exact aft_of (stcmp_is _ _ _ _ _ _ _ hx _))))
              refine wpQuiet_nil ?_
              intro wq hq
              go_wp2
              exact ⟨⟨j + 1 + 1, by omega, by go_num, HG', below_step HB.out HB.out.size hq⟩, by simp [intOf]; omega⟩
            · have HF : Hid (setOkB us ds = false) := by
                show setOkB us ds = false
                rw [setOk_split, marks_false hkk (by rw [HD.out, HX.out, hx]; simp)]
                rfl
              clear HD HX HT
              generalize (us.getD j mkZ).c = pc at *
              generalize (us.getD j mkZ).s = ps at *
              generalize (us.getD j mkZ).q = pq at *
              generalize (us.getD (j + 1) mkZ).e = ye at *
              generalize (us.getD (j + 1) mkZ).c = yc at *
              generalize (us.getD (j + 1) mkZ).s = ys at *
              generalize (us.getD (j + 1) mkZ).q = yq at *
              go_wp2_with fail
              have gd0 := aft_cell hzr d0
              have gd1 := aft_cell hzr d1
              have ge0 := aft_cell hzb e0
              have ge1 := aft_cell hzb e1
              have ge2 := aft_cell hzb e2
              have ge3 := aft_cell hzb e3
              have gf1 := aft_cell hzb f1
              have gf2 := aft_cell hzb f2
              have gf3 := aft_cell hzb f3
              have ne := aft_some wr
              refine wp_region_aft (by kernel_rfl) (by kernel_rfl) ?_
              repeat (first | go_big_quiet_step (first | (go_at_call 32; exact aft_of (specTagOk_is _ _ _ true h2 _)) | (go_at_call 33; exact aft_same (betweenE_is _ true h1 _)) | (go_at_call 34; exact aft_of (stcmp_is _ _ _ _ _ _ _ hx _))))
              refine wpQuiet_nil ?_
              intro wq hq
              go_wp2
              go_ret
              exact ⟨ret_bool HF.out.symm, HB0.out.trans ((below_step HB.out HB.out.size hq).mono HB0.out.size)⟩
            · have HF : Hid (setOkB us ds = false) := by
                show setOkB us ds = false
                rw [setOk_split, marks_false hkk (by rw [HD.out, HX.out, hx]; simp)]
                rfl
              clear HD HX HT
              generalize (us.getD j mkZ).c = pc at *
              generalize (us.getD j mkZ).s = ps at *
              generalize (us.getD j mkZ).q = pq at *
              generalize (us.getD (j + 1) mkZ).e = ye at *
              generalize (us.getD (j + 1) mkZ).c = yc at *
              generalize (us.getD (j + 1) mkZ).s = ys at *
              generalize (us.getD (j + 1) mkZ).q = yq at *
              go_wp2_with fail
              have gd0 := aft_cell hzr d0
              have gd1 := aft_cell hzr d1
              have ge0 := aft_cell hzb e0
              have ge1 := aft_cell hzb e1
              have ge2 := aft_cell hzb e2
              have ge3 := aft_cell hzb e3
              have gf1 := aft_cell hzb f1
              have gf2 := aft_cell hzb f2
              have gf3 := aft_cell hzb f3
              have ne := aft_some wr
              refine wp_region_aft (by kernel_rfl) (by kernel_rfl) ?_
              repeat (first | go_big_quiet_step (first | (go_at_call 32; exact aft_of (specTagOk_is _ _ _ true h2 _)) | (go_at_call 33; exact aft_same (betweenE_is _ true h1 _)) | (go_at_call 34; exact aft_of (stcmp_is _ _ _ _ _ _ _ hx _))))
              refine wpQuiet_nil ?_
              intro wq hq
              go_wp2
              go_ret
              exact ⟨ret_bool HF.out.symm, HB0.out.trans ((below_step HB.out HB.out.size hq).mono HB0.out.size)⟩
    · have HM : Hid (setOkB us ds = tagsOkB ds) := by
        show setOkB us ds = tagsOkB ds
        rw [setOk_split, marks_true fun j hj => HG.out j (by have := HL.out; omega), Bool.true_and]
      have HBW := HB
      clear HG
      go_wp2
      go_loopw [4] (fun i wr => ∃ k : Nat, k ≤ m ∧ i = .int .i64 k ∧ Hid (∀ j, j < k → tagGood ds j = true) ∧ Hid (Below V.heap.size V wr)) (fun i _ => m - (intOf i).toNat)
      case atStart => exact ⟨0, Nat.zero_le _, rfl, fun j hj => by omega, HBW⟩
      case round =>
        clear d0 d1 hzr HB HBW
        obtain ⟨k, hk, rfl, HG, HB⟩ := hrel
        have d0 := fl_cells HB.out hz c0
        have d1 := fl_cells HB.out hz c1
        have hzr := Nat.lt_of_lt_of_le hz HB.out.size
        by_cases hk' : k < m
        · have hkk : k < ds.length := by rw [HL'.out]; exact hk'
          obtain ⟨b', o, rfl, hzb, hat⟩ := HC.out.2.at HB.out hkk
          obtain ⟨e0, e1, e2⟩ := tm_at hat
          simp only [show tmF.k = 3 from rfl, show tmF.z = tmZ from rfl] at e0 e1 e2
          have HD : Hid (tagGood ds k = (tOk (ds.getD k tmZ) && decide (k = 0 ∨ tc (ds.getD (k - 1) tmZ) (ds.getD k tmZ) < 0))) := rfl
          have i1 : (0 : Int) ≤ (k : Int) := by omega
          have i2 : (k : Int) < (m : Int) := by omega
          clear hat c0 c1
          cases h2 : tagOkB (ds.getD k tmZ).c (ds.getD k tmZ).s (ds.getD k tmZ).q
          · have HF : Hid (setOkB us ds = false) := by
              show setOkB us ds = false
              rw [HM.out]
              exact tagsOk_false hkk (by rw [HD.out]; show (tagOkB (ds.getD k tmZ).c (ds.getD k tmZ).s (ds.getD k tmZ).q && _) = false; rw [h2]; rfl)
            clear HD
            generalize (ds.getD k tmZ).c = yc at *
            generalize (ds.getD k tmZ).s = ys at *
            generalize (ds.getD k tmZ).q = yq at *
            go_wp2_with fail
            have gd0 := aft_cell hzr d0
            have gd1 := aft_cell hzr d1
            have ge0 := aft_cell hzb e0
            have ge1 := aft_cell hzb e1
            have ge2 := aft_cell hzb e2
            have ne := aft_some wr
            refine wp_region_aft (by kernel_rfl) (by kernel_rfl) ?_
            repeat (first | go_big_quiet_step (first | (go_at_call 32; exact aft_of (specTagOk_is _ _ _ false h2 _))))
            refine wpQuiet_nil ?_
            intro wq hq
            go_wp2
            go_ret
            exact ⟨ret_bool HF.out.symm, HB0.out.trans ((below_step HB.out HB.out.size hq).mono HB0.out.size)⟩
          · by_cases h0 : k = 0
            · have HG' : Hid (∀ j, j < k + 1 → tagGood ds j = true) := fun j hj => by
                by_cases h : j < k
                · exact HG.out j h
                · have : j = k := by omega
                  rw [this, HD.out, decide_eq_true (Or.inl h0)]
                  show (tagOkB (ds.getD k tmZ).c (ds.getD k tmZ).s (ds.getD k tmZ).q && true) = true
                  rw [h2]
                  rfl
              have hd : decide (0 < k) = false := by simp [h0]
              clear HD h0
              generalize (ds.getD k tmZ).c = yc at *
              generalize (ds.getD k tmZ).s = ys at *
              generalize (ds.getD k tmZ).q = yq at *
              go_wp2_with fail
              have gd0 := aft_cell hzr d0
              have gd1 := aft_cell hzr d1
              have ge0 := aft_cell hzb e0
              have ge1 := aft_cell hzb e1
              have ge2 := aft_cell hzb e2
              have ne := aft_some wr
              refine wp_region_aft (by kernel_rfl) (by kernel_rfl) ?_
              repeat (first | go_big_quiet_step (first | (go_at_call 32; exact aft_of (specTagOk_is _ _ _ true h2 _))))
              refine wpQuiet_nil ?_
              intro wq hq
              go_wp2
              exact ⟨⟨k + 1, by omega, by go_num, HG', below_step HB.out HB.out.size hq⟩, by simp [intOf]; omega⟩
            · obtain ⟨j, rfl⟩ : ∃ j, k = j + 1 := ⟨k - 1, by omega⟩
              obtain ⟨b2, o2, hbo, -, hat2⟩ := HC.out.2.at HB.out (show j < ds.length by omega)
              obtain ⟨f0, f1, f2⟩ := tm_at hat2
              simp only [show tmF.k = 3 from rfl, show tmF.z = tmZ from rfl] at f0 f1 f2
              injection hbo with hbo
              injection hbo with hb1 hb2
              subst hb1 hb2
              clear hat2
              rw [show j + 1 - 1 = j from rfl] at HD
              have i3 : (j : Int) + 1 < (m : Int) := by omega
              have HX : Hid (tc (ds.getD j tmZ) (ds.getD (j + 1) tmZ) = tcmp (ds.getD j tmZ).c (ds.getD j tmZ).s (ds.getD j tmZ).q (ds.getD (j + 1) tmZ).c (ds.getD (j + 1) tmZ).s (ds.getD (j + 1) tmZ).q) := rfl
              have HT : Hid (tOk (ds.getD (j + 1) tmZ) = true) := h2
              rcases sgn3 (tcmp_bd (ds.getD j tmZ).c (ds.getD j tmZ).s (ds.getD j tmZ).q (ds.getD (j + 1) tmZ).c (ds.getD (j + 1) tmZ).s (ds.getD (j + 1) tmZ).q) with hx | hx | hx
              · have HG' : Hid (∀ i, i < j + 1 + 1 → tagGood ds i = true) := fun i hi => by
                  by_cases h : i < j + 1
                  · exact HG.out i h
                  · have : i = j + 1 := by omega
                    rw [this, HD.out, HT.out, decide_eq_true (Or.inr (by rw [HX.out, hx]; decide))]
                    rfl
                clear HD HX HT
                generalize (ds.getD j tmZ).c = pc at *
                generalize (ds.getD j tmZ).s = ps at *
                generalize (ds.getD j tmZ).q = pq at *
                generalize (ds.getD (j + 1) tmZ).c = yc at *
                generalize (ds.getD (j + 1) tmZ).s = ys at *
                generalize (ds.getD (j + 1) tmZ).q = yq at *
                go_wp2_with fail
                have gd0 := aft_cell hzr d0
                have gd1 := aft_cell hzr d1
                have ge0 := aft_cell hzb e0
                have ge1 := aft_cell hzb e1
                have ge2 := aft_cell hzb e2
                have gf0 := aft_cell hzb f0
                have gf1 := aft_cell hzb f1
                have gf2 := aft_cell hzb f2
                have ne := aft_some wr
                refine wp_region_aft (by kernel_rfl) (by kernel_rfl) ?_
                repeat (first | go_big_quiet_step (first | (go_at_call 32; exact aft_of (specTagOk_is _ _ _ true h2 _)) | (go_at_call 34; exact aft_of (stcmp_is _ _ _ _ _ _ _ hx _))))
                refine wpQuiet_nil ?_
                intro wq hq
                go_wp2
                exact ⟨⟨j + 1 + 1, by omega, by go_num, HG', below_step HB.out HB.out.size hq⟩, by simp [intOf]; omega⟩
              · have HF : Hid (setOkB us ds = false) := by
                  show setOkB us ds = false
                  rw [HM.out]
                  exact tagsOk_false hkk (by rw [HD.out, HX.out, hx]; simp)
                clear HD HX HT
                generalize (ds.getD j tmZ).c = pc at *
                generalize (ds.getD j tmZ).s = ps at *
                generalize (ds.getD j tmZ).q = pq at *
                generalize (ds.getD (j + 1) tmZ).c = yc at *
                generalize (ds.getD (j + 1) tmZ).s = ys at *
                generalize (ds.getD (j + 1) tmZ).q = yq at *
                go_wp2_with fail
                have gd0 := aft_cell hzr d0
                have gd1 := aft_cell hzr d1
                have ge0 := aft_cell hzb e0
                have ge1 := aft_cell hzb e1
                have ge2 := aft_cell hzb e2
                have gf0 := aft_cell hzb f0
                have gf1 := aft_cell hzb f1
                have gf2 := aft_cell hzb f2
                have ne := aft_some wr
                refine wp_region_aft (by kernel_rfl) (by kernel_rfl) ?_
                repeat (first | go_big_quiet_step (first | (go_at_call 32; exact aft_of (specTagOk_is _ _ _ true h2 _)) | (go_at_call 34; exact aft_of (stcmp_is _ _ _ _ _ _ _ hx _))))
                refine wpQuiet_nil ?_
                intro wq hq
                go_wp2
                go_ret
                exact ⟨ret_bool HF.out.symm, HB0.out.trans ((below_step HB.out HB.out.size hq).mono HB0.out.size)⟩
              · have HF : Hid (setOkB us ds = false) := by
                  show setOkB us ds = false
                  rw [HM.out]
                  exact tagsOk_false hkk (by rw [HD.out, HX.out, hx]; simp)
                clear HD HX HT
                generalize (ds.getD j tmZ).c = pc at *
                generalize (ds.getD j tmZ).s = ps at *
                generalize (ds.getD j tmZ).q = pq at *
                generalize (ds.getD (j + 1) tmZ).c = yc at *
                generalize (ds.getD (j + 1) tmZ).s = ys at *
                generalize (ds.getD (j + 1) tmZ).q = yq at *
                go_wp2_with fail
                have gd0 := aft_cell hzr d0
                have gd1 := aft_cell hzr d1
                have ge0 := aft_cell hzb e0
                have ge1 := aft_cell hzb e1
                have ge2 := aft_cell hzb e2
                have gf0 := aft_cell hzb f0
                have gf1 := aft_cell hzb f1
                have gf2 := aft_cell hzb f2
                have ne := aft_some wr
                refine wp_region_aft (by kernel_rfl) (by kernel_rfl) ?_
                repeat (first | go_big_quiet_step (first | (go_at_call 32; exact aft_of (specTagOk_is _ _ _ true h2 _)) | (go_at_call 34; exact aft_of (stcmp_is _ _ _ _ _ _ _ hx _))))
                refine wpQuiet_nil ?_
                intro wq hq
                go_wp2
                go_ret
                exact ⟨ret_bool HF.out.symm, HB0.out.trans ((below_step HB.out HB.out.size hq).mono HB0.out.size)⟩
        · have HF : Hid (setOkB us ds = true) := by
            show setOkB us ds = true
            rw [HM.out]
            exact tagsOk_all _ fun j hj => HG.out j (by have := HL'.out; omega)
          go_wp2
          go_ret
          exact ⟨ret_bool HF.out.symm, HB0.out.trans (HB.out.mono HB0.out.size)⟩

theorem gone_in {ds : List Tm} {k : Nat} {t : Tm} (hk : k < ds.length) (h : ds.getD k tmZ = t) : goneB ds t = true := by
  unfold goneB
  rw [decide_eq_true_iff, ← h, List.getD_eq_getElem?_getD, List.getElem?_eq_getElem hk]
  exact List.getElem_mem hk

theorem gone_out {ds : List Tm} {t : Tm} (h : ∀ k, k < ds.length → ds.getD k tmZ ≠ t) : goneB ds t = false := by
  unfold goneB
  rw [decide_eq_false_iff_not]
  intro hm
  obtain ⟨i, hi, he⟩ := List.mem_iff_getElem.1 hm
  refine h i hi ?_
  rw [List.getD_eq_getElem?_getD, List.getElem?_eq_getElem hi]
  exact he

set_option maxHeartbeats 4000000 in
theorem l13Gone_any (a : Option Addr) (n cap : Nat) (b : Option Addr) (m cb : Nat) (ds : List Tm) (t : Tm) (w : World) (hl' : ds.length = m) (hm : m ≤ maxLen) (hh : tmF.Is w b ds) :
    Calls Try.prog 41 #[setV a n cap b m cb, tagV t.c t.s t.q] w fun e w' => e = .returned (.bool (goneB ds t)) ∧ Below w.heap.size w w' := by
  have HB0 : Hid (Below w.heap.size w ((w.alloc (.cells #[.slice a n cap, .slice b m cb] 31)).alloc (.cells #[.int .i64 t.c, .int .i64 t.s, .int .i64 t.q] 46))) := ((Below.refl _ _).alloc (Nat.le_refl _) _).alloc (by simp) _
  have HC : Hid (tmF.Is ((w.alloc (.cells #[.slice a n cap, .slice b m cb] 31)).alloc (.cells #[.int .i64 t.c, .int .i64 t.s, .int .i64 t.q] 46)) b ds) := hh.below HB0.out
  have HL' := Lib.hid hl'
  have hm2 : m ≤ 9223372036854775807 := Nat.le_trans hm (by decide)
  clear hh hl' hm
  have HT : Hid (∀ k, k < ds.length → ((ds.getD k tmZ = t) ↔ ((ds.getD k tmZ).c = t.c ∧ (ds.getD k tmZ).s = t.s ∧ (ds.getD k tmZ).q = t.q))) := fun k _ => ⟨fun e => by rw [e]; exact ⟨rfl, rfl, rfl⟩, fun ⟨h1, h2, h3⟩ => tm_ext h1 h2 h3⟩
  have HG1 : Hid (∀ k, k < ds.length → ds.getD k tmZ = t → goneB ds t = true) := fun k hk h => gone_in hk h
  have HG2 : Hid ((∀ k, k < ds.length → ds.getD k tmZ ≠ t) → goneB ds t = false) := gone_out
  generalize goneB ds t = G at *
  generalize t.c = tc' at *
  generalize t.s = ts' at *
  generalize t.q = tq' at *
  go_enter Try.func41, Try.ntmps41
  go_wp2_with fail
  have c0 : ((w.alloc (.cells #[.slice a n cap, .slice b m cb] 31)).alloc (.cells #[.int .i64 tc', .int .i64 ts', .int .i64 tq'] 46)).cell? ⟨w.heap.size, 0, none⟩ = some (.slice a n cap) := by go_simp
  have c1 : ((w.alloc (.cells #[.slice a n cap, .slice b m cb] 31)).alloc (.cells #[.int .i64 tc', .int .i64 ts', .int .i64 tq'] 46)).cell? ⟨w.heap.size, 1, none⟩ = some (.slice b m cb) := by go_simp
  have t0 : ((w.alloc (.cells #[.slice a n cap, .slice b m cb] 31)).alloc (.cells #[.int .i64 tc', .int .i64 ts', .int .i64 tq'] 46)).cell? ⟨w.heap.size + 1, 0, none⟩ = some (.int .i64 tc') := by go_simp
  have t1 : ((w.alloc (.cells #[.slice a n cap, .slice b m cb] 31)).alloc (.cells #[.int .i64 tc', .int .i64 ts', .int .i64 tq'] 46)).cell? ⟨w.heap.size + 1, 1, none⟩ = some (.int .i64 ts') := by go_simp
  have t2 : ((w.alloc (.cells #[.slice a n cap, .slice b m cb] 31)).alloc (.cells #[.int .i64 tc', .int .i64 ts', .int .i64 tq'] 46)).cell? ⟨w.heap.size + 1, 2, none⟩ = some (.int .i64 tq') := by go_simp
  have hz' : w.heap.size + 1 < ((w.alloc (.cells #[.slice a n cap, .slice b m cb] 31)).alloc (.cells #[.int .i64 tc', .int .i64 ts', .int .i64 tq'] 46)).heap.size := by simp
  have hz : w.heap.size < ((w.alloc (.cells #[.slice a n cap, .slice b m cb] 31)).alloc (.cells #[.int .i64 tc', .int .i64 ts', .int .i64 tq'] 46)).heap.size := by simp; omega
  generalize (w.alloc (.cells #[.slice a n cap, .slice b m cb] 31)).alloc (.cells #[.int .i64 tc', .int .i64 ts', .int .i64 tq'] 46) = V at *
  go_loopw [5] (fun i wr => ∃ k : Nat, k ≤ m ∧ i = .int .i64 k ∧ Hid (∀ j, j < k → ds.getD j tmZ ≠ t) ∧ Hid (Below V.heap.size V wr)) (fun i _ => m - (intOf i).toNat)
  case atStart => exact ⟨0, Nat.zero_le _, rfl, fun j hj => by omega, Below.refl _ _⟩
  case round =>
    obtain ⟨k, hk, rfl, HG, HB⟩ := hrel
    have d0 := fl_cells HB.out hz c0
    have d1 := fl_cells HB.out hz c1
    have s0 := fl_cells HB.out hz' t0
    have s1 := fl_cells HB.out hz' t1
    have s2 := fl_cells HB.out hz' t2
    have hzr := Nat.lt_of_lt_of_le hz HB.out.size
    have hzt := Nat.lt_of_lt_of_le hz' HB.out.size
    by_cases hk' : k < m
    · have hkk : k < ds.length := by rw [HL'.out]; exact hk'
      obtain ⟨b', o, rfl, hzb, hat⟩ := HC.out.at HB.out hkk
      obtain ⟨e0, e1, e2⟩ := tm_at hat
      simp only [show tmF.k = 3 from rfl, show tmF.z = tmZ from rfl] at e0 e1 e2
      have i1 : (0 : Int) ≤ (k : Int) := by omega
      have i2 : (k : Int) < (m : Int) := by omega
      clear hat c0 c1 t0 t1 t2
      have HE := Lib.hid (HT.out k hkk)
      by_cases hq : (ds.getD k tmZ).c = tc' ∧ (ds.getD k tmZ).s = ts' ∧ (ds.getD k tmZ).q = tq'
      · have HF : Hid (G = true) := HG1.out k hkk (HE.out.2 hq)
        clear HE HG1 HG2 HT
        obtain ⟨q1, q2, q3⟩ := hq
        rw [q1] at e0
        rw [q2] at e1
        rw [q3] at e2
        clear q1 q2 q3
        go_wp2_with fail
        have gd0 := aft_cell hzr d0
        have gd1 := aft_cell hzr d1
        have gs0 := aft_cell hzt s0
        have gs1 := aft_cell hzt s1
        have gs2 := aft_cell hzt s2
        have ge0 := aft_cell hzb e0
        have ge1 := aft_cell hzb e1
        have ge2 := aft_cell hzb e2
        have ne := aft_some wr
        refine wp_region_aft (by kernel_rfl) (by kernel_rfl) ?_
        repeat (first | go_big_quiet_step (fail))
        refine wpQuiet_nil ?_
        intro wq hq
        go_wp2
        go_ret
        exact ⟨ret_bool HF.out.symm, HB0.out.trans ((below_step HB.out HB.out.size hq).mono HB0.out.size)⟩
      · have HG' : Hid (∀ j, j < k + 1 → ds.getD j tmZ ≠ t) := fun j hj => by
          by_cases h : j < k
          · exact HG.out j h
          · have : j = k := by omega
            rw [this]
            exact fun e => hq (HE.out.1 e)
        have hd : ¬ (ds.getD k tmZ).c = tc' ∨ ((ds.getD k tmZ).c = tc' ∧ ¬ (ds.getD k tmZ).s = ts') ∨ ((ds.getD k tmZ).c = tc' ∧ (ds.getD k tmZ).s = ts' ∧ ¬ (ds.getD k tmZ).q = tq') := by omega
        clear HE HG HG1 HG2 hq
        generalize (ds.getD k tmZ).c = yc at *
        generalize (ds.getD k tmZ).s = ys at *
        generalize (ds.getD k tmZ).q = yq at *
        rcases hd with h1 | ⟨rfl, h1⟩ | ⟨rfl, rfl, h1⟩
        · go_wp2_with fail
          have gd0 := aft_cell hzr d0
          have gd1 := aft_cell hzr d1
          have gs0 := aft_cell hzt s0
          have gs1 := aft_cell hzt s1
          have gs2 := aft_cell hzt s2
          have ge0 := aft_cell hzb e0
          have ge1 := aft_cell hzb e1
          have ge2 := aft_cell hzb e2
          have ne := aft_some wr
          refine wp_region_aft (by kernel_rfl) (by kernel_rfl) ?_
          repeat (first | go_big_quiet_step (fail))
          refine wpQuiet_nil ?_
          intro wq hq
          go_wp2
          exact ⟨⟨k + 1, by omega, by go_num, HG', below_step HB.out HB.out.size hq⟩, by simp [intOf]; omega⟩
        · go_wp2_with fail
          have gd0 := aft_cell hzr d0
          have gd1 := aft_cell hzr d1
          have gs0 := aft_cell hzt s0
          have gs1 := aft_cell hzt s1
          have gs2 := aft_cell hzt s2
          have ge0 := aft_cell hzb e0
          have ge1 := aft_cell hzb e1
          have ge2 := aft_cell hzb e2
          have ne := aft_some wr
          refine wp_region_aft (by kernel_rfl) (by kernel_rfl) ?_
          repeat (first | go_big_quiet_step (fail))
          refine wpQuiet_nil ?_
          intro wq hq
          go_wp2
          exact ⟨⟨k + 1, by omega, by go_num, HG', below_step HB.out HB.out.size hq⟩, by simp [intOf]; omega⟩
        · go_wp2_with fail
          have gd0 := aft_cell hzr d0
          have gd1 := aft_cell hzr d1
          have gs0 := aft_cell hzt s0
          have gs1 := aft_cell hzt s1
          have gs2 := aft_cell hzt s2
          have ge0 := aft_cell hzb e0
          have ge1 := aft_cell hzb e1
          have ge2 := aft_cell hzb e2
          have ne := aft_some wr
          refine wp_region_aft (by kernel_rfl) (by kernel_rfl) ?_
          repeat (first | go_big_quiet_step (fail))
          refine wpQuiet_nil ?_
          intro wq hq
          go_wp2
          exact ⟨⟨k + 1, by omega, by go_num, HG', below_step HB.out HB.out.size hq⟩, by simp [intOf]; omega⟩
    · have HF : Hid (G = false) := HG2.out fun j hj => HG.out j (by have := HL'.out; omega)
      go_wp2
      go_ret
      exact ⟨ret_bool HF.out.symm, HB0.out.trans (HB.out.mono HB0.out.size)⟩

end Go.Proofs.Ytkcbknjmpfgimaa

namespace Go.Proofs.Ytkcbknjmpfgimaa

end Go.Proofs.Ytkcbknjmpfgimaa

namespace Go.Proofs.Ytkcbknjmpfgimaa
open Go.ChangeShapes Go.WideShapes Go.ChangeAt Go.RowKit Go.Joins
set_option maxRecDepth 100000

section
variable {α : Type} {F : Flat α}

theorem Flat.Row.facts {w : World} {base : Nat} {v : Value} {xs : List α} (row : F.Row w base v xs) : ∃ a cap, v = .slice a xs.length cap ∧ xs.length ≤ cap ∧ F.Own w base w.heap.size a xs := by
  obtain ⟨a, cap, rfl, hown⟩ := row.form
  refine ⟨a, cap, rfl, ?_, hown⟩
  rcases row.2 with ⟨q1, q2⟩ | ⟨g, cap', cur, q1, _, _, q4, _⟩
  · omega
  · injection q1 with _ _ q1
    omega

theorem Flat.one_new (w : World) (x : α) (t : TypeId) : F.Is (w.alloc (.cells (F.vals x).toArray t)) (some ⟨w.heap.size, 0, none⟩) [x] := by
  refine .inr ⟨w.heap.size, 0, rfl, by simp, fun i hi => ?_⟩
  have h0 : i = 0 := by simpa using hi
  subst h0
  intro c u hu
  rw [Nat.zero_mul, Nat.zero_add, cell_of_row _ _ _ _ _ _ (heap_alloc_new _ _)]
  simpa using hu

theorem Flat.Grew.after {base B : Nat} {v v' : Value} {w0 w w' : World} {xs ys : List α} (h : F.Grew base v v' w w' xs ys) (hb : Below B w0 w) (row : F.Row w base v xs) (hB : B ≤ base) (hB0 : B ≤ w.heap.size) : Below B w0 w' :=
  below_step' hb (h.below (fun _ hg => Nat.le_trans hB (row.block hg).1) hB0)
where
  below_step' {B : Nat} {w0 w w' : World} (h : Below B w0 w) (h' : Below B w w') : Below B w0 w' := h.trans h'

def Flat.NewF (F : Flat α) (B : Nat) (ys : List α) : Fact := fun v w => ∃ g cap, v = .slice (some ⟨g, 0, none⟩) ys.length cap ∧ B ≤ g ∧ g < w.heap.size ∧ F.Row w B (.slice (some ⟨g, 0, none⟩) ys.length cap) ys

end

end Go.Proofs.Ytkcbknjmpfgimaa

namespace Go.Proofs.Ytkcbknjmpfgimaa
open Go.ChangeShapes Go.WideShapes Go.ChangeAt Go.RowKit Go.Joins
attribute [local go_sem ↓] Go.wp_at_zero Go.wp_at_succ
set_option maxRecDepth 100000

end Go.Proofs.Ytkcbknjmpfgimaa

namespace Go.Proofs.Ytkcbknjmpfgimaa
open Go.ChangeShapes Go.WideShapes Go.ChangeAt Go.RowKit Go.Joins
attribute [local go_sem ↓] Go.wp_at_zero Go.wp_at_succ
set_option maxRecDepth 100000

theorem Flat.Own.exact {α : Type} {F : Flat α} {w : World} {lo hi g : Nat} {xs : List α} (h : F.Own w lo hi (some ⟨g, 0, none⟩) xs) : F.Own w g (g + 1) (some ⟨g, 0, none⟩) xs := by
  rcases h with h | ⟨g', ha, h1, h2, h3⟩
  · exact .inl h
  · injection ha with ha
    injection ha with ha
    subst ha
    exact .inr ⟨g, rfl, Nat.le_refl _, Nat.lt_succ_self _, h3⟩

theorem Flat.NewF.own {α : Type} {F : Flat α} {w : World} {B g cap n : Nat} {xs : List α} (row : F.Row w B (.slice (some ⟨g, 0, none⟩) n cap) xs) : n ≤ cap ∧ F.Own w g (g + 1) (some ⟨g, 0, none⟩) xs := by
  obtain ⟨a, c, he, hc, ho⟩ := row.facts
  injection he with e1 e2 e3
  subst e1 e3
  rw [e2]
  exact ⟨hc, ho.exact⟩

end Go.Proofs.Ytkcbknjmpfgimaa

namespace Go.Proofs.Ytkcbknjmpfgimaa
open Go.ChangeShapes Go.WideShapes Go.ChangeAt Go.RowKit Go.Joins
attribute [local go_sem ↓] Go.wp_at_zero Go.wp_at_succ
set_option maxRecDepth 100000

theorem specSetOk_is (a : Option Addr) (n cap : Nat) (b : Option Addr) (m cb : Nat) (us : List Mk) (ds : List Tm) (v : Bool) (h : setOkB us ds = v) (w : World) (hl : us.length = n) (hn : n ≤ maxLen) (hl' : ds.length = m) (hm : m ≤ maxLen) (hh : IsSt w a b us ds) :
    Calls Try.prog 10 #[setV a n cap b m cb] w fun e w' => e = .returned (.bool v) ∧ Below w.heap.size w w' := by
  rw [← h]
  exact specSetOk_any a n cap b m cb us ds w hl hn hl' hm hh

theorem l13Gone_is (a : Option Addr) (n cap : Nat) (b : Option Addr) (m cb : Nat) (ds : List Tm) (c s q : Int) (v : Bool) (h : goneB ds ⟨c, s, q⟩ = v) (w : World) (hl' : ds.length = m) (hm : m ≤ maxLen) (hh : tmF.Is w b ds) :
    Calls Try.prog 41 #[setV a n cap b m cb, tagV c s q] w fun e w' => e = .returned (.bool v) ∧ Below w.heap.size w w' := by
  rw [← h]
  exact l13Gone_any a n cap b m cb ds ⟨c, s, q⟩ w hl' hm hh

theorem has_in {us : List Mk} {ds : List Tm} {e : Int} {k : Nat} (hk : k < us.length) (h1 : (us.getD k mkZ).e = e) (h2 : goneB ds (mkT (us.getD k mkZ)) = false) : hasB us ds e = true := by
  unfold hasB
  rw [List.any_eq_true]
  refine ⟨us[k], List.getElem_mem hk, ?_⟩
  have e1 : us.getD k mkZ = us[k] := by
    rw [List.getD_eq_getElem?_getD, List.getElem?_eq_getElem hk]
    rfl
  rw [e1] at h1 h2
  simp [h1, h2]

theorem has_out {us : List Mk} {ds : List Tm} {e : Int} (h : ∀ k, k < us.length → (us.getD k mkZ).e = e → goneB ds (mkT (us.getD k mkZ)) = true) : hasB us ds e = false := by
  cases hb : hasB us ds e
  · rfl
  · exfalso
    unfold hasB at hb
    rw [List.any_eq_true] at hb
    obtain ⟨x, hx, hp⟩ := hb
    obtain ⟨k, hk, rfl⟩ := List.mem_iff_getElem.1 hx
    have e1 : us.getD k mkZ = us[k] := by
      rw [List.getD_eq_getElem?_getD, List.getElem?_eq_getElem hk]
      rfl
    simp only [Bool.and_eq_true, beq_iff_eq, Bool.not_eq_true'] at hp
    have := h k hk (by rw [e1]; exact hp.1)
    rw [e1, hp.2] at this
    cases this

set_option maxHeartbeats 8000000 in
theorem specSetHas_any (a : Option Addr) (n cap : Nat) (b : Option Addr) (m cb : Nat) (us : List Mk) (ds : List Tm) (e0 : Int) (w : World) (hl : us.length = n) (hn : n ≤ maxLen) (hl' : ds.length = m) (hm : m ≤ maxLen) (hh : IsSt w a b us ds) :
    Calls Try.prog 14 #[setV a n cap b m cb, .int .i64 e0] w fun e w' => e = .returned (.bool (setOkB us ds && hasB us ds e0)) ∧ Below w.heap.size w w' := by
  have HB0 : Hid (Below w.heap.size w (w.alloc (.cells #[.slice a n cap, .slice b m cb] 31))) := (Below.refl _ _).alloc (Nat.le_refl _) _
  have HC := Lib.hid hh
  have HL := Lib.hid hl
  have HL' := Lib.hid hl'
  have hn2 : n ≤ 9223372036854775807 := Nat.le_trans hn (by decide)
  clear hh hl hl'
  cases hok : setOkB us ds
  · have HOK := Lib.hid hok
    clear hok
    go_enter Try.func14, Try.ntmps14
    go_wp2_with fail
    refine (specSetOk_is a n cap b m cb us ds false HOK.out _ HL.out hn HL'.out hm (HC.out.below HB0.out)).mono ?_
    rintro e w1 ⟨rfl, hb⟩
    have HF := Lib.hid (below_step HB0.out HB0.out.size hb)
    clear hb
    go_wp2
    go_ret
    exact ⟨rfl, HF.out⟩
  · have HOK := Lib.hid hok
    clear hok
    have HG1 : Hid (∀ k, k < us.length → (us.getD k mkZ).e = e0 → goneB ds (mkT (us.getD k mkZ)) = false → (true && hasB us ds e0) = true) := fun k hk h1 h2 => by rw [has_in hk h1 h2]; rfl
    have HG2 : Hid ((∀ k, k < us.length → (us.getD k mkZ).e = e0 → goneB ds (mkT (us.getD k mkZ)) = true) → (true && hasB us ds e0) = false) := fun h => by rw [has_out h]; rfl
    generalize (true && hasB us ds e0) = G at *
    go_enter Try.func14, Try.ntmps14
    go_wp2_with fail
    have c0 : (w.alloc (.cells #[.slice a n cap, .slice b m cb] 31)).cell? ⟨w.heap.size, 0, none⟩ = some (.slice a n cap) := by go_simp
    have c1 : (w.alloc (.cells #[.slice a n cap, .slice b m cb] 31)).cell? ⟨w.heap.size, 1, none⟩ = some (.slice b m cb) := by go_simp
    have hz : w.heap.size < (w.alloc (.cells #[.slice a n cap, .slice b m cb] 31)).heap.size := by simp
    generalize w.alloc (.cells #[.slice a n cap, .slice b m cb] 31) = V0 at *
    refine (specSetOk_is a n cap b m cb us ds true HOK.out _ HL.out hn HL'.out hm (HC.out.below HB0.out)).mono ?_
    rintro e V ⟨rfl, hb⟩
    replace c0 := fl_cells hb hz c0
    replace c1 := fl_cells hb hz c1
    replace hz := Nat.lt_of_lt_of_le hz hb.size
    replace HB0 := Lib.hid (below_step HB0.out HB0.out.size hb)
    clear hb
    go_wp2_with fail
    go_loopw [5] (fun i wr => ∃ k : Nat, k ≤ n ∧ i = .int .i64 k ∧ Hid (∀ j, j < k → (us.getD j mkZ).e = e0 → goneB ds (mkT (us.getD j mkZ)) = true) ∧ Hid (Below V.heap.size V wr)) (fun i _ => n - (intOf i).toNat)
    case atStart => exact ⟨0, Nat.zero_le _, rfl, fun j hj => by omega, Below.refl _ _⟩
    case round =>
      obtain ⟨k, hk, rfl, HG, HB⟩ := hrel
      replace c0 := fl_cells HB.out hz c0
      replace c1 := fl_cells HB.out hz c1
      have HB1 := Lib.hid (below_step HB0.out HB0.out.size HB.out)
      replace hz := Nat.lt_of_lt_of_le hz HB.out.size
      have HI2 := Lib.hid (HC.out.below HB1.out).2
      by_cases hk' : k < n
      · have hkk : k < us.length := by rw [HL.out]; exact hk'
        obtain ⟨b', o, rfl, hzb, hat⟩ := HC.out.1.at HB1.out hkk
        obtain ⟨f0, f1, f2, f3⟩ := mk_at hat
        simp only [show mkF.k = 4 from rfl, show mkF.z = mkZ from rfl] at f0 f1 f2 f3
        have i1 : (0 : Int) ≤ (k : Int) := by omega
        have i2 : (k : Int) < (n : Int) := by omega
        clear hat
        have gI : Hid (∀ p : Aft wr.heap.size wr, tmF.Is p.now b ds) := fun p => HI2.out.below p.below
        by_cases he : (us.getD k mkZ).e = e0
        · cases hg : goneB ds ⟨(us.getD k mkZ).c, (us.getD k mkZ).s, (us.getD k mkZ).q⟩
          · have HF : Hid (G = true) := HG1.out k hkk he hg
            clear HG1 HG2 HG
            rw [he] at f0
            clear he
            generalize (us.getD k mkZ).e = ye at *
            generalize (us.getD k mkZ).c = yc at *
            generalize (us.getD k mkZ).s = ys at *
            generalize (us.getD k mkZ).q = yq at *
            go_wp2_with fail
            have gc0 := aft_cell hz c0
            have gc1 := aft_cell hz c1
            have gf0 := aft_cell hzb f0
            have gf1 := aft_cell hzb f1
            have gf2 := aft_cell hzb f2
            have gf3 := aft_cell hzb f3
            have ne := aft_some wr
            refine wp_region_aft (by kernel_rfl) (by kernel_rfl) ?_
            repeat (first | go_big_quiet_step ((go_at_call 41; exact aft_of (l13Gone_is _ _ _ _ _ _ ds _ _ _ _ hg _ HL'.out hm (gI.out _)))))
            refine wpQuiet_nil ?_
            intro wq hq
            go_wp2
            go_ret
            exact ⟨ret_bool HF.out.symm, below_step HB1.out HB1.out.size hq⟩
          · skip
            have HG' : Hid (∀ j, j < k + 1 → (us.getD j mkZ).e = e0 → goneB ds (mkT (us.getD j mkZ)) = true) := fun j hj h1 => by
              by_cases h : j < k
              · exact HG.out j h h1
              · have : j = k := by omega
                subst this
                exact hg
            clear HG1 HG2 HG
            rw [he] at f0
            clear he
            generalize (us.getD k mkZ).e = ye at *
            generalize (us.getD k mkZ).c = yc at *
            generalize (us.getD k mkZ).s = ys at *
            generalize (us.getD k mkZ).q = yq at *
            go_wp2_with fail
            have gc0 := aft_cell hz c0
            have gc1 := aft_cell hz c1
            have gf0 := aft_cell hzb f0
            have gf1 := aft_cell hzb f1
            have gf2 := aft_cell hzb f2
            have gf3 := aft_cell hzb f3
            have ne := aft_some wr
            refine wp_region_aft (by kernel_rfl) (by kernel_rfl) ?_
            repeat (first | go_big_quiet_step ((go_at_call 41; exact aft_of (l13Gone_is _ _ _ _ _ _ ds _ _ _ _ hg _ HL'.out hm (gI.out _)))))
            refine wpQuiet_nil ?_
            intro wq hq
            go_wp2
            exact ⟨⟨k + 1, by omega, by go_num, HG', below_step HB.out HB.out.size hq⟩, by simp [intOf]; omega⟩
        · skip
          have HG' : Hid (∀ j, j < k + 1 → (us.getD j mkZ).e = e0 → goneB ds (mkT (us.getD j mkZ)) = true) := fun j hj h1 => by
            by_cases h : j < k
            · exact HG.out j h h1
            · have : j = k := by omega
              subst this
              exact absurd h1 he
          have hne : ((us.getD k mkZ).e == e0) = false := beq_eq_false_iff_ne.2 he
          clear HG1 HG2 HG
          generalize (us.getD k mkZ).e = ye at *
          generalize (us.getD k mkZ).c = yc at *
          generalize (us.getD k mkZ).s = ys at *
          generalize (us.getD k mkZ).q = yq at *
          go_wp2_with fail
          have gc0 := aft_cell hz c0
          have gc1 := aft_cell hz c1
          have gf0 := aft_cell hzb f0
          have gf1 := aft_cell hzb f1
          have gf2 := aft_cell hzb f2
          have gf3 := aft_cell hzb f3
          have ne := aft_some wr
          refine wp_region_aft (by kernel_rfl) (by kernel_rfl) ?_
          repeat (first | go_big_quiet_step (fail))
          refine wpQuiet_nil ?_
          intro wq hq
          go_wp2
          exact ⟨⟨k + 1, by omega, by go_num, HG', below_step HB.out HB.out.size hq⟩, by simp [intOf]; omega⟩
      · have HF : Hid (G = false) := HG2.out fun j hj => HG.out j (by have := HL.out; omega)
        go_wp2
        go_ret
        exact ⟨ret_bool HF.out.symm, HB1.out⟩
end Go.Proofs.Ytkcbknjmpfgimaa

namespace Go.Proofs.Ytkcbknjmpfgimaa
open Go.ChangeShapes Go.WideShapes Go.ChangeAt Go.RowKit Go.Joins Go.Maps
set_option maxRecDepth 100000

def asItself (v : Value) : Option (DataW Value × List MemPlace) := some (.held v, [])

structure KeyG (κ : Type) (kt : TypeId) where
  v : κ → Value
  l : κ → Lit
  ok : κ → Prop
  law : Keyed Try.prog kt
  key : ∀ k, ok k → keyOf Try.prog kt (v k) = some (l k)
  inj : ∀ k k', v k = v k' → k = k'

theorem KeyG.lit {κ : Type} {kt : TypeId} (K : KeyG κ kt) {k : κ} (h : K.ok k) : WideAt.IsKeyLit (K.l k) := K.law.key (K.key k h)

theorem KeyG.linj {κ : Type} {kt : TypeId} (K : KeyG κ kt) {k k' : κ} (h : K.ok k) (h' : K.ok k') (e : K.l k = K.l k') : k = k' := by
  have h1 := K.key k h
  rw [e] at h1
  exact K.inj _ _ (K.law.inj h1 (K.key k' h'))

def MapIs {κ : Type} {kt : TypeId} (K : KeyG κ kt) (w : World) (b n : Nat) (f : κ → Option Value) : Prop :=
  ∃ D : DataW Value, w.ownsMap Try.prog kt asItself b n D ∧ ∀ k, K.ok k → (f k = none → Maps.has D (K.l k) = false) ∧ ∀ v, f k = some v → Maps.has D (K.l k) = true ∧ ∀ z, D.atKey (K.l k) z = .held v

theorem MapIs.lt {κ : Type} {kt : TypeId} {K : KeyG κ kt} {w : World} {b n : Nat} {f : κ → Option Value} (h : MapIs K w b n f) : b < w.heap.size := by
  obtain ⟨D, h1, _⟩ := h
  exact h1.lt

theorem MapIs.of_block {κ : Type} {kt : TypeId} {K : KeyG κ kt} {w w' : World} {b n : Nat} {f : κ → Option Value} (h : MapIs K w b n f) (hb : w'.heap[b]? = w.heap[b]?) : MapIs K w' b n f := by
  obtain ⟨D, ⟨es, clock, h1, h2⟩, h3⟩ := h
  exact ⟨D, ⟨es, clock, hb.trans h1, h2⟩, h3⟩

theorem MapIs.below {κ : Type} {kt : TypeId} {K : KeyG κ kt} {w w' : World} {b n : Nat} {f : κ → Option Value} (h : MapIs K w b n f) (hb : Below w.heap.size w w') : MapIs K w' b n f := h.of_block (hb.block b h.lt)

theorem MapIs.congr {κ : Type} {kt : TypeId} {K : KeyG κ kt} {w : World} {b n : Nat} {f g : κ → Option Value} (h : MapIs K w b n f) (e : ∀ k, K.ok k → g k = f k) : MapIs K w b n g := by
  obtain ⟨D, h1, h2⟩ := h
  exact ⟨D, h1, fun k hk => by rw [e k hk]; exact h2 k hk⟩

def lookAns (z : Value) : Option Value → Value
  | none => .tuple #[z, .bool false]
  | some v => .tuple #[v, .bool true]

theorem MapIs.look {κ : Type} {kt : TypeId} {K : KeyG κ kt} {w : World} {b n : Nat} {f : κ → Option Value} (h : MapIs K w b n f) {t e : TypeId} (ht : Try.prog.underlying t = some (.map kt e)) {z : Value} (hz : (zeroValue e).run Try.prog w = .ok z w) {k : κ} (hk : K.ok k) :
    (Instr.lookup t (.map (some b)) (K.v k) true).run Try.prog w = .ok (lookAns z (f k)) w := by
  obtain ⟨D, h1, h2⟩ := h
  obtain ⟨v, ps, hrun, hv⟩ := h1.look_ok K.law ht hz (zd := .held z) (zp := []) rfl (K.key k hk)
  rw [hrun]
  have e : (DataW.held v : DataW Value) = D.atKey (K.l k) (.held z) := by
    simp only [asItself, Option.some.injEq, Prod.mk.injEq] at hv
    exact hv.1
  cases hf : f k with
  | none =>
    rw [(h2 k hk).1 hf]
    rw [atKey_of_not_has ((h2 k hk).1 hf)] at e
    injection e with e
    rw [e]
    rfl
  | some u =>
    obtain ⟨h3, h4⟩ := (h2 k hk).2 u hf
    rw [h3]
    rw [h4] at e
    injection e with e
    rw [e]
    rfl

theorem wpList_lookG {κ : Type} {kt : TypeId} {K : KeyG κ kt} {w : World} {ops : Array Oper} {rest : List Oper} {o : Oper} {a : Act} {Q : Exit → Act → World → Prop} (hg : o.guard = none) (m x : Operand) (t e : TypeId) (hop : o.op = Op.lookup t m x true) (ht : Try.prog.underlying t = some (.map kt e)) {z : Value} (hz : (zeroValue e).run Try.prog w = .ok z w)
    {b n : Nat} {f : κ → Option Value} (h : MapIs K w b n f) (k : κ) (hk : K.ok k) (hm : a.eval m = .map (some b)) (hx : a.eval x = K.v k)
    (hK : wpList Try.prog ops Q rest (a.put o.dst (lookAns z (f k))) w) : wpList Try.prog ops Q (o :: rest) a w := by
  refine wpList_plain hg fun K' hK' => ?_
  unfold Oper.wp
  simp [execOp, hop, hm, hx, h.look ht hz hk, Result.andThen]
  exact hK' _ _ hK

theorem MapIs.mono {κ : Type} {kt : TypeId} {K : KeyG κ kt} {w : World} {b n n' : Nat} {f : κ → Option Value} (h : MapIs K w b n f) (hn : n ≤ n') : MapIs K w b n' f := by
  obtain ⟨E, h3, h4⟩ := h
  exact ⟨E, h3.mono hn, h4⟩

end Go.Proofs.Ytkcbknjmpfgimaa

namespace Go.Proofs.Ytkcbknjmpfgimaa
open Go.ChangeShapes Go.WideShapes Go.ChangeAt Go.RowKit Go.Joins Go.Maps
set_option maxRecDepth 100000

section
variable {κ : Type} {kt : TypeId} {K : KeyG κ kt}

structure ReadG (K : KeyG κ kt) (D : DataW Value) (f : κ → Option Value) : Prop where
  nil : ∀ k, K.ok k → f k = none → Maps.has D (K.l k) = false
  val : ∀ k v, K.ok k → f k = some v → Maps.has D (K.l k) = true ∧ ∀ z, D.atKey (K.l k) z = .held v
  all : ∀ l, Maps.has D l = true → ∃ k, K.ok k ∧ l = K.l k

def MapT (K : KeyG κ kt) (w : World) (b n : Nat) (f : κ → Option Value) : Prop := ∃ D : DataW Value, w.ownsMap Try.prog kt asItself b n D ∧ ReadG K D f

theorem MapT.is {w : World} {b n : Nat} {f : κ → Option Value} (h : MapT K w b n f) : MapIs K w b n f := by
  obtain ⟨D, h1, h2⟩ := h
  exact ⟨D, h1, fun k hk => ⟨h2.nil k hk, fun v hv => h2.val k v hk hv⟩⟩

theorem mapT_made (K : KeyG κ kt) (w : World) : MapT K (w.alloc (.map #[] 0)) w.heap.size 0 (fun _ => none) :=
  ⟨.map [], World.ownsMap_made w _ _ _, ⟨fun _ _ _ => rfl, fun _ _ _ h => (nomatch h), fun l h => absurd (show (false : Bool) = true from h) (by decide)⟩⟩

theorem MapT.lt {w : World} {b n : Nat} {f : κ → Option Value} (h : MapT K w b n f) : b < w.heap.size := by
  obtain ⟨D, h1, _⟩ := h
  exact h1.lt

theorem MapT.of_block {w w' : World} {b n : Nat} {f : κ → Option Value} (h : MapT K w b n f) (hb : w'.heap[b]? = w.heap[b]?) : MapT K w' b n f := by
  obtain ⟨D, ⟨es, clock, h1, h2⟩, h3⟩ := h
  exact ⟨D, ⟨es, clock, hb.trans h1, h2⟩, h3⟩

theorem MapT.below {w w' : World} {b n : Nat} {f : κ → Option Value} (h : MapT K w b n f) (hb : Below w.heap.size w w') : MapT K w' b n f := h.of_block (hb.block b h.lt)

theorem MapT.congr {w : World} {b n : Nat} {f g : κ → Option Value} (h : MapT K w b n f) (e : ∀ k, K.ok k → g k = f k) : MapT K w b n g := by
  obtain ⟨D, h1, h2⟩ := h
  exact ⟨D, h1, ⟨fun k hk hg => h2.nil k hk (by rw [← e k hk]; exact hg), fun k v hk hg => h2.val k v hk (by rw [← e k hk]; exact hg), h2.all⟩⟩

theorem MapT.mono {w : World} {b n n' : Nat} {f : κ → Option Value} (h : MapT K w b n f) (hn : n ≤ n') : MapT K w b n' f := by
  obtain ⟨D, h1, h2⟩ := h
  exact ⟨D, h1.mono hn, h2⟩

theorem ReadG.put {D : DataW Value} {f : κ → Option Value} (h : ReadG K D f) (hD : IsMap D) {k : κ} (hk : K.ok k) (v : Value) {g : κ → Option Value} (g1 : g k = some v) (g2 : ∀ j, j ≠ k → g j = f j) : ReadG K (D.put (K.l k) (.held v)) g where
  nil := fun j hj hg => by
    have hne : j ≠ k := fun e => by rw [e, g1] at hg; cases hg
    rw [has_put_other (fun e => hne (K.linj hj hk e))]
    exact h.nil j hj (by rw [← g2 j hne]; exact hg)
  val := fun j u hj hg => by
    by_cases e : j = k
    · subst e
      rw [g1] at hg
      injection hg with hg
      subst hg
      exact ⟨has_put_same hD (K.lit hj) _, fun z => atKey_put_same hD (K.lit hj) _ _⟩
    · rw [has_put_other (fun e' => e (K.linj hj hk e'))]
      have h1 := h.val j u hj (by rw [← g2 j e]; exact hg)
      exact ⟨h1.1, fun z => by rw [atKey_put_other (fun e' => e (K.linj hj hk e'))]; exact h1.2 z⟩
  all := fun l hl => by
    by_cases e : l = K.l k
    · exact ⟨k, hk, e⟩
    · rw [has_put_other e] at hl
      exact h.all l hl

theorem ReadG.del {D : DataW Value} {f : κ → Option Value} (h : ReadG K D f) {k : κ} (hk : K.ok k) {g : κ → Option Value} (g1 : g k = none) (g2 : ∀ j, j ≠ k → g j = f j) : ReadG K (D.del (K.l k)) g where
  nil := fun j hj hg => by
    by_cases e : j = k
    · subst e
      exact has_del_same
    · rw [has_del_other (fun e' => e (K.linj hj hk e'))]
      exact h.nil j hj (by rw [← g2 j e]; exact hg)
  val := fun j u hj hg => by
    have hne : j ≠ k := fun e => by rw [e, g1] at hg; cases hg
    rw [has_del_other (fun e' => hne (K.linj hj hk e'))]
    have h1 := h.val j u hj (by rw [← g2 j hne]; exact hg)
    exact ⟨h1.1, fun z => by rw [atKey_del_other (fun e' => hne (K.linj hj hk e'))]; exact h1.2 z⟩
  all := fun l hl => by
    by_cases e : l = K.l k
    · rw [e, has_del_same] at hl
      cases hl
    · rw [has_del_other e] at hl
      exact h.all l hl

theorem wpList_putT {w : World} {ops : Array Oper} {rest : List Oper} {o : Oper} {a : Act} {Q : Exit → Act → World → Prop} (hg : o.guard = none) (m x u : Operand) (t e : TypeId) (hop : o.op = Op.mapUpdate t m x u) (ht : Try.prog.underlying t = some (.map kt e))
    {b n : Nat} {f : κ → Option Value} (h : MapT K w b n f) (hn : n < maxLen) (k : κ) (hk : K.ok k) (v : Value) (hm : a.eval m = .map (some b)) (hx : a.eval x = K.v k) (hu : a.eval u = v)
    (hK : ∀ w', (∀ g : κ → Option Value, g k = some v → (∀ j, j ≠ k → g j = f j) → MapT K w' b (n + 1) g) → w.mapTurned w' b → wpList Try.prog ops Q rest (a.put o.dst undef) w') : wpList Try.prog ops Q (o :: rest) a w := by
  obtain ⟨D, h1, h2⟩ := h
  exact wpList_mapUpdate_in w hg m x u _ hop _ _ K.law ht asItself b n D hm h1 hn _ v (K.l k) hx hu (K.key k hk) (.held v) [] rfl fun w' h3 h4 => hK w' (fun g g1 g2 => ⟨_, h3, h2.put h1.isMap hk v g1 g2⟩) h4

theorem wpList_delT {w : World} {ops : Array Oper} {rest : List Oper} {o : Oper} {a : Act} {Q : Exit → Act → World → Prop} (hg : o.guard = none) (m x : Operand) (t e : TypeId) (hop : o.op = Op.call { callee := Callee.builtin Builtin.delete, args := #[m, x], argTypes := #[t, kt] }) (ht : Try.prog.underlying t = some (.map kt e))
    {b n : Nat} {f : κ → Option Value} (h : MapT K w b n f) (k : κ) (hk : K.ok k) (hm : a.eval m = .map (some b)) (hx : a.eval x = K.v k)
    (hK : ∀ w', (∀ g : κ → Option Value, g k = none → (∀ j, j ≠ k → g j = f j) → MapT K w' b n g) → w.mapTurned w' b → wpList Try.prog ops Q rest (a.put o.dst (.tuple #[])) w') : wpList Try.prog ops Q (o :: rest) a w := by
  obtain ⟨D, h1, h2⟩ := h
  exact wpList_delete_own w hg m x t kt hop e K.law ht asItself b n D hm h1 _ (K.l k) hx (K.key k hk) fun w' h3 h4 => hK w' (fun g g1 g2 => ⟨_, h3, h2.del hk g1 g2⟩) h4

def RangeG (K : KeyG κ kt) (w : World) (b r n : Nat) (f : κ → Option Value) (left : κ → Bool) (cnt : Nat) : Prop :=
  ∃ (D : DataW Value) (lf : Lit → Bool), w.ranges Try.prog kt asItself b r n D lf cnt ∧ ReadG K D f ∧ (∀ k, K.ok k → lf (K.l k) = left k) ∧ ∀ l, lf l = true → Maps.has D l = true

theorem RangeG.map {w : World} {b r n cnt : Nat} {f : κ → Option Value} {left : κ → Bool} (h : RangeG K w b r n f left cnt) : MapT K w b n f := by
  obtain ⟨D, lf, h1, h2, _⟩ := h
  exact ⟨D, h1.owns, h2⟩

theorem RangeG.lt {w : World} {b r n cnt : Nat} {f : κ → Option Value} {left : κ → Bool} (h : RangeG K w b r n f left cnt) : r < w.heap.size := by
  obtain ⟨D, lf, h1, _⟩ := h
  exact h1.lt

theorem RangeG.left_eq {w : World} {b r n cnt : Nat} {f : κ → Option Value} {left : κ → Bool} (h : RangeG K w b r n f left cnt) : w.rangeLeft b r = cnt := by
  obtain ⟨D, lf, h1, _⟩ := h
  exact h1.left_eq

theorem RangeG.kept {w w' : World} {row : Option Nat} {b r n cnt : Nat} {f : κ → Option Value} {left : κ → Bool} (h : RangeG K w b r n f left cnt) (hg : w.grownBy w' row) (hb : some b ≠ row) (hr : some r ≠ row) : RangeG K w' b r n f left cnt := by
  obtain ⟨D, lf, h1, h2⟩ := h
  exact ⟨D, lf, h1.kept hg hb hr, h2⟩

theorem RangeG.below {w w' : World} {b r n cnt : Nat} {f : κ → Option Value} {left : κ → Bool} (h : RangeG K w b r n f left cnt) (hb : Below w.heap.size w w') : RangeG K w' b r n f left cnt :=
  h.kept (row := none) ⟨hb.os, hb.tape, hb.output, hb.size, fun k hk _ => hb.block k hk⟩ (by simp) (by simp)

set_option maxHeartbeats 400000 in
theorem wpList_rangeT {w : World} {ops : Array Oper} {rest : List Oper} {o : Oper} {a : Act} {Q : Exit → Act → World → Prop} (hg : o.guard = none) (m : Operand) (t e : TypeId) (hop : o.op = Op.range t m) (ht : Try.prog.underlying t = some (.map kt e))
    {b n : Nat} {f : κ → Option Value} (h : MapT K w b n f) (hm : a.eval m = .map (some b))
    (hK : ∀ w' cnt, RangeG K w' b w.heap.size n f (fun k => (f k).isSome) cnt → cnt ≤ n → w.grownBy w' none → w'.heap.size = w.heap.size + 1 → wpList Try.prog ops Q rest (a.put o.dst (.pointer (some ⟨w.heap.size, 0, none⟩))) w') : wpList Try.prog ops Q (o :: rest) a w := by
  obtain ⟨D, h1, h2⟩ := h
  refine wpList_range_own w hg m t hop kt e K.law ht asItself b n D hm h1 fun w' hr hgr hs => hK w' _ ⟨D, _, hr, h2, fun k hk => ?_, fun l hl => hl⟩ ?_ hgr hs
  · cases hf : f k with
    | none =>
      show Maps.has D (K.l k) = (f k).isSome
      rw [h2.nil k hk hf, hf]
      rfl
    | some v =>
      show Maps.has D (K.l k) = (f k).isSome
      rw [(h2.val k v hk hf).1, hf]
      rfl
  · obtain ⟨es, clock, hb, F, hsz, rfl⟩ := h1
    refine Nat.le_trans (Nat.le_of_eq ?_) hsz
    simp [Maps.size, length_sorted]

theorem wpList_nextG [DecidableEq κ] {w : World} {ops : Array Oper} {rest : List Oper} {o : Oper} {a : Act} {Q : Exit → Act → World → Prop} (hg : o.guard = none) (it : Operand) (hop : o.op = Op.next it false)
    {b r n cnt : Nat} {f : κ → Option Value} {left : κ → Bool} (h : RangeG K w b r n f left cnt) (hit : a.eval it = .pointer (some ⟨r, 0, none⟩))
    (hDone : (∀ k, K.ok k → left k = false) → wpList Try.prog ops Q rest (a.put o.dst (.tuple #[.bool false])) w)
    (hMore : ∀ k v w' cnt', K.ok k → left k = true → f k = some v → RangeG K w' b r n f (fun j => left j && !decide (j = k)) cnt' → cnt' < cnt → w.grownBy w' (some r) → w'.heap.size = w.heap.size →
      (Instr.entry (.pointer (some ⟨r, 0, none⟩))).run Try.prog w' = .ok (.tuple #[K.v k, v]) w' → wpList Try.prog ops Q rest (a.put o.dst (.tuple #[.bool true, K.v k, v])) w') : wpList Try.prog ops Q (o :: rest) a w := by
  obtain ⟨D, lf, h1, h2, h3, h4⟩ := h
  refine wpList_plain hg fun K' hK' => ?_
  unfold Oper.wp
  rcases h1.next K.law o.type with ⟨h0, hl, hrun⟩ | ⟨key, v, kl, y, w', cnt', hkey, hlk, hv, hat, hrun, hrg, hlt, hgr, hsz, hen⟩
  · simp [execOp, hop, hit, hrun, Result.andThen]
    exact hK' _ _ (hDone fun k hk => by rw [← h3 k hk]; exact hl _)
  · obtain ⟨k, hk, rfl⟩ := h2.all kl (h4 kl hlk)
    have hkv : key = K.v k := K.law.inj hkey (K.key k hk)
    subst hkv
    have hf : f k = some v := by
      cases hf : f k with
      | none =>
        have := h2.nil k hk hf
        rw [h4 _ hlk] at this
        cases this
      | some u =>
        have h5 := (h2.val k u hk hf).2 (.held u)
        rw [hat] at h5
        simp only [asItself, Option.some.injEq] at hv
        rw [← hv] at h5
        injection h5 with h5
        rw [h5]
    simp [execOp, hop, hit, hrun, Result.andThen]
    refine hK' _ _ (hMore k v w' cnt' hk (by rw [← h3 k hk]; exact hlk) hf ⟨D, _, hrg, h2, fun j hj => ?_, fun l hl => h4 l (by simp at hl; exact hl.1)⟩ hlt hgr hsz hen)
    rw [h3 j hj]
    congr 1
    by_cases e : j = k
    · subst e
      rw [WideAt.sameKey_self (K.lit hj)]
      simp
    · have : (K.l j).sameKey (K.l k) = false := by
        cases hs : (K.l j).sameKey (K.l k)
        · rfl
        · exact absurd (K.linj hj hk (WideAt.sameKey_eq hs)) e
      rw [this]
      simp [e]

end

/-! ### Tags as keys -/

def T64 (n : Int) : Prop := -9223372036854775808 ≤ n ∧ n ≤ 9223372036854775807

theorem t64_wf {n : Int} (h : T64 n) : (Lit.int .i64 n).wf = true := by
  simp only [Lit.wf, Bool.and_eq_true, decide_eq_true_eq]
  exact h

structure TmR (t : Tm) : Prop where
  c : T64 t.c
  s : T64 t.s
  q : T64 t.q

def tmL (t : Tm) : Lit := .string (keyBytes [.int .i64 t.c, .int .i64 t.s, .int .i64 t.q])

theorem tk_row : (46 : TypeId) < Try.prog.types.size := of_decide_eq_true (by kernel_rfl)

theorem tk_cells : Try.prog.cellsOf 46 = 3 := by kernel_rfl

theorem tk_int : Try.prog.cellsOf 3 = 1 := by kernel_rfl

theorem tk_wide : (match Try.prog.underlying 46 with | some (.array _ _) | some (.struct _) => true | _ => false) = true := by rw [Try.underlying46]

theorem tk_law : Keyed Try.prog 46 := Keyed.of_law (deep_law_laid laidOut (m := 3) (by omega) tk_row (by kernel_rfl) tk_wide)

theorem tk_type : Try.prog.keyType 46 = true := by kernel_rfl

theorem tk_key (t : Tm) (h : TmR t) : keyOf Try.prog 46 (tmV t) = some (tmL t) := by
  have hf : (tmV t).formed Try.prog 46 = true := by simp [Value.formed, Try.underlying46, tk_cells]
  have ht : 2 < Try.prog.types.size := of_decide_eq_true (by kernel_rfl)
  obtain ⟨m, hm⟩ : ∃ m, Try.prog.types.size = m + 2 := ⟨Try.prog.types.size - 2, by omega⟩
  unfold keyOf
  rw [Try.underlying46]
  simp only [tk_type, hf, Bool.and_self, if_true]
  rw [hm]
  simp [Program.keyLits, Try.underlying46, Try.underlying3, tk_cells, tk_int, Value.cells, t64_wf h.c, t64_wf h.s, t64_wf h.q, tmL, List.range]

def keyT : KeyG Tm 46 where
  v := fun t => tmV t
  l := tmL
  ok := TmR
  law := tk_law
  key := tk_key
  inj := fun x y h => by
    cases x
    cases y
    simp at h
    simp [h]

theorem tagOk_r {t : Tm} (h : tOk t = true) : TmR t := by
  unfold tOk tagOkB at h
  rw [Bool.and_eq_true, Bool.and_eq_true] at h
  obtain ⟨h1, h2, h3⟩ := h
  unfold btw at h1 h2 h3
  simp only [decide_eq_true_eq] at h1 h2 h3
  refine ⟨?_, ?_, ?_⟩ <;> unfold T64 <;> omega

end Go.Proofs.Ytkcbknjmpfgimaa

namespace Go.Proofs.Ytkcbknjmpfgimaa
open Go.ChangeShapes Go.WideShapes Go.ChangeAt Go.RowKit
attribute [local go_sem ↓] Go.wp_at_zero Go.wp_at_succ

set_option maxHeartbeats 400000 in
theorem implTagCmp_eq (c s q : Int) (w : World) :
    Calls Try.prog 64 #[tagV c s q, tagV c s q] w fun e w' => e = .returned (.int .i64 0) ∧ Below w.heap.size w w' := by
  go_enter Try.func64, Try.ntmps64
  go_wp2_with fail
  go_ret
  exact ⟨rfl, ((Below.refl _ _).alloc (Nat.le_refl _) _).alloc (by simp) _⟩

theorem three_cells (W : World) (x y z : Int) (t b : Nat) (hb : W.heap.size = b) : ∀ i, i < [x, y, z].length → (W.alloc (Obj.cells #[.int .i64 x, .int .i64 y, .int .i64 z] t)).drew.cell? ⟨b, i, none⟩ = some (.int .i64 ([x, y, z].getD i 0)) := by
  subst hb
  intro i hi
  match i, hi with
  | 0, _ => simp [go_sem]
  | 1, _ => simp [go_sem]
  | 2, _ => simp [go_sem]

set_option maxHeartbeats 1000000 in
theorem implTagCmp_ne1 (c s q c' s' q' : Int) (w : World) (h : ¬ c = c') :
    Calls Try.prog 64 #[tagV c s q, tagV c' s' q'] w fun e w' => e = .returned (.int .i64 (orI [sgn c c', sgn s s', sgn q q'])) ∧ Below w.heap.size w w' := by
  go_enter Try.func64, Try.ntmps64
  go_wp2_with fail
  go_region_held3 (fun w' => w'.cell? ⟨w.heap.size, 0, none⟩ = some (.int .i64 c) ∧ w'.cell? ⟨w.heap.size, 1, none⟩ = some (.int .i64 s) ∧ w'.cell? ⟨w.heap.size, 2, none⟩ = some (.int .i64 q) ∧ w'.cell? ⟨w.heap.size + 1, 0, none⟩ = some (.int .i64 c') ∧ w'.cell? ⟨w.heap.size + 1, 1, none⟩ = some (.int .i64 s') ∧ w'.cell? ⟨w.heap.size + 1, 2, none⟩ = some (.int .i64 q')) (go_keep)
    (first | (go_at_call 76; refine (compare_any _ _ _).mono ?_; rintro e w' ⟨rfl, rfl⟩) | (go_at_call 75; refine (or_any _ [sgn c c', sgn s s', sgn q q'] _ _ (by simp) (by exact three_cells _ _ _ _ _ _ (by simp))).mono ?_; rintro e w' ⟨rfl, rfl⟩))
  all_goals
    go_wp2
    go_ret
    exact ⟨rfl, ((((Below.refl _ _).alloc (Nat.le_refl _) _).alloc (by simp) _).alloc (by simp; omega) _).drew⟩

set_option maxHeartbeats 1000000 in
theorem implTagCmp_ne2 (c s q s' q' : Int) (w : World) (h : ¬ s = s') :
    Calls Try.prog 64 #[tagV c s q, tagV c s' q'] w fun e w' => e = .returned (.int .i64 (orI [sgn c c, sgn s s', sgn q q'])) ∧ Below w.heap.size w w' := by
  go_enter Try.func64, Try.ntmps64
  go_wp2_with fail
  go_region_held3 (fun w' => w'.cell? ⟨w.heap.size, 0, none⟩ = some (.int .i64 c) ∧ w'.cell? ⟨w.heap.size, 1, none⟩ = some (.int .i64 s) ∧ w'.cell? ⟨w.heap.size, 2, none⟩ = some (.int .i64 q) ∧ w'.cell? ⟨w.heap.size + 1, 0, none⟩ = some (.int .i64 c) ∧ w'.cell? ⟨w.heap.size + 1, 1, none⟩ = some (.int .i64 s') ∧ w'.cell? ⟨w.heap.size + 1, 2, none⟩ = some (.int .i64 q')) (go_keep)
    (first | (go_at_call 76; refine (compare_any _ _ _).mono ?_; rintro e w' ⟨rfl, rfl⟩) | (go_at_call 75; refine (or_any _ [sgn c c, sgn s s', sgn q q'] _ _ (by simp) (by exact three_cells _ _ _ _ _ _ (by simp))).mono ?_; rintro e w' ⟨rfl, rfl⟩))
  all_goals
    go_wp2
    go_ret
    exact ⟨rfl, ((((Below.refl _ _).alloc (Nat.le_refl _) _).alloc (by simp) _).alloc (by simp; omega) _).drew⟩

set_option maxHeartbeats 1000000 in
theorem implTagCmp_ne3 (c s q q' : Int) (w : World) (h : ¬ q = q') :
    Calls Try.prog 64 #[tagV c s q, tagV c s q'] w fun e w' => e = .returned (.int .i64 (orI [sgn c c, sgn s s, sgn q q'])) ∧ Below w.heap.size w w' := by
  go_enter Try.func64, Try.ntmps64
  go_wp2_with fail
  go_region_held3 (fun w' => w'.cell? ⟨w.heap.size, 0, none⟩ = some (.int .i64 c) ∧ w'.cell? ⟨w.heap.size, 1, none⟩ = some (.int .i64 s) ∧ w'.cell? ⟨w.heap.size, 2, none⟩ = some (.int .i64 q) ∧ w'.cell? ⟨w.heap.size + 1, 0, none⟩ = some (.int .i64 c) ∧ w'.cell? ⟨w.heap.size + 1, 1, none⟩ = some (.int .i64 s) ∧ w'.cell? ⟨w.heap.size + 1, 2, none⟩ = some (.int .i64 q')) (go_keep)
    (first | (go_at_call 76; refine (compare_any _ _ _).mono ?_; rintro e w' ⟨rfl, rfl⟩) | (go_at_call 75; refine (or_any _ [sgn c c, sgn s s, sgn q q'] _ _ (by simp) (by exact three_cells _ _ _ _ _ _ (by simp))).mono ?_; rintro e w' ⟨rfl, rfl⟩))
  all_goals
    go_wp2
    go_ret
    exact ⟨rfl, ((((Below.refl _ _).alloc (Nat.le_refl _) _).alloc (by simp) _).alloc (by simp; omega) _).drew⟩

theorem implTagCmp_any (c s q c' s' q' : Int) (w : World) :
    Calls Try.prog 64 #[tagV c s q, tagV c' s' q'] w fun e w' => e = .returned (.int .i64 (tcmp c s q c' s' q')) ∧ Below w.heap.size w w' := by
  rw [← orI_three]
  by_cases h1 : c = c'
  · by_cases h2 : s = s'
    · by_cases h3 : q = q'
      · subst h1 h2 h3
        rw [orI_three, tcmp_self]
        exact implTagCmp_eq c s q w
      · subst h1 h2
        exact implTagCmp_ne3 c s q q' w h3
    · subst h1
      exact implTagCmp_ne2 c s q s' q' w h2
  · exact implTagCmp_ne1 c s q c' s' q' w h1

end Go.Proofs.Ytkcbknjmpfgimaa
