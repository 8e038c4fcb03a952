import Derived.Test.YtkcbknjmpfgimaaPack2
import Derived.Test.YtkcbknjmpfgimaaPack1
import Derived.WalkSmall
import Derived.Laws.Append
import Derived.Deep.DrawnRows
namespace Go.Proofs.Ytkcbknjmpfgimaa

def tc (a b : Tm) : Int := tcmp a.c a.s a.q b.c b.s b.q

abbrev tOk (t : Tm) : Bool := tagOkB t.c t.s t.q

def mkT (m : Mk) : Tm := ⟨m.c, m.s, m.q⟩

theorem tm_ext {a b : Tm} (h1 : a.c = b.c) (h2 : a.s = b.s) (h3 : a.q = b.q) : a = b := by
  cases a
  cases b
  simp at h1 h2 h3
  simp [h1, h2, h3]

theorem tc_zero {a b : Tm} : tc a b = 0 ↔ a = b := by
  unfold tc
  rw [tcmp_zero]
  exact ⟨fun h => tm_ext h.1 h.2.1 h.2.2, fun h => by rw [h]; exact ⟨rfl, rfl, rfl⟩⟩

theorem tc_neg (a b : Tm) : tc b a = -tc a b := tcmp_neg _ _ _ _ _ _

instance : DecidableEq Tm := fun a b => if h : tc a b = 0 then isTrue (tc_zero.1 h) else isFalse fun e => h (tc_zero.2 e)

def tagsOkB : List Tm → Bool
  | [] => true
  | x :: r => tOk x && (match r with | [] => true | y :: _ => decide (tc x y < 0)) && tagsOkB r

def tagGood (xs : List Tm) (k : Nat) : Bool := tOk (xs.getD k tmZ) && decide (k = 0 ∨ tc (xs.getD (k - 1) tmZ) (xs.getD k tmZ) < 0)

theorem tagsOk_all : ∀ xs : List Tm, (∀ k, k < xs.length → tagGood xs k = true) → tagsOkB xs = true
  | [], _ => rfl
  | [x], h => by
    have := h 0 (by simp)
    simp [tagGood] at this
    simp [tagsOkB, this]
  | x :: y :: r, h => by
    have h0 := h 0 (by simp)
    have h1 := h 1 (by simp)
    have hr := tagsOk_all (y :: r) (fun k hk => by
      have hk' := h (k + 1) (by simp at hk ⊢; omega)
      cases k with
      | zero => simp [tagGood] at hk' ⊢; exact hk'.1
      | succ j => simpa [tagGood] using hk')
    simp [tagGood] at h0 h1
    have e : tagsOkB (x :: y :: r) = (tOk x && decide (tc x y < 0) && tagsOkB (y :: r)) := rfl
    rw [e, hr]
    simp [h0, h1]

theorem tagsOk_good : ∀ (xs : List Tm), tagsOkB xs = true → ∀ k, k < xs.length → tagGood xs k = true
  | [], _, k, hk => by simp at hk
  | [x], h, k, hk => by
    have : k = 0 := by simpa using hk
    subst this
    simp [tagsOkB] at h
    simp [tagGood, h]
  | x :: y :: r, h, k, hk => by
    have e : tagsOkB (x :: y :: r) = (tOk x && decide (tc x y < 0) && tagsOkB (y :: r)) := rfl
    rw [e, Bool.and_eq_true, Bool.and_eq_true, decide_eq_true_iff] at h
    have hr := tagsOk_good (y :: r) h.2
    match k, hk with
    | 0, _ => simp [tagGood, h.1.1]
    | 1, _ =>
      have := hr 0 (by simp)
      simp [tagGood] at this
      simp [tagGood, this, h.1.2]
    | k + 2, hk =>
      have := hr (k + 1) (by simpa using hk)
      simpa [tagGood] using this

theorem tagsOk_false {xs : List Tm} {k : Nat} (hk : k < xs.length) (h : tagGood xs k = false) : tagsOkB xs = false := by
  cases e : tagsOkB xs
  · rfl
  · rw [tagsOk_good xs e k hk] at h
    cases h

def setOkB (us : List Mk) (ds : List Tm) : Bool := us.all (fun m => btw m.e 0 1000) && tagsOkB (us.map mkT) && tagsOkB ds

theorem setOk_iff (us : List Mk) (ds : List Tm) : setOkB us ds = true ↔ ((∀ m ∈ us, btw m.e 0 1000 = true) ∧ tagsOkB (us.map mkT) = true) ∧ tagsOkB ds = true := by
  unfold setOkB
  rw [Bool.and_eq_true, Bool.and_eq_true, List.all_eq_true]

/-! ### A tag put to tags, a mark put to marks -/

theorem getD_map {us : List Mk} {k : Nat} (hk : k < us.length) : (us.map mkT).getD k tmZ = mkT (us.getD k mkZ) := by
  simp [List.getD, hk]

/-! ### What the chapter's functions answer -/

end Go.Proofs.Ytkcbknjmpfgimaa

namespace Go.Proofs.Ytkcbknjmpfgimaa
open Go.ChangeShapes Go.WideShapes Go.ChangeAt Go.RowKit Go.Joins
attribute [local go_sem ↓] Go.wp_at_zero Go.wp_at_succ
set_option maxRecDepth 100000

theorem stcmp_is (c s q c' s' q' x : Int) (h : tcmp c s q c' s' q' = x) (w : World) :
    Calls Try.prog 34 #[tagV c s q, tagV c' s' q'] w fun e w' => e = .returned (.int .i64 x) ∧ Below w.heap.size w w' := by
  rw [← h]
  exact specTagCmp_any c s q c' s' q' w

theorem betweenE_is (n : Int) (v : Bool) (h : btw n 0 1000 = v) (w : World) :
    Calls Try.prog 33 #[.int .i64 n, .int .i64 0, .int .i64 1000] w fun e w' => e = .returned (.bool v) ∧ w' = w := by
  rw [← h]
  exact between_any n 0 1000 w

def marksOkB (us : List Mk) : Bool := us.all (fun m => btw m.e 0 1000) && tagsOkB (us.map mkT)

theorem setOk_split (us : List Mk) (ds : List Tm) : setOkB us ds = (marksOkB us && tagsOkB ds) := rfl

def markGood (us : List Mk) (k : Nat) : Bool := tOk (mkT (us.getD k mkZ)) && btw (us.getD k mkZ).e 0 1000 && decide (k = 0 ∨ tc (mkT (us.getD (k - 1) mkZ)) (mkT (us.getD k mkZ)) < 0)

theorem marks_true {us : List Mk} (h : ∀ k, k < us.length → markGood us k = true) : marksOkB us = true := by
  unfold marksOkB
  rw [Bool.and_eq_true, List.all_eq_true]
  constructor
  · intro m hm
    obtain ⟨i, hi, rfl⟩ := List.mem_iff_getElem.1 hm
    have h1 := h i hi
    unfold markGood at h1
    rw [Bool.and_eq_true, Bool.and_eq_true, List.getD_eq_getElem?_getD, List.getElem?_eq_getElem hi] at h1
    exact h1.1.2
  · refine tagsOk_all _ fun k hk => ?_
    rw [List.length_map] at hk
    have h1 := h k hk
    unfold markGood at h1
    unfold tagGood
    rw [Bool.and_eq_true, Bool.and_eq_true] at h1
    rw [Bool.and_eq_true, getD_map hk]
    refine ⟨h1.1.1, ?_⟩
    have h2 := h1.2
    cases k with
    | zero => simp
    | succ j => rw [getD_map (by omega)]; exact h2

theorem marks_false {us : List Mk} {k : Nat} (hk : k < us.length) (h : markGood us k = false) : marksOkB us = false := by
  cases e : marksOkB us
  · rfl
  · exfalso
    unfold marksOkB at e
    rw [Bool.and_eq_true, List.all_eq_true] at e
    have h1 := tagsOk_good _ e.2 k (by simpa using hk)
    have h2 := e.1 us[k] (List.getElem_mem hk)
    have e1 : us.getD k mkZ = us[k] := by
      rw [List.getD_eq_getElem?_getD, List.getElem?_eq_getElem hk]
      rfl
    unfold tagGood at h1
    rw [Bool.and_eq_true, getD_map hk] at h1
    have h3 : markGood us k = true := by
      unfold markGood
      rw [Bool.and_eq_true, Bool.and_eq_true]
      refine ⟨⟨h1.1, by rw [e1]; exact h2⟩, ?_⟩
      have h4 := h1.2
      cases k with
      | zero => simp
      | succ j => rw [getD_map (by omega)] at h4; exact h4
    rw [h3] at h
    cases h

theorem sgn3 {x : Int} (h : -1 ≤ x ∧ x ≤ 1) : x = -1 ∨ x = 0 ∨ x = 1 := by omega

set_option maxHeartbeats 8000000 in
theorem specSetOk_any (a : Option Addr) (n cap : Nat) (b : Option Addr) (m cb : Nat) (us : List Mk) (ds : List Tm) (w : World) (hl : us.length = n) (hn : n ≤ maxLen) (hl' : ds.length = m) (hm : m ≤ maxLen) (hh : IsSt w a b us ds) :
    Calls Try.prog 10 #[setV a n cap b m cb] w fun e w' => e = .returned (.bool (setOkB us ds)) ∧ Below w.heap.size w w' := by
  have HB0 : Hid (Below w.heap.size w (w.alloc (.cells #[.slice a n cap, .slice b m cb] 31))) := (Below.refl _ _).alloc (Nat.le_refl _) _
  have HC : Hid (IsSt (w.alloc (.cells #[.slice a n cap, .slice b m cb] 31)) a b us ds) := hh.below HB0.out
  have HL := Lib.hid hl
  have HL' := Lib.hid hl'
  have hn2 : n ≤ 9223372036854775807 := Nat.le_trans hn (by decide)
  have hm2 : m ≤ 9223372036854775807 := Nat.le_trans hm (by decide)
  clear hh hl hl' hn hm
  go_enter Try.func10, Try.ntmps10
  go_wp2_with fail
  have c0 : (w.alloc (.cells #[.slice a n cap, .slice b m cb] 31)).cell? ⟨w.heap.size, 0, none⟩ = some (.slice a n cap) := by go_simp
  have c1 : (w.alloc (.cells #[.slice a n cap, .slice b m cb] 31)).cell? ⟨w.heap.size, 1, none⟩ = some (.slice b m cb) := by go_simp
  have hz : w.heap.size < (w.alloc (.cells #[.slice a n cap, .slice b m cb] 31)).heap.size := by simp
  generalize w.alloc (.cells #[.slice a n cap, .slice b m cb] 31) = V at *
  go_loopw [3] (fun i wr => ∃ k : Nat, k ≤ n ∧ i = .int .i64 k ∧ Hid (∀ j, j < k → markGood us j = true) ∧ Hid (Below V.heap.size V wr)) (fun i _ => n - (intOf i).toNat)
  case atStart => exact ⟨0, Nat.zero_le _, rfl, fun j hj => by omega, Below.refl _ _⟩
  case round =>
    obtain ⟨k, hk, rfl, HG, HB⟩ := hrel
    have d0 := fl_cells HB.out hz c0
    have d1 := fl_cells HB.out hz c1
    have hzr := Nat.lt_of_lt_of_le hz HB.out.size
    by_cases hk' : k < n
    · have hkk : k < us.length := by rw [HL.out]; exact hk'
      obtain ⟨b', o, rfl, hzb, hat⟩ := HC.out.1.at HB.out hkk
      obtain ⟨e0, e1, e2, e3⟩ := mk_at hat
      simp only [show mkF.k = 4 from rfl, show mkF.z = mkZ from rfl] at e0 e1 e2 e3
      have HD : Hid (markGood us k = (tOk (mkT (us.getD k mkZ)) && btw (us.getD k mkZ).e 0 1000 && decide (k = 0 ∨ tc (mkT (us.getD (k - 1) mkZ)) (mkT (us.getD k mkZ)) < 0))) := rfl
      have i1 : (0 : Int) ≤ (k : Int) := by omega
      have i2 : (k : Int) < (n : Int) := by omega
      clear hat c0 c1
      cases h2 : tagOkB (us.getD k mkZ).c (us.getD k mkZ).s (us.getD k mkZ).q
      · have HF : Hid (setOkB us ds = false) := by
          show setOkB us ds = false
          rw [setOk_split, marks_false hkk (by rw [HD.out]; show (tagOkB (us.getD k mkZ).c (us.getD k mkZ).s (us.getD k mkZ).q && _ && _) = false; rw [h2]; rfl)]
          rfl
        clear HD
        generalize (us.getD k mkZ).e = ye at *
        generalize (us.getD k mkZ).c = yc at *
        generalize (us.getD k mkZ).s = ys at *
        generalize (us.getD k mkZ).q = yq at *
        go_wp2_with fail
        have gd0 := aft_cell hzr d0
        have gd1 := aft_cell hzr d1
        have ge0 := aft_cell hzb e0
        have ge1 := aft_cell hzb e1
        have ge2 := aft_cell hzb e2
        have ge3 := aft_cell hzb e3
        have ne := aft_some wr
        refine wp_region_aft (by kernel_rfl) (by kernel_rfl) ?_
        repeat (first | go_big_quiet_step (first | (go_at_call 32; exact aft_of (specTagOk_is _ _ _ false h2 _))))
        refine wpQuiet_nil ?_
        intro wq hq
        go_wp2
        go_ret
        exact ⟨ret_bool HF.out.symm, HB0.out.trans ((below_step HB.out HB.out.size hq).mono HB0.out.size)⟩
      · cases h1 : btw (us.getD k mkZ).e 0 1000
        · have HF : Hid (setOkB us ds = false) := by
            show setOkB us ds = false
            rw [setOk_split, marks_false hkk (by rw [HD.out, h1, Bool.and_false]; rfl)]
            rfl
          clear HD
          generalize (us.getD k mkZ).e = ye at *
          generalize (us.getD k mkZ).c = yc at *
          generalize (us.getD k mkZ).s = ys at *
          generalize (us.getD k mkZ).q = yq at *
          go_wp2_with fail
          have gd0 := aft_cell hzr d0
          have gd1 := aft_cell hzr d1
          have ge0 := aft_cell hzb e0
          have ge1 := aft_cell hzb e1
          have ge2 := aft_cell hzb e2
          have ge3 := aft_cell hzb e3
          have ne := aft_some wr
          refine wp_region_aft (by kernel_rfl) (by kernel_rfl) ?_
          repeat (first | go_big_quiet_step (first | (go_at_call 32; exact aft_of (specTagOk_is _ _ _ true h2 _)) | (go_at_call 33; exact aft_same (betweenE_is _ false h1 _))))
          refine wpQuiet_nil ?_
          intro wq hq
          go_wp2
          go_ret
          exact ⟨ret_bool HF.out.symm, HB0.out.trans ((below_step HB.out HB.out.size hq).mono HB0.out.size)⟩
        · by_cases h0 : k = 0
          · have HG' : Hid (∀ j, j < k + 1 → markGood us j = true) := fun j hj => by
              by_cases h : j < k
              · exact HG.out j h
              · have : j = k := by omega
                rw [this, HD.out, h1, decide_eq_true (Or.inl h0)]
                show (tagOkB (us.getD k mkZ).c (us.getD k mkZ).s (us.getD k mkZ).q && true && true) = true
                rw [h2]
                rfl
            have hd : decide (0 < k) = false := by simp [h0]
            clear HD h0
            generalize (us.getD k mkZ).e = ye at *
            generalize (us.getD k mkZ).c = yc at *
            generalize (us.getD k mkZ).s = ys at *
            generalize (us.getD k mkZ).q = yq at *
            go_wp2_with fail
            have gd0 := aft_cell hzr d0
            have gd1 := aft_cell hzr d1
            have ge0 := aft_cell hzb e0
            have ge1 := aft_cell hzb e1
            have ge2 := aft_cell hzb e2
            have ge3 := aft_cell hzb e3
            have ne := aft_some wr
            refine wp_region_aft (by kernel_rfl) (by kernel_rfl) ?_
            repeat (first | go_big_quiet_step (first | (go_at_call 32; exact aft_of (specTagOk_is _ _ _ true h2 _)) | (go_at_call 33; exact aft_same (betweenE_is _ true h1 _))))
            refine wpQuiet_nil ?_
            intro wq hq
            go_wp2
            exact ⟨⟨k + 1, by omega, by go_num, HG', below_step HB.out HB.out.size hq⟩, by simp [intOf]; omega⟩
          · obtain ⟨j, rfl⟩ : ∃ j, k = j + 1 := ⟨k - 1, by omega⟩
            obtain ⟨b2, o2, hbo, -, hat2⟩ := HC.out.1.at HB.out (show j < us.length by omega)
            obtain ⟨f0, f1, f2, f3⟩ := mk_at hat2
            simp only [show mkF.k = 4 from rfl, show mkF.z = mkZ from rfl] at f0 f1 f2 f3
            injection hbo with hbo
            injection hbo with hb1 hb2
            subst hb1 hb2
            clear hat2 f0
            rw [show j + 1 - 1 = j from rfl] at HD
            have i3 : (j : Int) + 1 < (n : Int) := by omega
            have HX : Hid (tc (mkT (us.getD j mkZ)) (mkT (us.getD (j + 1) mkZ)) = tcmp (us.getD j mkZ).c (us.getD j mkZ).s (us.getD j mkZ).q (us.getD (j + 1) mkZ).c (us.getD (j + 1) mkZ).s (us.getD (j + 1) mkZ).q) := rfl
            have HT : Hid (tOk (mkT (us.getD (j + 1) mkZ)) = true) := h2
            rcases sgn3 (tcmp_bd (us.getD j mkZ).c (us.getD j mkZ).s (us.getD j mkZ).q (us.getD (j + 1) mkZ).c (us.getD (j + 1) mkZ).s (us.getD (j + 1) mkZ).q) with hx | hx | hx
            · have HG' : Hid (∀ i, i < j + 1 + 1 → markGood us i = true) := fun i hi => by
                by_cases h : i < j + 1
                · exact HG.out i h
                · have : i = j + 1 := by omega
                  rw [this, HD.out, h1, HT.out, decide_eq_true (Or.inr (by rw [HX.out, hx]; decide))]
                  rfl
              clear HD HX HT
              generalize (us.getD j mkZ).c = pc at *
              generalize (us.getD j mkZ).s = ps at *
              generalize (us.getD j mkZ).q = pq at *
              generalize (us.getD (j + 1) mkZ).e = ye at *
              generalize (us.getD (j + 1) mkZ).c = yc at *
              generalize (us.getD (j + 1) mkZ).s = ys at *
              generalize (us.getD (j + 1) mkZ).q = yq at *
              go_wp2_with fail
              have gd0 := aft_cell hzr d0
              have gd1 := aft_cell hzr d1
              have ge0 := aft_cell hzb e0
              have ge1 := aft_cell hzb e1
              have ge2 := aft_cell hzb e2
              have ge3 := aft_cell hzb e3
              have gf1 := aft_cell hzb f1
              have gf2 := aft_cell hzb f2
              have gf3 := aft_cell hzb f3
              have ne := aft_some wr
              refine wp_region_aft (by kernel_rfl) (by kernel_rfl) ?_
              repeat (first | go_big_quiet_step (first | (go_at_call 32; exact aft_of (specTagOk_is _ _ _ true h2 _)) | (go_at_call 33; exact aft_same (betweenE_is _ true h1 _)) | (go_at_call 34; exact aft_of (stcmp_is _ _ _ _ _ _ _ hx _))))
              refine wpQuiet_nil ?_
              intro wq hq
              go_wp2
              exact ⟨⟨j + 1 + 1, by omega, by go_num, HG', below_step HB.out HB.out.size hq⟩, by simp [intOf]; omega⟩
            · have HF : Hid (setOkB us ds = false) := by
                show setOkB us ds = false
                rw [setOk_split, marks_false hkk (by rw [HD.out, HX.out, hx]; simp)]
                rfl
              clear HD HX HT
              generalize (us.getD j mkZ).c = pc at *
              generalize (us.getD j mkZ).s = ps at *
              generalize (us.getD j mkZ).q = pq at *
              generalize (us.getD (j + 1) mkZ).e = ye at *
              generalize (us.getD (j + 1) mkZ).c = yc at *
              generalize (us.getD (j + 1) mkZ).s = ys at *
              generalize (us.getD (j + 1) mkZ).q = yq at *
              go_wp2_with fail
              have gd0 := aft_cell hzr d0
              have gd1 := aft_cell hzr d1
              have ge0 := aft_cell hzb e0
              have ge1 := aft_cell hzb e1
              have ge2 := aft_cell hzb e2
              have ge3 := aft_cell hzb e3
              have gf1 := aft_cell hzb f1
              have gf2 := aft_cell hzb f2
              have gf3 := aft_cell hzb f3
              have ne := aft_some wr
              refine wp_region_aft (by kernel_rfl) (by kernel_rfl) ?_
              repeat (first | go_big_quiet_step (first | (go_at_call 32; exact aft_of (specTagOk_is _ _ _ true h2 _)) | (go_at_call 33; exact aft_same (betweenE_is _ true h1 _)) | (go_at_call 34; exact aft_of (stcmp_is _ _ _ _ _ _ _ hx _))))
              refine wpQuiet_nil ?_
              intro wq hq
              go_wp2
              go_ret
              exact ⟨ret_bool HF.out.symm, HB0.out.trans ((below_step HB.out HB.out.size hq).mono HB0.out.size)⟩
            · have HF : Hid (setOkB us ds = false) := by
                show setOkB us ds = false
                rw [setOk_split, marks_false hkk (by rw [HD.out, HX.out, hx]; simp)]
                rfl
              clear HD HX HT
              generalize (us.getD j mkZ).c = pc at *
              generalize (us.getD j mkZ).s = ps at *
              generalize (us.getD j mkZ).q = pq at *
              generalize (us.getD (j + 1) mkZ).e = ye at *
              generalize (us.getD (j + 1) mkZ).c = yc at *
              generalize (us.getD (j + 1) mkZ).s = ys at *
              generalize (us.getD (j + 1) mkZ).q = yq at *
              go_wp2_with fail
              have gd0 := aft_cell hzr d0
              have gd1 := aft_cell hzr d1
              have ge0 := aft_cell hzb e0
              have ge1 := aft_cell hzb e1
              have ge2 := aft_cell hzb e2
              have ge3 := aft_cell hzb e3
              have gf1 := aft_cell hzb f1
              have gf2 := aft_cell hzb f2
              have gf3 := aft_cell hzb f3
              have ne := aft_some wr
              refine wp_region_aft (by kernel_rfl) (by kernel_rfl) ?_
              repeat (first | go_big_quiet_step (first | (go_at_call 32; exact aft_of (specTagOk_is _ _ _ true h2 _)) | (go_at_call 33; exact aft_same (betweenE_is _ true h1 _)) | (go_at_call 34; exact aft_of (stcmp_is _ _ _ _ _ _ _ hx _))))
              refine wpQuiet_nil ?_
              intro wq hq
              go_wp2
              go_ret
              exact ⟨ret_bool HF.out.symm, HB0.out.trans ((below_step HB.out HB.out.size hq).mono HB0.out.size)⟩
    · have HM : Hid (setOkB us ds = tagsOkB ds) := by
        show setOkB us ds = tagsOkB ds
        rw [setOk_split, marks_true fun j hj => HG.out j (by have := HL.out; omega), Bool.true_and]
      have HBW := HB
      clear HG
      go_wp2
      go_loopw [4] (fun i wr => ∃ k : Nat, k ≤ m ∧ i = .int .i64 k ∧ Hid (∀ j, j < k → tagGood ds j = true) ∧ Hid (Below V.heap.size V wr)) (fun i _ => m - (intOf i).toNat)
      case atStart => exact ⟨0, Nat.zero_le _, rfl, fun j hj => by omega, HBW⟩
      case round =>
        clear d0 d1 hzr HB HBW
        obtain ⟨k, hk, rfl, HG, HB⟩ := hrel
        have d0 := fl_cells HB.out hz c0
        have d1 := fl_cells HB.out hz c1
        have hzr := Nat.lt_of_lt_of_le hz HB.out.size
        by_cases hk' : k < m
        · have hkk : k < ds.length := by rw [HL'.out]; exact hk'
          obtain ⟨b', o, rfl, hzb, hat⟩ := HC.out.2.at HB.out hkk
          obtain ⟨e0, e1, e2⟩ := tm_at hat
          simp only [show tmF.k = 3 from rfl, show tmF.z = tmZ from rfl] at e0 e1 e2
          have HD : Hid (tagGood ds k = (tOk (ds.getD k tmZ) && decide (k = 0 ∨ tc (ds.getD (k - 1) tmZ) (ds.getD k tmZ) < 0))) := rfl
          have i1 : (0 : Int) ≤ (k : Int) := by omega
          have i2 : (k : Int) < (m : Int) := by omega
          clear hat c0 c1
          cases h2 : tagOkB (ds.getD k tmZ).c (ds.getD k tmZ).s (ds.getD k tmZ).q
          · have HF : Hid (setOkB us ds = false) := by
              show setOkB us ds = false
              rw [HM.out]
              exact tagsOk_false hkk (by rw [HD.out]; show (tagOkB (ds.getD k tmZ).c (ds.getD k tmZ).s (ds.getD k tmZ).q && _) = false; rw [h2]; rfl)
            clear HD
            generalize (ds.getD k tmZ).c = yc at *
            generalize (ds.getD k tmZ).s = ys at *
            generalize (ds.getD k tmZ).q = yq at *
            go_wp2_with fail
            have gd0 := aft_cell hzr d0
            have gd1 := aft_cell hzr d1
            have ge0 := aft_cell hzb e0
            have ge1 := aft_cell hzb e1
            have ge2 := aft_cell hzb e2
            have ne := aft_some wr
            refine wp_region_aft (by kernel_rfl) (by kernel_rfl) ?_
            repeat (first | go_big_quiet_step (first | (go_at_call 32; exact aft_of (specTagOk_is _ _ _ false h2 _))))
            refine wpQuiet_nil ?_
            intro wq hq
            go_wp2
            go_ret
            exact ⟨ret_bool HF.out.symm, HB0.out.trans ((below_step HB.out HB.out.size hq).mono HB0.out.size)⟩
          · by_cases h0 : k = 0
            · have HG' : Hid (∀ j, j < k + 1 → tagGood ds j = true) := fun j hj => by
                by_cases h : j < k
                · exact HG.out j h
                · have : j = k := by omega
                  rw [this, HD.out, decide_eq_true (Or.inl h0)]
                  show (tagOkB (ds.getD k tmZ).c (ds.getD k tmZ).s (ds.getD k tmZ).q && true) = true
                  rw [h2]
                  rfl
              have hd : decide (0 < k) = false := by simp [h0]
              clear HD h0
              generalize (ds.getD k tmZ).c = yc at *
              generalize (ds.getD k tmZ).s = ys at *
              generalize (ds.getD k tmZ).q = yq at *
              go_wp2_with fail
              have gd0 := aft_cell hzr d0
              have gd1 := aft_cell hzr d1
              have ge0 := aft_cell hzb e0
              have ge1 := aft_cell hzb e1
              have ge2 := aft_cell hzb e2
              have ne := aft_some wr
              refine wp_region_aft (by kernel_rfl) (by kernel_rfl) ?_
              repeat (first | go_big_quiet_step (first | (go_at_call 32; exact aft_of (specTagOk_is _ _ _ true h2 _))))
              refine wpQuiet_nil ?_
              intro wq hq
              go_wp2
              exact ⟨⟨k + 1, by omega, by go_num, HG', below_step HB.out HB.out.size hq⟩, by simp [intOf]; omega⟩
            · obtain ⟨j, rfl⟩ : ∃ j, k = j + 1 := ⟨k - 1, by omega⟩
              obtain ⟨b2, o2, hbo, -, hat2⟩ := HC.out.2.at HB.out (show j < ds.length by omega)
              obtain ⟨f0, f1, f2⟩ := tm_at hat2
              simp only [show tmF.k = 3 from rfl, show tmF.z = tmZ from rfl] at f0 f1 f2
              injection hbo with hbo
              injection hbo with hb1 hb2
              subst hb1 hb2
              clear hat2
              rw [show j + 1 - 1 = j from rfl] at HD
              have i3 : (j : Int) + 1 < (m : Int) := by omega
              have HX : Hid (tc (ds.getD j tmZ) (ds.getD (j + 1) tmZ) = tcmp (ds.getD j tmZ).c (ds.getD j tmZ).s (ds.getD j tmZ).q (ds.getD (j + 1) tmZ).c (ds.getD (j + 1) tmZ).s (ds.getD (j + 1) tmZ).q) := rfl
              have HT : Hid (tOk (ds.getD (j + 1) tmZ) = true) := h2
              rcases sgn3 (tcmp_bd (ds.getD j tmZ).c (ds.getD j tmZ).s (ds.getD j tmZ).q (ds.getD (j + 1) tmZ).c (ds.getD (j + 1) tmZ).s (ds.getD (j + 1) tmZ).q) with hx | hx | hx
              · have HG' : Hid (∀ i, i < j + 1 + 1 → tagGood ds i = true) := fun i hi => by
                  by_cases h : i < j + 1
                  · exact HG.out i h
                  · have : i = j + 1 := by omega
                    rw [this, HD.out, HT.out, decide_eq_true (Or.inr (by rw [HX.out, hx]; decide))]
                    rfl
                clear HD HX HT
                generalize (ds.getD j tmZ).c = pc at *
                generalize (ds.getD j tmZ).s = ps at *
                generalize (ds.getD j tmZ).q = pq at *
                generalize (ds.getD (j + 1) tmZ).c = yc at *
                generalize (ds.getD (j + 1) tmZ).s = ys at *
                generalize (ds.getD (j + 1) tmZ).q = yq at *
                go_wp2_with fail
                have gd0 := aft_cell hzr d0
                have gd1 := aft_cell hzr d1
                have ge0 := aft_cell hzb e0
                have ge1 := aft_cell hzb e1
                have ge2 := aft_cell hzb e2
                have gf0 := aft_cell hzb f0
                have gf1 := aft_cell hzb f1
                have gf2 := aft_cell hzb f2
                have ne := aft_some wr
                refine wp_region_aft (by kernel_rfl) (by kernel_rfl) ?_
                repeat (first | go_big_quiet_step (first | (go_at_call 32; exact aft_of (specTagOk_is _ _ _ true h2 _)) | (go_at_call 34; exact aft_of (stcmp_is _ _ _ _ _ _ _ hx _))))
                refine wpQuiet_nil ?_
                intro wq hq
                go_wp2
                exact ⟨⟨j + 1 + 1, by omega, by go_num, HG', below_step HB.out HB.out.size hq⟩, by simp [intOf]; omega⟩
              · have HF : Hid (setOkB us ds = false) := by
                  show setOkB us ds = false
                  rw [HM.out]
                  exact tagsOk_false hkk (by rw [HD.out, HX.out, hx]; simp)
                clear HD HX HT
                generalize (ds.getD j tmZ).c = pc at *
                generalize (ds.getD j tmZ).s = ps at *
                generalize (ds.getD j tmZ).q = pq at *
                generalize (ds.getD (j + 1) tmZ).c = yc at *
                generalize (ds.getD (j + 1) tmZ).s = ys at *
                generalize (ds.getD (j + 1) tmZ).q = yq at *
                go_wp2_with fail
                have gd0 := aft_cell hzr d0
                have gd1 := aft_cell hzr d1
                have ge0 := aft_cell hzb e0
                have ge1 := aft_cell hzb e1
                have ge2 := aft_cell hzb e2
                have gf0 := aft_cell hzb f0
                have gf1 := aft_cell hzb f1
                have gf2 := aft_cell hzb f2
                have ne := aft_some wr
                refine wp_region_aft (by kernel_rfl) (by kernel_rfl) ?_
                repeat (first | go_big_quiet_step (first | (go_at_call 32; exact aft_of (specTagOk_is _ _ _ true h2 _)) | (go_at_call 34; exact aft_of (stcmp_is _ _ _ _ _ _ _ hx _))))
                refine wpQuiet_nil ?_
                intro wq hq
                go_wp2
                go_ret
                exact ⟨ret_bool HF.out.symm, HB0.out.trans ((below_step HB.out HB.out.size hq).mono HB0.out.size)⟩
              · have HF : Hid (setOkB us ds = false) := by
                  show setOkB us ds = false
                  rw [HM.out]
                  exact tagsOk_false hkk (by rw [HD.out, HX.out, hx]; simp)
                clear HD HX HT
                generalize (ds.getD j tmZ).c = pc at *
                generalize (ds.getD j tmZ).s = ps at *
                generalize (ds.getD j tmZ).q = pq at *
                generalize (ds.getD (j + 1) tmZ).c = yc at *
                generalize (ds.getD (j + 1) tmZ).s = ys at *
                generalize (ds.getD (j + 1) tmZ).q = yq at *
                go_wp2_with fail
                have gd0 := aft_cell hzr d0
                have gd1 := aft_cell hzr d1
                have ge0 := aft_cell hzb e0
                have ge1 := aft_cell hzb e1
                have ge2 := aft_cell hzb e2
                have gf0 := aft_cell hzb f0
                have gf1 := aft_cell hzb f1
                have gf2 := aft_cell hzb f2
                have ne := aft_some wr
                refine wp_region_aft (by kernel_rfl) (by kernel_rfl) ?_
                repeat (first | go_big_quiet_step (first | (go_at_call 32; exact aft_of (specTagOk_is _ _ _ true h2 _)) | (go_at_call 34; exact aft_of (stcmp_is _ _ _ _ _ _ _ hx _))))
                refine wpQuiet_nil ?_
                intro wq hq
                go_wp2
                go_ret
                exact ⟨ret_bool HF.out.symm, HB0.out.trans ((below_step HB.out HB.out.size hq).mono HB0.out.size)⟩
        · have HF : Hid (setOkB us ds = true) := by
            show setOkB us ds = true
            rw [HM.out]
            exact tagsOk_all _ fun j hj => HG.out j (by have := HL'.out; omega)
          go_wp2
          go_ret
          exact ⟨ret_bool HF.out.symm, HB0.out.trans (HB.out.mono HB0.out.size)⟩

end Go.Proofs.Ytkcbknjmpfgimaa

namespace Go.Proofs.Ytkcbknjmpfgimaa

end Go.Proofs.Ytkcbknjmpfgimaa

namespace Go.Proofs.Ytkcbknjmpfgimaa
open Go.ChangeShapes Go.WideShapes Go.ChangeAt Go.RowKit Go.Joins
set_option maxRecDepth 100000

section
variable {α : Type} {F : Flat α}

theorem Flat.Row.facts {w : World} {base : Nat} {v : Value} {xs : List α} (row : F.Row w base v xs) : ∃ a cap, v = .slice a xs.length cap ∧ xs.length ≤ cap ∧ F.Own w base w.heap.size a xs := by
  obtain ⟨a, cap, rfl, hown⟩ := row.form
  refine ⟨a, cap, rfl, ?_, hown⟩
  rcases row.2 with ⟨q1, q2⟩ | ⟨g, cap', cur, q1, _, _, q4, _⟩
  · omega
  · injection q1 with _ _ q1
    omega

theorem Flat.one_new (w : World) (x : α) (t : TypeId) : F.Is (w.alloc (.cells (F.vals x).toArray t)) (some ⟨w.heap.size, 0, none⟩) [x] := by
  refine .inr ⟨w.heap.size, 0, rfl, by simp, fun i hi => ?_⟩
  have h0 : i = 0 := by simpa using hi
  subst h0
  intro c u hu
  rw [Nat.zero_mul, Nat.zero_add, cell_of_row _ _ _ _ _ _ (heap_alloc_new _ _)]
  simpa using hu

theorem Flat.Grew.after {base B : Nat} {v v' : Value} {w0 w w' : World} {xs ys : List α} (h : F.Grew base v v' w w' xs ys) (hb : Below B w0 w) (row : F.Row w base v xs) (hB : B ≤ base) (hB0 : B ≤ w.heap.size) : Below B w0 w' :=
  below_step' hb (h.below (fun _ hg => Nat.le_trans hB (row.block hg).1) hB0)
where
  below_step' {B : Nat} {w0 w w' : World} (h : Below B w0 w) (h' : Below B w w') : Below B w0 w' := h.trans h'

end

end Go.Proofs.Ytkcbknjmpfgimaa

namespace Go.Proofs.Ytkcbknjmpfgimaa
open Go.ChangeShapes Go.WideShapes Go.ChangeAt Go.RowKit
attribute [local go_sem ↓] Go.wp_at_zero Go.wp_at_succ

set_option maxHeartbeats 400000 in
theorem implTagCmp_eq (c s q : Int) (w : World) :
    Calls Try.prog 64 #[tagV c s q, tagV c s q] w fun e w' => e = .returned (.int .i64 0) ∧ Below w.heap.size w w' := by
  go_enter Try.func64, Try.ntmps64
  go_wp2_with fail
  go_ret
  exact ⟨rfl, ((Below.refl _ _).alloc (Nat.le_refl _) _).alloc (by simp) _⟩

theorem three_cells (W : World) (x y z : Int) (t b : Nat) (hb : W.heap.size = b) : ∀ i, i < [x, y, z].length → (W.alloc (Obj.cells #[.int .i64 x, .int .i64 y, .int .i64 z] t)).drew.cell? ⟨b, i, none⟩ = some (.int .i64 ([x, y, z].getD i 0)) := by
  subst hb
  intro i hi
  match i, hi with
  | 0, _ => simp [go_sem]
  | 1, _ => simp [go_sem]
  | 2, _ => simp [go_sem]

set_option maxHeartbeats 1000000 in
theorem implTagCmp_ne1 (c s q c' s' q' : Int) (w : World) (h : ¬ c = c') :
    Calls Try.prog 64 #[tagV c s q, tagV c' s' q'] w fun e w' => e = .returned (.int .i64 (orI [sgn c c', sgn s s', sgn q q'])) ∧ Below w.heap.size w w' := by
  go_enter Try.func64, Try.ntmps64
  go_wp2_with fail
  go_region_held3 (fun w' => w'.cell? ⟨w.heap.size, 0, none⟩ = some (.int .i64 c) ∧ w'.cell? ⟨w.heap.size, 1, none⟩ = some (.int .i64 s) ∧ w'.cell? ⟨w.heap.size, 2, none⟩ = some (.int .i64 q) ∧ w'.cell? ⟨w.heap.size + 1, 0, none⟩ = some (.int .i64 c') ∧ w'.cell? ⟨w.heap.size + 1, 1, none⟩ = some (.int .i64 s') ∧ w'.cell? ⟨w.heap.size + 1, 2, none⟩ = some (.int .i64 q')) (go_keep)
    (first | (go_at_call 76; refine (compare_any _ _ _).mono ?_; rintro e w' ⟨rfl, rfl⟩) | (go_at_call 75; refine (or_any _ [sgn c c', sgn s s', sgn q q'] _ _ (by simp) (by exact three_cells _ _ _ _ _ _ (by simp))).mono ?_; rintro e w' ⟨rfl, rfl⟩))
  all_goals
    go_wp2
    go_ret
    exact ⟨rfl, ((((Below.refl _ _).alloc (Nat.le_refl _) _).alloc (by simp) _).alloc (by simp; omega) _).drew⟩

set_option maxHeartbeats 1000000 in
theorem implTagCmp_ne2 (c s q s' q' : Int) (w : World) (h : ¬ s = s') :
    Calls Try.prog 64 #[tagV c s q, tagV c s' q'] w fun e w' => e = .returned (.int .i64 (orI [sgn c c, sgn s s', sgn q q'])) ∧ Below w.heap.size w w' := by
  go_enter Try.func64, Try.ntmps64
  go_wp2_with fail
  go_region_held3 (fun w' => w'.cell? ⟨w.heap.size, 0, none⟩ = some (.int .i64 c) ∧ w'.cell? ⟨w.heap.size, 1, none⟩ = some (.int .i64 s) ∧ w'.cell? ⟨w.heap.size, 2, none⟩ = some (.int .i64 q) ∧ w'.cell? ⟨w.heap.size + 1, 0, none⟩ = some (.int .i64 c) ∧ w'.cell? ⟨w.heap.size + 1, 1, none⟩ = some (.int .i64 s') ∧ w'.cell? ⟨w.heap.size + 1, 2, none⟩ = some (.int .i64 q')) (go_keep)
    (first | (go_at_call 76; refine (compare_any _ _ _).mono ?_; rintro e w' ⟨rfl, rfl⟩) | (go_at_call 75; refine (or_any _ [sgn c c, sgn s s', sgn q q'] _ _ (by simp) (by exact three_cells _ _ _ _ _ _ (by simp))).mono ?_; rintro e w' ⟨rfl, rfl⟩))
  all_goals
    go_wp2
    go_ret
    exact ⟨rfl, ((((Below.refl _ _).alloc (Nat.le_refl _) _).alloc (by simp) _).alloc (by simp; omega) _).drew⟩

set_option maxHeartbeats 1000000 in
theorem implTagCmp_ne3 (c s q q' : Int) (w : World) (h : ¬ q = q') :
    Calls Try.prog 64 #[tagV c s q, tagV c s q'] w fun e w' => e = .returned (.int .i64 (orI [sgn c c, sgn s s, sgn q q'])) ∧ Below w.heap.size w w' := by
  go_enter Try.func64, Try.ntmps64
  go_wp2_with fail
  go_region_held3 (fun w' => w'.cell? ⟨w.heap.size, 0, none⟩ = some (.int .i64 c) ∧ w'.cell? ⟨w.heap.size, 1, none⟩ = some (.int .i64 s) ∧ w'.cell? ⟨w.heap.size, 2, none⟩ = some (.int .i64 q) ∧ w'.cell? ⟨w.heap.size + 1, 0, none⟩ = some (.int .i64 c) ∧ w'.cell? ⟨w.heap.size + 1, 1, none⟩ = some (.int .i64 s) ∧ w'.cell? ⟨w.heap.size + 1, 2, none⟩ = some (.int .i64 q')) (go_keep)
    (first | (go_at_call 76; refine (compare_any _ _ _).mono ?_; rintro e w' ⟨rfl, rfl⟩) | (go_at_call 75; refine (or_any _ [sgn c c, sgn s s, sgn q q'] _ _ (by simp) (by exact three_cells _ _ _ _ _ _ (by simp))).mono ?_; rintro e w' ⟨rfl, rfl⟩))
  all_goals
    go_wp2
    go_ret
    exact ⟨rfl, ((((Below.refl _ _).alloc (Nat.le_refl _) _).alloc (by simp) _).alloc (by simp; omega) _).drew⟩

theorem implTagCmp_any (c s q c' s' q' : Int) (w : World) :
    Calls Try.prog 64 #[tagV c s q, tagV c' s' q'] w fun e w' => e = .returned (.int .i64 (tcmp c s q c' s' q')) ∧ Below w.heap.size w w' := by
  rw [← orI_three]
  by_cases h1 : c = c'
  · by_cases h2 : s = s'
    · by_cases h3 : q = q'
      · subst h1 h2 h3
        rw [orI_three, tcmp_self]
        exact implTagCmp_eq c s q w
      · subst h1 h2
        exact implTagCmp_ne3 c s q q' w h3
    · subst h1
      exact implTagCmp_ne2 c s q s' q' w h2
  · exact implTagCmp_ne1 c s q c' s' q' w h1

end Go.Proofs.Ytkcbknjmpfgimaa

namespace Go.Proofs.Ytkcbknjmpfgimaa
open Go.ChangeShapes Go.WideShapes Go.ChangeAt Go.RowKit Go.Joins
attribute [local go_sem ↓] Go.wp_at_zero Go.wp_at_succ
set_option maxRecDepth 100000

theorem itcmp_is (c s q c' s' q' x : Int) (h : tcmp c s q c' s' q' = x) (w : World) :
    Calls Try.prog 64 #[tagV c s q, tagV c' s' q'] w fun e w' => e = .returned (.int .i64 x) ∧ Below w.heap.size w w' := by
  rw [← h]
  exact implTagCmp_any c s q c' s' q' w

theorem elemOk_is (n : Int) (v : Bool) (h : btw n 0 1000 = v) (w : World) :
    Calls Try.prog 37 #[.int .i64 n] w fun e w' => e = .returned (.bool v) ∧ w' = w := by
  subst h
  go_enter Try.func37, Try.ntmps37
  go_wp2_with (go_at_call 63; refine (inRange_any _ _ _ _).mono ?_; rintro e w' ⟨rfl, rfl⟩)
  exact bodyPost_ret (v := .bool (btw n 0 1000)) (by simp [results, Try.results37, go_sem, *]) rfl ⟨rfl, rfl⟩

def lastT (xs : List Tm) (k : Nat) : Tm := if k = 0 then tmZ else xs.getD (k - 1) tmZ

theorem lastT_next (xs : List Tm) (k : Nat) : lastT xs (k + 1) = xs.getD k tmZ := by
  unfold lastT
  rw [if_neg (by omega)]
  rfl

theorem tagOk_pos {x : Tm} (h : tOk x = true) : 1 ≤ x.c := by
  unfold tOk tagOkB at h
  rw [Bool.and_eq_true] at h
  have h1 := h.1
  unfold btw at h1
  simp only [decide_eq_true_eq] at h1
  omega

theorem good_last {xs : List Tm} {k : Nat} (h : tOk (xs.getD k tmZ) = true) : tagGood xs k = decide (tc (xs.getD k tmZ) (lastT xs k) = 1) := by
  unfold tagGood lastT
  rw [h, Bool.true_and]
  by_cases h0 : k = 0
  · rw [if_pos h0, decide_eq_true (Or.inl h0)]
    have h1 := tagOk_pos h
    have : tc (xs.getD k tmZ) tmZ = 1 := by
      unfold tc tcmp
      rw [if_pos (by show (xs.getD k tmZ).c ≠ 0; omega)]
      unfold sgn
      rw [if_neg (by show ¬ (xs.getD k tmZ).c < 0; omega), if_pos (by show 0 < (xs.getD k tmZ).c; omega)]
    rw [this]
    rfl
  · rw [if_neg h0]
    have h1 := tc_neg (xs.getD (k - 1) tmZ) (xs.getD k tmZ)
    have h2 := tcmp_bd (xs.getD k tmZ).c (xs.getD k tmZ).s (xs.getD k tmZ).q (xs.getD (k - 1) tmZ).c (xs.getD (k - 1) tmZ).s (xs.getD (k - 1) tmZ).q
    have h3 : -1 ≤ tc (xs.getD k tmZ) (xs.getD (k - 1) tmZ) ∧ tc (xs.getD k tmZ) (xs.getD (k - 1) tmZ) ≤ 1 := h2
    by_cases h4 : tc (xs.getD (k - 1) tmZ) (xs.getD k tmZ) < 0
    · rw [decide_eq_true (Or.inr h4), decide_eq_true (by omega)]
    · rw [decide_eq_false (by omega), decide_eq_false (by omega)]

set_option maxHeartbeats 8000000 in
theorem tagsRise_any (a : Option Addr) (n cap : Nat) (xs : List Tm) (w : World) (hl : xs.length = n) (hn : n ≤ maxLen) (hh : tmF.Is w a xs) :
    Calls Try.prog 38 #[.slice a n cap] w fun e w' => e = .returned (.bool (tagsOkB xs)) ∧ Below w.heap.size w w' := by
  have HB0 : Hid (Below w.heap.size w (w.alloc (.cells #[.int .i64 0, .int .i64 0, .int .i64 0] 46))) := (Below.refl _ _).alloc (Nat.le_refl _) _
  have HC := Lib.hid hh
  have HL := Lib.hid hl
  have hn2 : n ≤ 9223372036854775807 := Nat.le_trans hn (by decide)
  clear hh hl hn
  go_enter Try.func38, Try.ntmps38
  go_wp2_with fail
  have l0 : (w.alloc (.cells #[.int .i64 0, .int .i64 0, .int .i64 0] 46)).cell? ⟨w.heap.size, 0, none⟩ = some (.int .i64 (lastT xs 0).c) := by go_simp; rfl
  have l1 : (w.alloc (.cells #[.int .i64 0, .int .i64 0, .int .i64 0] 46)).cell? ⟨w.heap.size, 1, none⟩ = some (.int .i64 (lastT xs 0).s) := by go_simp; rfl
  have l2 : (w.alloc (.cells #[.int .i64 0, .int .i64 0, .int .i64 0] 46)).cell? ⟨w.heap.size, 2, none⟩ = some (.int .i64 (lastT xs 0).q) := by go_simp; rfl
  have hz : w.heap.size < (w.alloc (.cells #[.int .i64 0, .int .i64 0, .int .i64 0] 46)).heap.size := by simp
  have fr : Hid (∀ o, (w.alloc (.cells #[.int .i64 0, .int .i64 0, .int .i64 0] 46)).frozen? ⟨w.heap.size, o, none⟩ = false) := fun o => by go_simp
  generalize w.alloc (.cells #[.int .i64 0, .int .i64 0, .int .i64 0] 46) = V at *
  go_loopw [8] (fun i wr => ∃ k : Nat, k ≤ n ∧ i = .int .i64 k ∧ Hid (∀ j, j < k → tagGood xs j = true) ∧ Hid (Below w.heap.size w wr) ∧ Hid (w.heap.size < wr.heap.size ∧ (∀ o, wr.frozen? ⟨w.heap.size, o, none⟩ = false) ∧ wr.cell? ⟨w.heap.size, 0, none⟩ = some (.int .i64 (lastT xs k).c) ∧ wr.cell? ⟨w.heap.size, 1, none⟩ = some (.int .i64 (lastT xs k).s) ∧ wr.cell? ⟨w.heap.size, 2, none⟩ = some (.int .i64 (lastT xs k).q))) (fun i _ => n - (intOf i).toNat)
  case atStart => exact ⟨0, Nat.zero_le _, rfl, fun j hj => by omega, HB0, hz, fr.out, l0, l1, l2⟩
  case round =>
    clear l0 l1 l2 hz fr HB0
    obtain ⟨k, hk, rfl, HG, HB, HW⟩ := hrel
    obtain ⟨hz, fr, l0, l1, l2⟩ := HW.out
    clear HW
    have FR := Lib.hid fr
    clear fr
    by_cases hk' : k < n
    · have hkk : k < xs.length := by rw [HL.out]; exact hk'
      obtain ⟨b', o, rfl, hzb, hat⟩ := HC.out.at HB.out hkk
      obtain ⟨e0, e1, e2⟩ := tm_at hat
      simp only [show tmF.k = 3 from rfl, show tmF.z = tmZ from rfl] at e0 e1 e2
      have i1 : (0 : Int) ≤ (k : Int) := by omega
      have i2 : (k : Int) < (n : Int) := by omega
      clear hat
      have HD : Hid (tOk (xs.getD k tmZ) = true → tagGood xs k = decide (tcmp (xs.getD k tmZ).c (xs.getD k tmZ).s (xs.getD k tmZ).q (lastT xs k).c (lastT xs k).s (lastT xs k).q = 1)) := good_last
      have HN : Hid (lastT xs (k + 1) = xs.getD k tmZ) := lastT_next xs k
      have HX : Hid (tagOkB (xs.getD k tmZ).c (xs.getD k tmZ).s (xs.getD k tmZ).q = false → tagGood xs k = false) := fun h => by
        unfold tagGood
        rw [show tOk (xs.getD k tmZ) = false from h]
        rfl
      clear hkk HC
      have hkk := Lib.hid (show k < xs.length by rw [HL.out]; exact hk')
      generalize xs.getD k tmZ = T at *
      generalize lastT xs k = L0 at *
      go_wp2_with fail
      have HA : Hid (Below wr.heap.size wr (wr.alloc (.cells #[.int .i64 T.c, .int .i64 T.s, .int .i64 T.q] 46))) := (Below.refl _ _).alloc (Nat.le_refl _) _
      have x0 : (wr.alloc (.cells #[.int .i64 T.c, .int .i64 T.s, .int .i64 T.q] 46)).cell? ⟨wr.heap.size, 0, none⟩ = some (.int .i64 T.c) := by go_simp
      have x1 : (wr.alloc (.cells #[.int .i64 T.c, .int .i64 T.s, .int .i64 T.q] 46)).cell? ⟨wr.heap.size, 1, none⟩ = some (.int .i64 T.s) := by go_simp
      have x2 : (wr.alloc (.cells #[.int .i64 T.c, .int .i64 T.s, .int .i64 T.q] 46)).cell? ⟨wr.heap.size, 2, none⟩ = some (.int .i64 T.q) := by go_simp
      have hzx : wr.heap.size < (wr.alloc (.cells #[.int .i64 T.c, .int .i64 T.s, .int .i64 T.q] 46)).heap.size := by simp
      generalize wr.alloc (.cells #[.int .i64 T.c, .int .i64 T.s, .int .i64 T.q] 46) = V1 at *
      clear e0 e1 e2 hzb
      replace l0 := fl_cells HA.out hz l0
      replace l1 := fl_cells HA.out hz l1
      replace l2 := fl_cells HA.out hz l2
      replace FR := Lib.hid (fun o => (HA.out.frozen (p := ⟨w.heap.size, o, none⟩) hz).trans (FR.out o))
      replace HB := Lib.hid (below_step HB.out HB.out.size HA.out)
      have hz1 : w.heap.size < V1.heap.size := Nat.lt_of_lt_of_le hz HA.out.size
      clear HA
      cases h2 : tagOkB T.c T.s T.q
      · have HF : Hid (tagsOkB xs = false) := tagsOk_false hkk.out (HX.out h2)
        clear HD HX HN
        refine (implTagOk_is _ _ _ false h2 _).mono ?_
        rintro e w1 ⟨rfl, hb⟩
        have HR := Lib.hid (below_step HB.out HB.out.size hb)
        clear hb
        go_wp2
        go_ret
        exact ⟨ret_bool HF.out.symm, HR.out⟩
      · refine (implTagOk_is _ _ _ true h2 _).mono ?_
        rintro e w1 ⟨rfl, hb⟩
        replace l0 := fl_cells hb hz1 l0
        replace l1 := fl_cells hb hz1 l1
        replace l2 := fl_cells hb hz1 l2
        replace x0 := fl_cells hb hzx x0
        replace x1 := fl_cells hb hzx x1
        replace x2 := fl_cells hb hzx x2
        replace FR := Lib.hid (fun o => (hb.frozen (p := ⟨w.heap.size, o, none⟩) hz1).trans (FR.out o))
        replace HB := Lib.hid (below_step HB.out HB.out.size hb)
        replace hz1 := Nat.lt_of_lt_of_le hz1 hb.size
        replace hzx := Nat.lt_of_lt_of_le hzx hb.size
        clear hb
        have HT : Hid (tagGood xs k = decide (tcmp T.c T.s T.q L0.c L0.s L0.q = 1)) := HD.out h2
        clear HD HX h2
        go_wp2_with fail
        rcases sgn3 (tcmp_bd T.c T.s T.q L0.c L0.s L0.q) with hx | hx | hx
        · have HF : Hid (tagsOkB xs = false) := tagsOk_false hkk.out (by rw [HT.out, hx]; rfl)
          refine (itcmp_is _ _ _ _ _ _ _ hx _).mono ?_
          rintro e w2 ⟨rfl, hb⟩
          have HR := Lib.hid (below_step HB.out HB.out.size hb)
          clear hb hx HT
          go_wp2
          go_ret
          exact ⟨ret_bool HF.out.symm, HR.out⟩
        · have HF : Hid (tagsOkB xs = false) := tagsOk_false hkk.out (by rw [HT.out, hx]; rfl)
          refine (itcmp_is _ _ _ _ _ _ _ hx _).mono ?_
          rintro e w2 ⟨rfl, hb⟩
          have HR := Lib.hid (below_step HB.out HB.out.size hb)
          clear hb hx HT
          go_wp2
          go_ret
          exact ⟨ret_bool HF.out.symm, HR.out⟩
        · have HG' : Hid (∀ j, j < k + 1 → tagGood xs j = true) := fun j hj => by
            by_cases h : j < k
            · exact HG.out j h
            · have : j = k := by omega
              rw [this, HT.out, hx]
              rfl
          refine (itcmp_is _ _ _ _ _ _ _ hx _).mono ?_
          rintro e w2 ⟨rfl, hb⟩
          replace l0 := fl_cells hb hz1 l0
          replace l1 := fl_cells hb hz1 l1
          replace l2 := fl_cells hb hz1 l2
          replace x0 := fl_cells hb hzx x0
          replace x1 := fl_cells hb hzx x1
          replace x2 := fl_cells hb hzx x2
          replace FR := Lib.hid (fun o => (hb.frozen (p := ⟨w.heap.size, o, none⟩) hz1).trans (FR.out o))
          replace HB := Lib.hid (below_step HB.out HB.out.size hb)
          replace hz1 := Nat.lt_of_lt_of_le hz1 hb.size
          clear hb hx HT HG
          have frx := FR.out
          go_wp2
          refine ⟨⟨k + 1, by omega, by go_num, HG', ?_, ?_⟩, by simp [intOf]; omega⟩
          · exact (((HB.out.setCell (p := ⟨w.heap.size, 0, none⟩) (Nat.le_refl _) _).setCell (p := ⟨w.heap.size, 1, none⟩) (Nat.le_refl _) _).setCell (p := ⟨w.heap.size, 2, none⟩) (Nat.le_refl _) _)
          · refine ⟨by simpa using hz1, fun o => by simp [frx], ?_, ?_, ?_⟩ <;> rw [HN.out] <;> go_simp
    · have HF : Hid (tagsOkB xs = true) := tagsOk_all _ fun j hj => HG.out j (by have := HL.out; omega)
      go_wp2
      go_ret
      exact ⟨ret_bool HF.out.symm, HB.out⟩

end Go.Proofs.Ytkcbknjmpfgimaa

namespace Go.Proofs.Ytkcbknjmpfgimaa
open Go.ChangeShapes Go.WideShapes Go.ChangeAt Go.RowKit Go.Joins
attribute [local go_sem ↓] Go.wp_at_zero Go.wp_at_succ
set_option maxRecDepth 100000

theorem setOk_elem {us : List Mk} {ds : List Tm} {k : Nat} (hk : k < us.length) (h : btw (us.getD k mkZ).e 0 1000 = false) : setOkB us ds = false := by
  cases e : setOkB us ds
  · rfl
  · have h1 := ((setOk_iff us ds).1 e).1.1 us[k] (List.getElem_mem hk)
    have e1 : us.getD k mkZ = us[k] := by
      rw [List.getD_eq_getElem?_getD, List.getElem?_eq_getElem hk]
      rfl
    rw [e1, h1] at h
    cases h

theorem setOk_rest {us : List Mk} {ds : List Tm} (h : ∀ k, k < us.length → btw (us.getD k mkZ).e 0 1000 = true) : setOkB us ds = (tagsOkB (us.map mkT) && tagsOkB ds) := by
  unfold setOkB
  rw [List.all_eq_true.2 fun m hm => ?_, Bool.true_and]
  obtain ⟨k, hk, rfl⟩ := List.mem_iff_getElem.1 hm
  have h1 := h k hk
  rw [List.getD_eq_getElem?_getD, List.getElem?_eq_getElem hk] at h1
  exact h1

theorem take_mapT (us : List Mk) {k : Nat} (hk : k < us.length) : (us.map mkT).take (k + 1) = (us.map mkT).take k ++ [mkT (us.getD k mkZ)] := by
  rw [List.take_add_one, List.getElem?_map, List.getElem?_eq_getElem hk, List.getD_eq_getElem?_getD, List.getElem?_eq_getElem hk]
  rfl

set_option maxHeartbeats 8000000 in
theorem implSetOk_any (a : Option Addr) (n cap : Nat) (b : Option Addr) (m cb : Nat) (us : List Mk) (ds : List Tm) (w : World) (hl : us.length = n) (hn : n ≤ 4194304) (hl' : ds.length = m) (hm : m ≤ maxLen) (hh : IsSt w a b us ds) :
    Calls Try.prog 12 #[setV a n cap b m cb] w fun e w' => e = .returned (.bool (setOkB us ds)) ∧ Below w.heap.size w w' := by
  have HB0 : Hid (Below w.heap.size w (w.alloc (.cells #[.slice a n cap, .slice b m cb] 31))) := (Below.refl _ _).alloc (Nat.le_refl _) _
  have HC := Lib.hid hh
  have HL := Lib.hid hl
  have HL' := Lib.hid hl'
  clear hh hl hl'
  go_enter Try.func12, Try.ntmps12
  go_wp2_with fail
  have c0 : (w.alloc (.cells #[.slice a n cap, .slice b m cb] 31)).cell? ⟨w.heap.size, 0, none⟩ = some (.slice a n cap) := by go_simp
  have c1 : (w.alloc (.cells #[.slice a n cap, .slice b m cb] 31)).cell? ⟨w.heap.size, 1, none⟩ = some (.slice b m cb) := by go_simp
  have hz : w.heap.size < (w.alloc (.cells #[.slice a n cap, .slice b m cb] 31)).heap.size := by simp
  have hzb : w.heap.size + 1 ≤ (w.alloc (.cells #[.slice a n cap, .slice b m cb] 31)).heap.size := by simp
  generalize w.alloc (.cells #[.slice a n cap, .slice b m cb] 31) = V at *
  go_loopw [3, 9] (fun t i wr => ∃ (k : Nat) (v : Value), k ≤ n ∧ i = .int .i64 k ∧ t = v ∧ Hid (∀ j, j < k → btw (us.getD j mkZ).e 0 1000 = true) ∧ Hid (Below V.heap.size V wr) ∧ Hid (tmF.Row wr V.heap.size v ((us.map mkT).take k))) (fun _ i _ => n - (intOf i).toNat)
  case atStart => exact ⟨0, _, Nat.zero_le _, rfl, rfl, fun j hj => by omega, Below.refl _ _, Flat.row_nil _ _⟩
  case round =>
    obtain ⟨k, v, hk, rfl, rfl, HG, HB, HR⟩ := hrel
    have d0 := fl_cells HB.out hz c0
    have d1 := fl_cells HB.out hz c1
    have hzr := Nat.lt_of_lt_of_le hz HB.out.size
    by_cases hk' : k < n
    · have hkk : k < us.length := by rw [HL.out]; exact hk'
      obtain ⟨b', o, rfl, hzb', hat⟩ := HC.out.1.at (below_step HB0.out HB0.out.size HB.out) hkk
      obtain ⟨e0, e1, e2, e3⟩ := mk_at hat
      simp only [show mkF.k = 4 from rfl, show mkF.z = mkZ from rfl] at e0 e1 e2 e3
      have i1 : (0 : Int) ≤ (k : Int) := by omega
      have i2 : (k : Int) < (n : Int) := by omega
      have HTK : Hid ((us.map mkT).take (k + 1) = (us.map mkT).take k ++ [mkT (us.getD k mkZ)]) := take_mapT us hkk
      have HTL : Hid (((us.map mkT).take k).length = k) := by
        refine Lib.hid ?_
        rw [List.length_take, List.length_map]
        omega
      have HEF : Hid (btw (us.getD k mkZ).e 0 1000 = false → setOkB us ds = false) := fun h => setOk_elem hkk h
      have HET : Hid (btw (us.getD k mkZ).e 0 1000 = true → ∀ j, j < k + 1 → btw (us.getD j mkZ).e 0 1000 = true) := fun h j hj => by
        by_cases h1 : j < k
        · exact HG.out j h1
        · have : j = k := by omega
          rw [this]
          exact h
      clear hat c0 c1
      obtain ⟨T, hT⟩ : ∃ T, T = mkT (us.getD k mkZ) := ⟨_, rfl⟩
      have g1 : (us.getD k mkZ).c = T.c := by rw [hT]; rfl
      have g2 : (us.getD k mkZ).s = T.s := by rw [hT]; rfl
      have g3 : (us.getD k mkZ).q = T.q := by rw [hT]; rfl
      rw [← hT] at HTK
      rw [g1] at e1
      rw [g2] at e2
      rw [g3] at e3
      clear hT g1 g2 g3 HG
      generalize (us.getD k mkZ).e = ye at *
      go_wp2_with fail
      have A1 : Hid (Below wr.heap.size wr (wr.alloc (.cells #[.int .i64 ye, .int .i64 T.c, .int .i64 T.s, .int .i64 T.q] 56))) := (Below.refl _ _).alloc (Nat.le_refl _) _
      have x1 : (wr.alloc (.cells #[.int .i64 ye, .int .i64 T.c, .int .i64 T.s, .int .i64 T.q] 56)).cell? ⟨wr.heap.size, 1, none⟩ = some (.int .i64 T.c) := by go_simp
      have x2 : (wr.alloc (.cells #[.int .i64 ye, .int .i64 T.c, .int .i64 T.s, .int .i64 T.q] 56)).cell? ⟨wr.heap.size, 2, none⟩ = some (.int .i64 T.s) := by go_simp
      have x3 : (wr.alloc (.cells #[.int .i64 ye, .int .i64 T.c, .int .i64 T.s, .int .i64 T.q] 56)).cell? ⟨wr.heap.size, 3, none⟩ = some (.int .i64 T.q) := by go_simp
      have hzx : wr.heap.size < (wr.alloc (.cells #[.int .i64 ye, .int .i64 T.c, .int .i64 T.s, .int .i64 T.q] 56)).heap.size := by simp
      generalize wr.alloc (.cells #[.int .i64 ye, .int .i64 T.c, .int .i64 T.s, .int .i64 T.q] 56) = W1 at *
      replace HR := Lib.hid (HR.out.below A1.out)
      have HB1 := Lib.hid (below_step HB.out HB.out.size A1.out)
      clear A1 HB d0 d1 e0 e1 e2 e3 hzb' hzr
      cases h1 : btw ye 0 1000
      · have HF := Lib.hid (HEF.out h1)
        clear HEF HET
        refine (elemOk_is _ false h1 _).mono ?_
        rintro e w1 ⟨rfl, rfl⟩
        go_wp2
        go_ret
        exact ⟨ret_bool HF.out.symm, HB0.out.trans (HB1.out.mono HB0.out.size)⟩
      · have HG' := Lib.hid (HET.out h1)
        clear HEF HET
        refine (elemOk_is _ true h1 _).mono ?_
        rintro e W2 ⟨rfl, rfl⟩
        go_wp2_with (at_builtin; refine Hid.out ?_)
        refine Lib.hid ?_
        have A2 : Hid (Below W2.heap.size W2 (W2.alloc (.cells #[.int .i64 T.c, .int .i64 T.s, .int .i64 T.q] 46))) := (Below.refl _ _).alloc (Nat.le_refl _) _
        have R2 := Lib.hid (HR.out.below A2.out)
        have O2 : Hid (tmF.Is (W2.alloc (.cells #[.int .i64 T.c, .int .i64 T.s, .int .i64 T.q] 46)) (some ⟨W2.heap.size, 0, none⟩) [T]) := Flat.one_new (F := tmF) W2 T 46
        have H2 := Lib.hid (below_step HB1.out HB1.out.size A2.out)
        clear A2 HR HB1
        go_wp2_with (at_builtin; refine Flat.wp_app (F := tmF) rfl _ _ rfl V.heap.size _ ((us.map mkT).take k) rfl R2.out _ _ _ [T] rfl rfl O2.out (by rw [HTL.out]; simp; omega) H2.out.size ?_; intro v3 w3 g3; refine Hid.out ?_)
        refine Lib.hid ?_
        have HB3 : Hid (Below V.heap.size V w3) := g3.after H2.out R2.out (Nat.le_refl _) H2.out.size
        have HR3 : Hid (tmF.Row w3 V.heap.size v3 ((us.map mkT).take (k + 1))) := by
          refine Lib.hid ?_
          rw [HTK.out]
          exact g3.row
        clear g3 R2 O2 H2
        go_wp2
        exact ⟨⟨k + 1, v3, by omega, by go_num, rfl, HG', HB3, HR3⟩, by simp [intOf]; omega⟩
    · obtain rfl : k = n := by omega
      have HM : Hid (setOkB us ds = (tagsOkB (us.map mkT) && tagsOkB ds)) := setOk_rest fun j hj => HG.out j (by have := HL.out; omega)
      have HR2 := HR
      have HTE : Hid ((us.map mkT).take k = us.map mkT) := by
        refine Lib.hid ?_
        rw [List.take_of_length_le (by rw [List.length_map, HL.out]; exact Nat.le_refl _)]
      rw [HTE.out] at HR2
      obtain ⟨a4, cp4, hv4, hc4, ho4⟩ := HR2.out.facts
      subst hv4
      have HO4 := Lib.hid ho4.is
      have HML : Hid ((us.map mkT).length = k) := by
        refine Lib.hid ?_
        rw [List.length_map, HL.out]
      clear ho4 HR HR2 HG HTE hc4
      have HI2 := Lib.hid (HC.out.below (below_step HB0.out HB0.out.size HB.out)).2
      generalize us.map mkT = ts at *
      go_wp2_with fail
      refine (tagsRise_any a4 _ cp4 ts _ rfl (by rw [HML.out]; unfold maxLen; omega) HO4.out).mono ?_
      rintro e w1 ⟨rfl, hb⟩
      have d0' := fl_cells hb hzr d0
      have d1' := fl_cells hb hzr d1
      have HI3 := Lib.hid (HI2.out.below hb)
      have HB1 := Lib.hid (below_step HB.out HB.out.size hb)
      clear hb c0 c1 d0 d1 HI2 HO4
      cases h1 : tagsOkB ts
      · have HF : Hid (setOkB us ds = false) := by
          refine Lib.hid ?_
          rw [HM.out, h1]
          rfl
        clear HM h1
        go_wp2
        go_ret
        exact ⟨ret_bool HF.out.symm, HB0.out.trans (HB1.out.mono HB0.out.size)⟩
      · have HF : Hid (setOkB us ds = tagsOkB ds) := by
          refine Lib.hid ?_
          rw [HM.out, h1, Bool.true_and]
        clear HM h1
        go_wp2_with fail
        refine (tagsRise_any b m cb ds _ HL'.out hm HI3.out).mono ?_
        rintro e w2 ⟨rfl, hb⟩
        have HB2 := Lib.hid (below_step HB1.out HB1.out.size hb)
        clear hb
        go_wp2
        go_ret
        exact ⟨ret_bool HF.out.symm, HB0.out.trans (HB2.out.mono HB0.out.size)⟩

end Go.Proofs.Ytkcbknjmpfgimaa
