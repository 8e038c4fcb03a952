import Derived.Test.YtkcbknjmpfgimaaPack4
import Derived.Shelf.SlMaps.Clone
namespace Go.Proofs.Ytkcbknjmpfgimaa
open Go.ChangeShapes Go.WideShapes Go.ChangeAt Go.RowKit Go.Joins
attribute [local go_sem ↓] Go.wp_at_zero Go.wp_at_succ
set_option maxRecDepth 100000

theorem itcmp_is (c s q c' s' q' x : Int) (h : tcmp c s q c' s' q' = x) (w : World) :
    Calls Try.prog 64 #[tagV c s q, tagV c' s' q'] w fun e w' => e = .returned (.int .i64 x) ∧ Below w.heap.size w w' := by
  rw [← h]
  exact implTagCmp_any c s q c' s' q' w

theorem elemOk_is (n : Int) (v : Bool) (h : btw n 0 1000 = v) (w : World) :
    Calls Try.prog 37 #[.int .i64 n] w fun e w' => e = .returned (.bool v) ∧ w' = w := by
  subst h
  go_enter Try.func37, Try.ntmps37
  go_wp2_with (go_at_call 63; refine (inRange_any _ _ _ _).mono ?_; rintro e w' ⟨rfl, rfl⟩)
  exact bodyPost_ret (v := .bool (btw n 0 1000)) (by simp [results, Try.results37, go_sem, *]) rfl ⟨rfl, rfl⟩

def lastT (xs : List Tm) (k : Nat) : Tm := if k = 0 then tmZ else xs.getD (k - 1) tmZ

theorem lastT_next (xs : List Tm) (k : Nat) : lastT xs (k + 1) = xs.getD k tmZ := by
  unfold lastT
  rw [if_neg (by omega)]
  rfl

theorem tagOk_pos {x : Tm} (h : tOk x = true) : 1 ≤ x.c := by
  unfold tOk tagOkB at h
  rw [Bool.and_eq_true] at h
  have h1 := h.1
  unfold btw at h1
  simp only [decide_eq_true_eq] at h1
  omega

theorem good_last {xs : List Tm} {k : Nat} (h : tOk (xs.getD k tmZ) = true) : tagGood xs k = decide (tc (xs.getD k tmZ) (lastT xs k) = 1) := by
  unfold tagGood lastT
  rw [h, Bool.true_and]
  by_cases h0 : k = 0
  · rw [if_pos h0, decide_eq_true (Or.inl h0)]
    have h1 := tagOk_pos h
    have : tc (xs.getD k tmZ) tmZ = 1 := by
      unfold tc tcmp
      rw [if_pos (by show (xs.getD k tmZ).c ≠ 0; omega)]
      unfold sgn
      rw [if_neg (by show ¬ (xs.getD k tmZ).c < 0; omega), if_pos (by show 0 < (xs.getD k tmZ).c; omega)]
    rw [this]
    rfl
  · rw [if_neg h0]
    have h1 := tc_neg (xs.getD (k - 1) tmZ) (xs.getD k tmZ)
    have h2 := tcmp_bd (xs.getD k tmZ).c (xs.getD k tmZ).s (xs.getD k tmZ).q (xs.getD (k - 1) tmZ).c (xs.getD (k - 1) tmZ).s (xs.getD (k - 1) tmZ).q
    have h3 : -1 ≤ tc (xs.getD k tmZ) (xs.getD (k - 1) tmZ) ∧ tc (xs.getD k tmZ) (xs.getD (k - 1) tmZ) ≤ 1 := h2
    by_cases h4 : tc (xs.getD (k - 1) tmZ) (xs.getD k tmZ) < 0
    · rw [decide_eq_true (Or.inr h4), decide_eq_true (by omega)]
    · rw [decide_eq_false (by omega), decide_eq_false (by omega)]

set_option maxHeartbeats 8000000 in
theorem tagsRise_any (a : Option Addr) (n cap : Nat) (xs : List Tm) (w : World) (hl : xs.length = n) (hn : n ≤ maxLen) (hh : tmF.Is w a xs) :
    Calls Try.prog 38 #[.slice a n cap] w fun e w' => e = .returned (.bool (tagsOkB xs)) ∧ Below w.heap.size w w' := by
  have HB0 : Hid (Below w.heap.size w (w.alloc (.cells #[.int .i64 0, .int .i64 0, .int .i64 0] 46))) := (Below.refl _ _).alloc (Nat.le_refl _) _
  have HC := Lib.hid hh
  have HL := Lib.hid hl
  have hn2 : n ≤ 9223372036854775807 := Nat.le_trans hn (by decide)
  clear hh hl hn
  go_enter Try.func38, Try.ntmps38
  go_wp2_with fail
  have l0 : (w.alloc (.cells #[.int .i64 0, .int .i64 0, .int .i64 0] 46)).cell? ⟨w.heap.size, 0, none⟩ = some (.int .i64 (lastT xs 0).c) := by go_simp; rfl
  have l1 : (w.alloc (.cells #[.int .i64 0, .int .i64 0, .int .i64 0] 46)).cell? ⟨w.heap.size, 1, none⟩ = some (.int .i64 (lastT xs 0).s) := by go_simp; rfl
  have l2 : (w.alloc (.cells #[.int .i64 0, .int .i64 0, .int .i64 0] 46)).cell? ⟨w.heap.size, 2, none⟩ = some (.int .i64 (lastT xs 0).q) := by go_simp; rfl
  have hz : w.heap.size < (w.alloc (.cells #[.int .i64 0, .int .i64 0, .int .i64 0] 46)).heap.size := by simp
  have fr : Hid (∀ o, (w.alloc (.cells #[.int .i64 0, .int .i64 0, .int .i64 0] 46)).frozen? ⟨w.heap.size, o, none⟩ = false) := fun o => by go_simp
  generalize w.alloc (.cells #[.int .i64 0, .int .i64 0, .int .i64 0] 46) = V at *
  go_loopw [8] (fun i wr => ∃ k : Nat, k ≤ n ∧ i = .int .i64 k ∧ Hid (∀ j, j < k → tagGood xs j = true) ∧ Hid (Below w.heap.size w wr) ∧ Hid (w.heap.size < wr.heap.size ∧ (∀ o, wr.frozen? ⟨w.heap.size, o, none⟩ = false) ∧ wr.cell? ⟨w.heap.size, 0, none⟩ = some (.int .i64 (lastT xs k).c) ∧ wr.cell? ⟨w.heap.size, 1, none⟩ = some (.int .i64 (lastT xs k).s) ∧ wr.cell? ⟨w.heap.size, 2, none⟩ = some (.int .i64 (lastT xs k).q))) (fun i _ => n - (intOf i).toNat)
  case atStart => exact ⟨0, Nat.zero_le _, rfl, fun j hj => by omega, HB0, hz, fr.out, l0, l1, l2⟩
  case round =>
    clear l0 l1 l2 hz fr HB0
    obtain ⟨k, hk, rfl, HG, HB, HW⟩ := hrel
    obtain ⟨hz, fr, l0, l1, l2⟩ := HW.out
    clear HW
    have FR := Lib.hid fr
    clear fr
    by_cases hk' : k < n
    · have hkk : k < xs.length := by rw [HL.out]; exact hk'
      obtain ⟨b', o, rfl, hzb, hat⟩ := HC.out.at HB.out hkk
      obtain ⟨e0, e1, e2⟩ := tm_at hat
      simp only [show tmF.k = 3 from rfl, show tmF.z = tmZ from rfl] at e0 e1 e2
      have i1 : (0 : Int) ≤ (k : Int) := by omega
      have i2 : (k : Int) < (n : Int) := by omega
      clear hat
      have HD : Hid (tOk (xs.getD k tmZ) = true → tagGood xs k = decide (tcmp (xs.getD k tmZ).c (xs.getD k tmZ).s (xs.getD k tmZ).q (lastT xs k).c (lastT xs k).s (lastT xs k).q = 1)) := good_last
      have HN : Hid (lastT xs (k + 1) = xs.getD k tmZ) := lastT_next xs k
      have HX : Hid (tagOkB (xs.getD k tmZ).c (xs.getD k tmZ).s (xs.getD k tmZ).q = false → tagGood xs k = false) := fun h => by
        unfold tagGood
        rw [show tOk (xs.getD k tmZ) = false from h]
        rfl
      clear hkk HC
      have hkk := Lib.hid (show k < xs.length by rw [HL.out]; exact hk')
      generalize xs.getD k tmZ = T at *
      generalize lastT xs k = L0 at *
      go_wp2_with fail
      have HA : Hid (Below wr.heap.size wr (wr.alloc (.cells #[.int .i64 T.c, .int .i64 T.s, .int .i64 T.q] 46))) := (Below.refl _ _).alloc (Nat.le_refl _) _
      have x0 : (wr.alloc (.cells #[.int .i64 T.c, .int .i64 T.s, .int .i64 T.q] 46)).cell? ⟨wr.heap.size, 0, none⟩ = some (.int .i64 T.c) := by go_simp
      have x1 : (wr.alloc (.cells #[.int .i64 T.c, .int .i64 T.s, .int .i64 T.q] 46)).cell? ⟨wr.heap.size, 1, none⟩ = some (.int .i64 T.s) := by go_simp
      have x2 : (wr.alloc (.cells #[.int .i64 T.c, .int .i64 T.s, .int .i64 T.q] 46)).cell? ⟨wr.heap.size, 2, none⟩ = some (.int .i64 T.q) := by go_simp
      have hzx : wr.heap.size < (wr.alloc (.cells #[.int .i64 T.c, .int .i64 T.s, .int .i64 T.q] 46)).heap.size := by simp
      generalize wr.alloc (.cells #[.int .i64 T.c, .int .i64 T.s, .int .i64 T.q] 46) = V1 at *
      clear e0 e1 e2 hzb
      replace l0 := fl_cells HA.out hz l0
      replace l1 := fl_cells HA.out hz l1
      replace l2 := fl_cells HA.out hz l2
      replace FR := Lib.hid (fun o => (HA.out.frozen (p := ⟨w.heap.size, o, none⟩) hz).trans (FR.out o))
      replace HB := Lib.hid (below_step HB.out HB.out.size HA.out)
      have hz1 : w.heap.size < V1.heap.size := Nat.lt_of_lt_of_le hz HA.out.size
      clear HA
      cases h2 : tagOkB T.c T.s T.q
      · have HF : Hid (tagsOkB xs = false) := tagsOk_false hkk.out (HX.out h2)
        clear HD HX HN
        refine (implTagOk_is _ _ _ false h2 _).mono ?_
        rintro e w1 ⟨rfl, hb⟩
        have HR := Lib.hid (below_step HB.out HB.out.size hb)
        clear hb
        go_wp2
        go_ret
        exact ⟨ret_bool HF.out.symm, HR.out⟩
      · refine (implTagOk_is _ _ _ true h2 _).mono ?_
        rintro e w1 ⟨rfl, hb⟩
        replace l0 := fl_cells hb hz1 l0
        replace l1 := fl_cells hb hz1 l1
        replace l2 := fl_cells hb hz1 l2
        replace x0 := fl_cells hb hzx x0
        replace x1 := fl_cells hb hzx x1
        replace x2 := fl_cells hb hzx x2
        replace FR := Lib.hid (fun o => (hb.frozen (p := ⟨w.heap.size, o, none⟩) hz1).trans (FR.out o))
        replace HB := Lib.hid (below_step HB.out HB.out.size hb)
        replace hz1 := Nat.lt_of_lt_of_le hz1 hb.size
        replace hzx := Nat.lt_of_lt_of_le hzx hb.size
        clear hb
        have HT : Hid (tagGood xs k = decide (tcmp T.c T.s T.q L0.c L0.s L0.q = 1)) := HD.out h2
        clear HD HX h2
        go_wp2_with fail
        rcases sgn3 (tcmp_bd T.c T.s T.q L0.c L0.s L0.q) with hx | hx | hx
        · have HF : Hid (tagsOkB xs = false) := tagsOk_false hkk.out (by rw [HT.out, hx]; rfl)
          refine (itcmp_is _ _ _ _ _ _ _ hx _).mono ?_
          rintro e w2 ⟨rfl, hb⟩
          have HR := Lib.hid (below_step HB.out HB.out.size hb)
          clear hb hx HT
          go_wp2
          go_ret
          exact ⟨ret_bool HF.out.symm, HR.out⟩
        · have HF : Hid (tagsOkB xs = false) := tagsOk_false hkk.out (by rw [HT.out, hx]; rfl)
          refine (itcmp_is _ _ _ _ _ _ _ hx _).mono ?_
          rintro e w2 ⟨rfl, hb⟩
          have HR := Lib.hid (below_step HB.out HB.out.size hb)
          clear hb hx HT
          go_wp2
          go_ret
          exact ⟨ret_bool HF.out.symm, HR.out⟩
        · have HG' : Hid (∀ j, j < k + 1 → tagGood xs j = true) := fun j hj => by
            by_cases h : j < k
            · exact HG.out j h
            · have : j = k := by omega
              rw [this, HT.out, hx]
              rfl
          refine (itcmp_is _ _ _ _ _ _ _ hx _).mono ?_
          rintro e w2 ⟨rfl, hb⟩
          replace l0 := fl_cells hb hz1 l0
          replace l1 := fl_cells hb hz1 l1
          replace l2 := fl_cells hb hz1 l2
          replace x0 := fl_cells hb hzx x0
          replace x1 := fl_cells hb hzx x1
          replace x2 := fl_cells hb hzx x2
          replace FR := Lib.hid (fun o => (hb.frozen (p := ⟨w.heap.size, o, none⟩) hz1).trans (FR.out o))
          replace HB := Lib.hid (below_step HB.out HB.out.size hb)
          replace hz1 := Nat.lt_of_lt_of_le hz1 hb.size
          clear hb hx HT HG
          have frx := FR.out
          go_wp2
          refine ⟨⟨k + 1, by omega, by go_num, HG', ?_, ?_⟩, by simp [intOf]; omega⟩
          · exact (((HB.out.setCell (p := ⟨w.heap.size, 0, none⟩) (Nat.le_refl _) _).setCell (p := ⟨w.heap.size, 1, none⟩) (Nat.le_refl _) _).setCell (p := ⟨w.heap.size, 2, none⟩) (Nat.le_refl _) _)
          · refine ⟨by simpa using hz1, fun o => by simp [frx], ?_, ?_, ?_⟩ <;> rw [HN.out] <;> go_simp
    · have HF : Hid (tagsOkB xs = true) := tagsOk_all _ fun j hj => HG.out j (by have := HL.out; omega)
      go_wp2
      go_ret
      exact ⟨ret_bool HF.out.symm, HB.out⟩

end Go.Proofs.Ytkcbknjmpfgimaa

namespace Go.Proofs.Ytkcbknjmpfgimaa
open Go.ChangeShapes Go.WideShapes Go.ChangeAt Go.RowKit Go.Joins
attribute [local go_sem ↓] Go.wp_at_zero Go.wp_at_succ
set_option maxRecDepth 100000

theorem setOk_elem {us : List Mk} {ds : List Tm} {k : Nat} (hk : k < us.length) (h : btw (us.getD k mkZ).e 0 1000 = false) : setOkB us ds = false := by
  cases e : setOkB us ds
  · rfl
  · have h1 := ((setOk_iff us ds).1 e).1.1 us[k] (List.getElem_mem hk)
    have e1 : us.getD k mkZ = us[k] := by
      rw [List.getD_eq_getElem?_getD, List.getElem?_eq_getElem hk]
      rfl
    rw [e1, h1] at h
    cases h

theorem setOk_rest {us : List Mk} {ds : List Tm} (h : ∀ k, k < us.length → btw (us.getD k mkZ).e 0 1000 = true) : setOkB us ds = (tagsOkB (us.map mkT) && tagsOkB ds) := by
  unfold setOkB
  rw [List.all_eq_true.2 fun m hm => ?_, Bool.true_and]
  obtain ⟨k, hk, rfl⟩ := List.mem_iff_getElem.1 hm
  have h1 := h k hk
  rw [List.getD_eq_getElem?_getD, List.getElem?_eq_getElem hk] at h1
  exact h1

theorem take_mapT (us : List Mk) {k : Nat} (hk : k < us.length) : (us.map mkT).take (k + 1) = (us.map mkT).take k ++ [mkT (us.getD k mkZ)] := by
  rw [List.take_add_one, List.getElem?_map, List.getElem?_eq_getElem hk, List.getD_eq_getElem?_getD, List.getElem?_eq_getElem hk]
  rfl

set_option maxHeartbeats 8000000 in
theorem implSetOk_any (a : Option Addr) (n cap : Nat) (b : Option Addr) (m cb : Nat) (us : List Mk) (ds : List Tm) (w : World) (hl : us.length = n) (hn : n ≤ 4194304) (hl' : ds.length = m) (hm : m ≤ maxLen) (hh : IsSt w a b us ds) :
    Calls Try.prog 12 #[setV a n cap b m cb] w fun e w' => e = .returned (.bool (setOkB us ds)) ∧ Below w.heap.size w w' := by
  have HB0 : Hid (Below w.heap.size w (w.alloc (.cells #[.slice a n cap, .slice b m cb] 31))) := (Below.refl _ _).alloc (Nat.le_refl _) _
  have HC := Lib.hid hh
  have HL := Lib.hid hl
  have HL' := Lib.hid hl'
  clear hh hl hl'
  go_enter Try.func12, Try.ntmps12
  go_wp2_with fail
  have c0 : (w.alloc (.cells #[.slice a n cap, .slice b m cb] 31)).cell? ⟨w.heap.size, 0, none⟩ = some (.slice a n cap) := by go_simp
  have c1 : (w.alloc (.cells #[.slice a n cap, .slice b m cb] 31)).cell? ⟨w.heap.size, 1, none⟩ = some (.slice b m cb) := by go_simp
  have hz : w.heap.size < (w.alloc (.cells #[.slice a n cap, .slice b m cb] 31)).heap.size := by simp
  have hzb : w.heap.size + 1 ≤ (w.alloc (.cells #[.slice a n cap, .slice b m cb] 31)).heap.size := by simp
  generalize w.alloc (.cells #[.slice a n cap, .slice b m cb] 31) = V at *
  go_loopw [3, 9] (fun t i wr => ∃ (k : Nat) (v : Value), k ≤ n ∧ i = .int .i64 k ∧ t = v ∧ Hid (∀ j, j < k → btw (us.getD j mkZ).e 0 1000 = true) ∧ Hid (Below V.heap.size V wr) ∧ Hid (tmF.Row wr V.heap.size v ((us.map mkT).take k))) (fun _ i _ => n - (intOf i).toNat)
  case atStart => exact ⟨0, _, Nat.zero_le _, rfl, rfl, fun j hj => by omega, Below.refl _ _, Flat.row_nil _ _⟩
  case round =>
    obtain ⟨k, v, hk, rfl, rfl, HG, HB, HR⟩ := hrel
    have d0 := fl_cells HB.out hz c0
    have d1 := fl_cells HB.out hz c1
    have hzr := Nat.lt_of_lt_of_le hz HB.out.size
    by_cases hk' : k < n
    · have hkk : k < us.length := by rw [HL.out]; exact hk'
      obtain ⟨b', o, rfl, hzb', hat⟩ := HC.out.1.at (below_step HB0.out HB0.out.size HB.out) hkk
      obtain ⟨e0, e1, e2, e3⟩ := mk_at hat
      simp only [show mkF.k = 4 from rfl, show mkF.z = mkZ from rfl] at e0 e1 e2 e3
      have i1 : (0 : Int) ≤ (k : Int) := by omega
      have i2 : (k : Int) < (n : Int) := by omega
      have HTK : Hid ((us.map mkT).take (k + 1) = (us.map mkT).take k ++ [mkT (us.getD k mkZ)]) := take_mapT us hkk
      have HTL : Hid (((us.map mkT).take k).length = k) := by
        refine Lib.hid ?_
        rw [List.length_take, List.length_map]
        omega
      have HEF : Hid (btw (us.getD k mkZ).e 0 1000 = false → setOkB us ds = false) := fun h => setOk_elem hkk h
      have HET : Hid (btw (us.getD k mkZ).e 0 1000 = true → ∀ j, j < k + 1 → btw (us.getD j mkZ).e 0 1000 = true) := fun h j hj => by
        by_cases h1 : j < k
        · exact HG.out j h1
        · have : j = k := by omega
          rw [this]
          exact h
      clear hat c0 c1
      obtain ⟨T, hT⟩ : ∃ T, T = mkT (us.getD k mkZ) := ⟨_, rfl⟩
      have g1 : (us.getD k mkZ).c = T.c := by rw [hT]; rfl
      have g2 : (us.getD k mkZ).s = T.s := by rw [hT]; rfl
      have g3 : (us.getD k mkZ).q = T.q := by rw [hT]; rfl
      rw [← hT] at HTK
      rw [g1] at e1
      rw [g2] at e2
      rw [g3] at e3
      clear hT g1 g2 g3 HG
      generalize (us.getD k mkZ).e = ye at *
      go_wp2_with fail
      have A1 : Hid (Below wr.heap.size wr (wr.alloc (.cells #[.int .i64 ye, .int .i64 T.c, .int .i64 T.s, .int .i64 T.q] 56))) := (Below.refl _ _).alloc (Nat.le_refl _) _
      have x1 : (wr.alloc (.cells #[.int .i64 ye, .int .i64 T.c, .int .i64 T.s, .int .i64 T.q] 56)).cell? ⟨wr.heap.size, 1, none⟩ = some (.int .i64 T.c) := by go_simp
      have x2 : (wr.alloc (.cells #[.int .i64 ye, .int .i64 T.c, .int .i64 T.s, .int .i64 T.q] 56)).cell? ⟨wr.heap.size, 2, none⟩ = some (.int .i64 T.s) := by go_simp
      have x3 : (wr.alloc (.cells #[.int .i64 ye, .int .i64 T.c, .int .i64 T.s, .int .i64 T.q] 56)).cell? ⟨wr.heap.size, 3, none⟩ = some (.int .i64 T.q) := by go_simp
      have hzx : wr.heap.size < (wr.alloc (.cells #[.int .i64 ye, .int .i64 T.c, .int .i64 T.s, .int .i64 T.q] 56)).heap.size := by simp
      generalize wr.alloc (.cells #[.int .i64 ye, .int .i64 T.c, .int .i64 T.s, .int .i64 T.q] 56) = W1 at *
      replace HR := Lib.hid (HR.out.below A1.out)
      have HB1 := Lib.hid (below_step HB.out HB.out.size A1.out)
      clear A1 HB d0 d1 e0 e1 e2 e3 hzb' hzr
      cases h1 : btw ye 0 1000
      · have HF := Lib.hid (HEF.out h1)
        clear HEF HET
        refine (elemOk_is _ false h1 _).mono ?_
        rintro e w1 ⟨rfl, rfl⟩
        go_wp2
        go_ret
        exact ⟨ret_bool HF.out.symm, HB0.out.trans (HB1.out.mono HB0.out.size)⟩
      · have HG' := Lib.hid (HET.out h1)
        clear HEF HET
        refine (elemOk_is _ true h1 _).mono ?_
        rintro e W2 ⟨rfl, rfl⟩
        go_wp2_with (at_builtin; refine Hid.out ?_)
        refine Lib.hid ?_
        have A2 : Hid (Below W2.heap.size W2 (W2.alloc (.cells #[.int .i64 T.c, .int .i64 T.s, .int .i64 T.q] 46))) := (Below.refl _ _).alloc (Nat.le_refl _) _
        have R2 := Lib.hid (HR.out.below A2.out)
        have O2 : Hid (tmF.Is (W2.alloc (.cells #[.int .i64 T.c, .int .i64 T.s, .int .i64 T.q] 46)) (some ⟨W2.heap.size, 0, none⟩) [T]) := Flat.one_new (F := tmF) W2 T 46
        have H2 := Lib.hid (below_step HB1.out HB1.out.size A2.out)
        clear A2 HR HB1
        go_wp2_with (at_builtin; refine Flat.wp_app (F := tmF) rfl _ _ rfl V.heap.size _ ((us.map mkT).take k) rfl R2.out _ _ _ [T] rfl rfl O2.out (by rw [HTL.out]; simp; omega) H2.out.size ?_; intro v3 w3 g3; refine Hid.out ?_)
        refine Lib.hid ?_
        have HB3 : Hid (Below V.heap.size V w3) := g3.after H2.out R2.out (Nat.le_refl _) H2.out.size
        have HR3 : Hid (tmF.Row w3 V.heap.size v3 ((us.map mkT).take (k + 1))) := by
          refine Lib.hid ?_
          rw [HTK.out]
          exact g3.row
        clear g3 R2 O2 H2
        go_wp2
        exact ⟨⟨k + 1, v3, by omega, by go_num, rfl, HG', HB3, HR3⟩, by simp [intOf]; omega⟩
    · obtain rfl : k = n := by omega
      have HM : Hid (setOkB us ds = (tagsOkB (us.map mkT) && tagsOkB ds)) := setOk_rest fun j hj => HG.out j (by have := HL.out; omega)
      have HR2 := HR
      have HTE : Hid ((us.map mkT).take k = us.map mkT) := by
        refine Lib.hid ?_
        rw [List.take_of_length_le (by rw [List.length_map, HL.out]; exact Nat.le_refl _)]
      rw [HTE.out] at HR2
      obtain ⟨a4, cp4, hv4, hc4, ho4⟩ := HR2.out.facts
      subst hv4
      have HO4 := Lib.hid ho4.is
      have HML : Hid ((us.map mkT).length = k) := by
        refine Lib.hid ?_
        rw [List.length_map, HL.out]
      clear ho4 HR HR2 HG HTE hc4
      have HI2 := Lib.hid (HC.out.below (below_step HB0.out HB0.out.size HB.out)).2
      generalize us.map mkT = ts at *
      go_wp2_with fail
      refine (tagsRise_any a4 _ cp4 ts _ rfl (by rw [HML.out]; unfold maxLen; omega) HO4.out).mono ?_
      rintro e w1 ⟨rfl, hb⟩
      have d0' := fl_cells hb hzr d0
      have d1' := fl_cells hb hzr d1
      have HI3 := Lib.hid (HI2.out.below hb)
      have HB1 := Lib.hid (below_step HB.out HB.out.size hb)
      clear hb c0 c1 d0 d1 HI2 HO4
      cases h1 : tagsOkB ts
      · have HF : Hid (setOkB us ds = false) := by
          refine Lib.hid ?_
          rw [HM.out, h1]
          rfl
        clear HM h1
        go_wp2
        go_ret
        exact ⟨ret_bool HF.out.symm, HB0.out.trans (HB1.out.mono HB0.out.size)⟩
      · have HF : Hid (setOkB us ds = tagsOkB ds) := by
          refine Lib.hid ?_
          rw [HM.out, h1, Bool.true_and]
        clear HM h1
        go_wp2_with fail
        refine (tagsRise_any b m cb ds _ HL'.out hm HI3.out).mono ?_
        rintro e w2 ⟨rfl, hb⟩
        have HB2 := Lib.hid (below_step HB1.out HB1.out.size hb)
        clear hb
        go_wp2
        go_ret
        exact ⟨ret_bool HF.out.symm, HB0.out.trans (HB2.out.mono HB0.out.size)⟩

end Go.Proofs.Ytkcbknjmpfgimaa

namespace Go.Proofs.Ytkcbknjmpfgimaa
open Go.ChangeShapes Go.WideShapes Go.ChangeAt Go.RowKit Go.Joins Go.Maps
attribute [local go_sem ↓] Go.wp_at_zero Go.wp_at_succ
set_option maxRecDepth 100000

abbrev bagV (m g : Nat) : Value := .agg #[.map (some m), .map (some g)]

def mkO (h : Tm → Option Int) : Tm → Option Value := fun t => (h t).map fun e => .int .i64 e

def MkMap (w : World) (b n : Nat) (h : Tm → Option Int) : Prop := MapT keyT w b n (mkO h)

def gnO (h : Tm → Bool) : Tm → Option Value := fun t => if h t then some (.agg #[]) else none

def GnMap (w : World) (b n : Nat) (h : Tm → Bool) : Prop := MapT keyT w b n (gnO h)

theorem intZero (w : World) : (zeroValue 3).run Try.prog w = .ok (.int .i64 0) w := by kernel_rfl

theorem MkMap.congr {w : World} {b n : Nat} {f g : Tm → Option Int} (h : MkMap w b n f) (e : ∀ t, TmR t → g t = f t) : MkMap w b n g := MapT.congr h fun t ht => by
  show (g t).map _ = (f t).map _
  rw [e t ht]

theorem GnMap.congr {w : World} {b n : Nat} {f g : Tm → Bool} (h : GnMap w b n f) (e : ∀ t, TmR t → g t = f t) : GnMap w b n g := MapT.congr h fun t ht => by
  show (if g t then _ else _) = (if f t then _ else _)
  rw [e t ht]

theorem MapT.other {κ : Type} {kt : TypeId} {K : KeyG κ kt} {w w' : World} {b n : Nat} {row : Option Nat} {f : κ → Option Value} (h : MapT K w b n f) (hg : w.grownBy w' row) (hb : some b ≠ row) : MapT K w' b n f := h.of_block (hg.block b h.lt hb)

def putH (h : Tm → Option Int) (t : Tm) (e : Int) : Tm → Option Int := fun j => if j = t then lesser (h t) (some e) else h j

theorem putH_put (h : Tm → Option Int) (t : Tm) (e v : Int) (hv : lesser (h t) (some e) = some v) : mkO (putH h t e) t = some (.int .i64 v) ∧ ∀ j, j ≠ t → mkO (putH h t e) j = mkO h j := by
  constructor
  · simp [mkO, putH, hv]
  · intro j hj
    simp [mkO, putH, hj]

theorem putH_same {h : Tm → Option Int} {t : Tm} {e e0 : Int} (h0 : h t = some e0) (hle : ¬ e < e0) : ∀ j, putH h t e j = h j := by
  intro j
  unfold putH
  by_cases hj : j = t
  · rw [if_pos hj, hj, h0]
    show some (min e0 e) = some e0
    rw [Int.min_eq_left (by omega)]
  · rw [if_neg hj]

theorem low_grown {w w' : World} {row : Option Nat} {B : Nat} (h : w.grownBy w' row) (hr : ∀ g, row = some g → B ≤ g) (hB : B ≤ w.heap.size) : Below B w w' :=
  ⟨h.os, h.tape, h.output, h.size, fun k hk => h.block k (by omega) fun e => by have := hr k e.symm; omega⟩

theorem grown_low {w w1 w' : World} {row : Option Nat} (h : Below w.heap.size w w1) (h' : w1.grownBy w' row) : w.grownBy w' row :=
  ⟨h'.os.trans h.os, h'.tape.trans h.tape, h'.output.trans h.output, Nat.le_trans h.size h'.size, fun k hk hr => (h'.block k (Nat.lt_of_lt_of_le hk h.size) hr).trans (h.block k hk)⟩

set_option maxHeartbeats 4000000 in
theorem bagMark_any (m g n : Nat) (h : Tm → Option Int) (e : Int) (t : Tm) (w : World) (hm : MkMap w m n h) (hn : n < maxLen) (ht : TmR t) :
    Calls Try.prog 54 #[bagV m g, .int .i64 e, tagV t.c t.s t.q] w fun r w' => r = .returned (.tuple #[]) ∧ MkMap w' m (n + 1) (putH h t e) ∧ w.grownBy w' (some m) := by
  have HB0 : Hid (Below w.heap.size w ((w.alloc (.cells #[.map (some m), .map (some g)] 69)).alloc (.cells #[.int .i64 t.c, .int .i64 t.s, .int .i64 t.q] 46))) := ((Below.refl _ _).alloc (Nat.le_refl _) _).alloc (by simp) _
  have HM : Hid (MapT keyT ((w.alloc (.cells #[.map (some m), .map (some g)] 69)).alloc (.cells #[.int .i64 t.c, .int .i64 t.s, .int .i64 t.q] 46)) m n (mkO h)) := MapT.below hm HB0.out
  have HT := Lib.hid ht
  have HK : Hid (∀ v, lesser (h t) (some e) = some v → mkO (putH h t e) t = some (.int .i64 v) ∧ ∀ j, j ≠ t → mkO (putH h t e) j = mkO h j) := putH_put h t e
  have HS : Hid (∀ e0, h t = some e0 → ¬ e < e0 → ∀ j, putH h t e j = h j) := fun e0 h0 hle => putH_same h0 hle
  obtain ⟨H2, hH2⟩ : ∃ H2, H2 = putH h t e := ⟨_, rfl⟩
  rw [← hH2] at HK HS ⊢
  clear hm ht hH2
  cases h0 : h t with
  | none =>
    have HF : Hid (mkO h t = none) := by
      show (h t).map _ = none
      rw [h0]
      rfl
    have HP := Lib.hid (HK.out e (by rw [h0]; rfl))
    clear HK HS h0
    go_enter Try.func54, Try.ntmps54
    go_wp2_with (at_lookup; refine wpList_lookG (K := keyT) (by rfl) _ _ 66 3 (by rfl) Try.underlying66 (intZero _) HM.out.is t HT.out (by rfl) (by rfl) ?_; simp only [HF.out, lookAns]; refine Hid.out ?_)
    refine Lib.hid ?_
    go_wp2_with (at_mapUpdate; refine wpList_putT (K := keyT) (by rfl) _ _ _ 66 3 (by rfl) Try.underlying66 HM.out hn t HT.out (.int .i64 e) (by rfl) (by rfl) (by rfl) ?_; intro w1 hm1 ht1; refine Hid.out ?_)
    refine Lib.hid ?_
    have HM1 : Hid (MkMap w1 m (n + 1) H2) := hm1 _ HP.out.1 HP.out.2
    have HG1 := Lib.hid (grown_low HB0.out ht1.grown)
    clear hm1 ht1
    go_wp2
    go_end0
    exact ⟨rfl, HM1.out, HG1.out⟩
  | some e0 =>
    have HF : Hid (mkO h t = some (.int .i64 e0)) := by
      show (h t).map _ = _
      rw [h0]
      rfl
    by_cases hlt : e < e0
    · have HP := Lib.hid (HK.out e (by rw [h0]; show some (min e0 e) = some e; rw [Int.min_eq_right (by omega)]))
      clear HK HS h0
      go_enter Try.func54, Try.ntmps54
      go_wp2_with (at_lookup; refine wpList_lookG (K := keyT) (by rfl) _ _ 66 3 (by rfl) Try.underlying66 (intZero _) HM.out.is t HT.out (by rfl) (by rfl) ?_; simp only [HF.out, lookAns]; refine Hid.out ?_)
      refine Lib.hid ?_
      go_wp2_with (at_mapUpdate; refine wpList_putT (K := keyT) (by rfl) _ _ _ 66 3 (by rfl) Try.underlying66 HM.out hn t HT.out (.int .i64 e) (by rfl) (by rfl) (by rfl) ?_; intro w1 hm1 ht1; refine Hid.out ?_)
      refine Lib.hid ?_
      have HM1 : Hid (MkMap w1 m (n + 1) H2) := hm1 _ HP.out.1 HP.out.2
      have HG1 := Lib.hid (grown_low HB0.out ht1.grown)
      clear hm1 ht1
      go_wp2
      go_end0
      exact ⟨rfl, HM1.out, HG1.out⟩
    · have HP := Lib.hid (HS.out e0 h0 hlt)
      clear HK HS h0
      have HM1 : Hid (MkMap ((w.alloc (.cells #[.map (some m), .map (some g)] 69)).alloc (.cells #[.int .i64 t.c, .int .i64 t.s, .int .i64 t.q] 46)) m (n + 1) H2) := MkMap.congr (MapT.mono HM.out (Nat.le_succ n)) fun j _ => HP.out j
      have hd : decide (e < e0) = false := decide_eq_false hlt
      go_enter Try.func54, Try.ntmps54
      go_wp2_with (at_lookup; refine wpList_lookG (K := keyT) (by rfl) _ _ 66 3 (by rfl) Try.underlying66 (intZero _) HM.out.is t HT.out (by rfl) (by rfl) ?_; simp only [HF.out, lookAns]; refine Hid.out ?_)
      refine Lib.hid ?_
      go_wp2
      go_end0
      exact ⟨rfl, HM1.out, low_grow HB0.out⟩
where
  low_grow {w w' : World} {row : Option Nat} (h : Below w.heap.size w w') : w.grownBy w' row := ⟨h.os, h.tape, h.output, h.size, fun k hk _ => h.block k hk⟩

theorem clone_any (b n : Nat) (h : Tm → Option Int) (w : World) (hm : MkMap w b n h) :
    Calls Try.prog 70 #[.map (some b)] w fun r w' => r = .returned (.map (some w.heap.size)) ∧ MkMap w' w.heap.size n h ∧ Below w.heap.size w w' := by
  obtain ⟨D, ⟨es, clock, hb, hF, hs, hD⟩, hR⟩ := hm
  have HB : Hid (Below w.heap.size w (w.alloc (.map es clock))) := (Below.refl _ w).alloc (Nat.le_refl _) _
  have HM : Hid (MkMap (w.alloc (.map es clock)) w.heap.size n h) := ⟨D, ⟨es, clock, (MapKept.heap_alloc w _).1, hF, hs, hD⟩, hR⟩
  have HE := Lib.hid hb
  have hq := fun w => run_eql_map_nil_sl (P := Try.prog) w 66 _ _ (some b) Try.underlying66
  clear hb hF hs hD hR
  go_enter Try.func70, Try.ntmps70
  go_wp2
  rw [run_callFunc_extern Try.func80 (by kernel_rfl) (by kernel_rfl) (by kernel_rfl) (e := Extern.MapsClone.clone) (by kernel_rfl), run_maps_clone_sl w 66 HE.out]
  simp only [Result.andThen]
  rw [Oper.upon_value]
  go_wp2
  rw [run_typeAssert_map_sl _ 66 20 _ _ _ Try.underlying66]
  simp only [Result.andThen]
  rw [Oper.upon_value]
  go_wp2
  go_ret
  exact ⟨rfl, HM.out, HB.out⟩

end Go.Proofs.Ytkcbknjmpfgimaa

namespace Go.Proofs.Ytkcbknjmpfgimaa
open Go.ChangeShapes Go.WideShapes Go.ChangeAt Go.RowKit Go.Joins Go.Maps
attribute [local go_sem ↓] Go.wp_at_zero Go.wp_at_succ
set_option maxRecDepth 100000

theorem eOf_take {us : List Mk} (hr : RiseT (us.map mkT)) {k : Nat} (hk : k < us.length) : ∀ t, eOf (us.take (k + 1)) t = putH (eOf (us.take k)) (mkT (us.getD k mkZ)) (us.getD k mkZ).e t := by
  intro t
  have e1 : us.getD k mkZ = us[k] := by
    rw [List.getD_eq_getElem?_getD, List.getElem?_eq_getElem hk]
    rfl
  have e2 : us.take (k + 1) = us.take k ++ [us[k]] := by
    rw [List.take_add_one, List.getElem?_eq_getElem hk]
    rfl
  have hn : eOf (us.take k) (mkT us[k]) = none := eOf_none.2 fun hm => by
    rw [List.map_take] at hm
    obtain ⟨i, hi, he⟩ := List.mem_iff_getElem.1 hm
    rw [List.length_take, List.length_map] at hi
    rw [List.getElem_take, List.getElem_map] at he
    have h1 := List.pairwise_iff_getElem.1 hr i k (by rw [List.length_map]; omega) (by rw [List.length_map]; omega) (by omega)
    rw [List.getElem_map, List.getElem_map, he, tc_self] at h1
    omega
  rw [e1, e2, eOf_append]
  unfold putH
  by_cases ht : t = mkT us[k]
  · subst ht
    rw [if_pos rfl, hn]
    simp [eOf, lesser]
  · rw [if_neg ht]
    have : ¬ mkT us[k] = t := fun e => ht e.symm
    simp [eOf, this]

theorem mem_takeT {ds : List Tm} {k : Nat} (hk : k < ds.length) (t : Tm) : t ∈ ds.take (k + 1) ↔ (t ∈ ds.take k ∨ t = ds.getD k tmZ) := by
  rw [List.take_add_one, List.getElem?_eq_getElem hk, List.getD_eq_getElem?_getD, List.getElem?_eq_getElem hk, List.mem_append]
  show (_ ∨ t ∈ [ds[k]]) ↔ _ ∨ t = ds[k]
  rw [List.mem_singleton]

structure BagS (w1 : World) (bx bm bg : Nat) (wr : World) : Prop where
  below : Below w1.heap.size w1 wr
  lt : bx < wr.heap.size
  c0 : wr.cell? ⟨bx, 0, none⟩ = some (.map (some bm))
  c1 : wr.cell? ⟨bx, 1, none⟩ = some (.map (some bg))

theorem BagS.grown {w1 wr w' : World} {bx bm bg : Nat} {row : Option Nat} (h : BagS w1 bx bm bg wr) (hg : wr.grownBy w' row) (h1 : row ≠ some bx) (h2 : ∀ g, row = some g → w1.heap.size ≤ g) : BagS w1 bx bm bg w' where
  below := h.below.trans (low_grown hg h2 h.below.size)
  lt := Nat.lt_of_lt_of_le h.lt hg.size
  c0 := (World.cell?_of_block (a := ⟨bx, 0, none⟩) (hg.block bx h.lt (fun e => h1 e.symm))).trans h.c0
  c1 := (World.cell?_of_block (a := ⟨bx, 1, none⟩) (hg.block bx h.lt (fun e => h1 e.symm))).trans h.c1

theorem BagS.next {w1 wr w' : World} {bx bm bg : Nat} (h : BagS w1 bx bm bg wr) (hb : Below wr.heap.size wr w') : BagS w1 bx bm bg w' := h.grown (row := none) ⟨hb.os, hb.tape, hb.output, hb.size, fun k hk _ => hb.block k hk⟩ (by simp) (by simp)

set_option maxHeartbeats 16000000 in
theorem bagOf_no (a : Option Addr) (n cap : Nat) (b : Option Addr) (m cb : Nat) (us : List Mk) (ds : List Tm) (w : World) (hl : us.length = n) (hn : n ≤ 4194304) (hl' : ds.length = m) (hm : m ≤ maxLen) (hh : IsSt w a b us ds) (hok : setOkB us ds = false) :
    Calls Try.prog 42 #[setV a n cap b m cb] w fun e w' => e = .returned (.tuple #[.agg #[.map none, .map none], .bool false]) ∧ Below w.heap.size w w' := by
  have hres : Try.f42.results = #[.cell 2 69, .tmp 3] := by kernel_rfl
  have HB0 : Hid (Below w.heap.size w ((w.alloc (.cells #[.slice a n cap, .slice b m cb] 31)).alloc (.cells #[.map none, .map none] 69))) := ((Below.refl _ _).alloc (Nat.le_refl _) _).alloc (by simp) _
  have HC := Lib.hid (hh.below HB0.out)
  have HL := Lib.hid hl
  have HL' := Lib.hid hl'
  have HOK := Lib.hid hok
  clear hh hl hl' hok
  go_enter Try.func42, Try.ntmps42
  go_wp2_with fail
  have r0 : ((w.alloc (.cells #[.slice a n cap, .slice b m cb] 31)).alloc (.cells #[.map none, .map none] 69)).cell? ⟨w.heap.size + 1, 0, none⟩ = some (.map none) := by go_simp
  have r1 : ((w.alloc (.cells #[.slice a n cap, .slice b m cb] 31)).alloc (.cells #[.map none, .map none] 69)).cell? ⟨w.heap.size + 1, 1, none⟩ = some (.map none) := by go_simp
  have hz : w.heap.size + 1 < ((w.alloc (.cells #[.slice a n cap, .slice b m cb] 31)).alloc (.cells #[.map none, .map none] 69)).heap.size := by simp
  have FR : Hid (∀ o, ((w.alloc (.cells #[.slice a n cap, .slice b m cb] 31)).alloc (.cells #[.map none, .map none] 69)).frozen? ⟨w.heap.size + 1, o, none⟩ = false) := fun o => by go_simp
  generalize (w.alloc (.cells #[.slice a n cap, .slice b m cb] 31)).alloc (.cells #[.map none, .map none] 69) = V at *
  refine (implSetOk_any a n cap b m cb us ds _ HL.out hn HL'.out hm HC.out).mono ?_
  rw [HOK.out]
  rintro e w1 ⟨rfl, hb⟩
  replace r0 := fl_cells hb hz r0
  replace r1 := fl_cells hb hz r1
  replace FR := Lib.hid (fun o => (hb.frozen (p := ⟨w.heap.size + 1, o, none⟩) hz).trans (FR.out o))
  replace HB0 := Lib.hid (below_step HB0.out HB0.out.size hb)
  clear hb
  have frx := FR.out
  go_wp2
  refine bodyPost_ret (v := .tuple #[.agg #[.map none, .map none], .bool false]) (by simp only [results, hres]; go_simp) rfl ⟨rfl, ?_⟩
  exact (HB0.out.setCell (p := ⟨w.heap.size + 1, 0, none⟩) (Nat.le_add_right _ 1) _).setCell (p := ⟨w.heap.size + 1, 1, none⟩) (Nat.le_add_right _ 1) _

set_option maxHeartbeats 16000000 in
theorem bagOf_yes (a : Option Addr) (n cap : Nat) (b : Option Addr) (m cb : Nat) (us : List Mk) (ds : List Tm) (w : World) (hl : us.length = n) (hn : n ≤ 4194304) (hl' : ds.length = m) (hm : m ≤ 4194304) (hh : IsSt w a b us ds) (hok : setOkB us ds = true) :
    Calls Try.prog 42 #[setV a n cap b m cb] w fun e w' => ∃ bm bg, e = .returned (.tuple #[bagV bm bg, .bool true]) ∧ w.heap.size ≤ bm ∧ w.heap.size ≤ bg ∧ bm ≠ bg ∧ MkMap w' bm n (eOf us) ∧ GnMap w' bg m (goneB ds) ∧ Below w.heap.size w w' := by
  have hres : Try.f42.results = #[.cell 2 69, .tmp 3] := by kernel_rfl
  have hmm := @run_makeMap Try.prog
  have HB0 : Hid (Below w.heap.size w ((w.alloc (.cells #[.slice a n cap, .slice b m cb] 31)).alloc (.cells #[.map none, .map none] 69))) := ((Below.refl _ _).alloc (Nat.le_refl _) _).alloc (by simp) _
  have HC := Lib.hid (hh.below HB0.out)
  have HL := Lib.hid hl
  have HL' := Lib.hid hl'
  have HOK := Lib.hid hok
  have HPK := Lib.hid ((setOk_iff us ds).1 hok)
  have HU := Lib.hid ((tagsOk_iff _).1 HPK.out.1.2)
  have HD := Lib.hid ((tagsOk_iff _).1 HPK.out.2)
  have HR1 : Hid (∀ k, k < us.length → TmR (mkT (us.getD k mkZ))) := fun k hk => by
    have e1 : us.getD k mkZ = us[k] := by
      rw [List.getD_eq_getElem?_getD, List.getElem?_eq_getElem hk]
      rfl
    rw [e1]
    exact tagOk_r (HU.out.2 _ (List.mem_map_of_mem (List.getElem_mem hk)))
  have HR2 : Hid (∀ k, k < ds.length → TmR (ds.getD k tmZ)) := fun k hk => by
    have e1 : ds.getD k tmZ = ds[k] := by
      rw [List.getD_eq_getElem?_getD, List.getElem?_eq_getElem hk]
      rfl
    rw [e1]
    exact tagOk_r (HD.out.2 _ (List.getElem_mem hk))
  have HE1 : Hid (∀ k, k < us.length → ∀ t, eOf (us.take (k + 1)) t = putH (eOf (us.take k)) (mkT (us.getD k mkZ)) (us.getD k mkZ).e t) := fun k hk => eOf_take HU.out.1 hk
  clear hh hl hl' hok HPK HU HD
  go_enter Try.func42, Try.ntmps42
  go_wp2_with fail
  have c0 : ((w.alloc (.cells #[.slice a n cap, .slice b m cb] 31)).alloc (.cells #[.map none, .map none] 69)).cell? ⟨w.heap.size, 0, none⟩ = some (.slice a n cap) := by go_simp
  have c1 : ((w.alloc (.cells #[.slice a n cap, .slice b m cb] 31)).alloc (.cells #[.map none, .map none] 69)).cell? ⟨w.heap.size, 1, none⟩ = some (.slice b m cb) := by go_simp
  have r0 : ((w.alloc (.cells #[.slice a n cap, .slice b m cb] 31)).alloc (.cells #[.map none, .map none] 69)).cell? ⟨w.heap.size + 1, 0, none⟩ = some (.map none) := by go_simp
  have r1 : ((w.alloc (.cells #[.slice a n cap, .slice b m cb] 31)).alloc (.cells #[.map none, .map none] 69)).cell? ⟨w.heap.size + 1, 1, none⟩ = some (.map none) := by go_simp
  have hz : w.heap.size + 1 < ((w.alloc (.cells #[.slice a n cap, .slice b m cb] 31)).alloc (.cells #[.map none, .map none] 69)).heap.size := by simp
  have FR : Hid (∀ o, ((w.alloc (.cells #[.slice a n cap, .slice b m cb] 31)).alloc (.cells #[.map none, .map none] 69)).frozen? ⟨w.heap.size + 1, o, none⟩ = false) := fun o => by go_simp
  generalize (w.alloc (.cells #[.slice a n cap, .slice b m cb] 31)).alloc (.cells #[.map none, .map none] 69) = V at *
  have hz0 : w.heap.size < V.heap.size := by omega
  refine (implSetOk_any a n cap b m cb us ds _ HL.out hn HL'.out (Nat.le_trans hm (by unfold maxLen; omega)) HC.out).mono ?_
  rw [HOK.out]
  rintro e w1 ⟨rfl, hb⟩
  replace c0 := fl_cells hb hz0 c0
  replace c1 := fl_cells hb hz0 c1
  replace r0 := fl_cells hb hz r0
  replace r1 := fl_cells hb hz r1
  replace FR := Lib.hid (fun o => (hb.frozen (p := ⟨w.heap.size + 1, o, none⟩) hz).trans (FR.out o))
  replace hz := Nat.lt_of_lt_of_le hz hb.size
  replace hz0 := Nat.lt_of_lt_of_le hz0 hb.size
  have HB1 := Lib.hid (below_step HB0.out HB0.out.size hb)
  have HC1 := Lib.hid (HC.out.below hb)
  clear hb HB0 HC
  have HA : Hid (Below w1.heap.size w1 (((w1.alloc (.map #[] 0)).alloc (.map #[] 0)).alloc (.cells #[.map (some w1.heap.size), .map (some (w1.heap.size + 1))] 69))) := (((Below.refl _ _).alloc (Nat.le_refl _) _).alloc (by simp) _).alloc (by simp; omega) _
  have c0' := fl_cells HA.out hz0 c0
  have c1' := fl_cells HA.out hz0 c1
  have r0' := fl_cells HA.out hz r0
  have r1' := fl_cells HA.out hz r1
  have FR' : Hid (∀ o, (((w1.alloc (.map #[] 0)).alloc (.map #[] 0)).alloc (.cells #[.map (some w1.heap.size), .map (some (w1.heap.size + 1))] 69)).frozen? ⟨w.heap.size + 1, o, none⟩ = false) := fun o => (HA.out.frozen (p := ⟨w.heap.size + 1, o, none⟩) hz).trans (FR.out o)
  have HM : Hid (MkMap (((w1.alloc (.map #[] 0)).alloc (.map #[] 0)).alloc (.cells #[.map (some w1.heap.size), .map (some (w1.heap.size + 1))] 69)) w1.heap.size 0 (eOf (us.take 0))) := MapT.below (MapT.below (MkMap.congr (f := fun _ => none) (mapT_made keyT w1) (fun _ _ => rfl)) ((Below.refl _ _).alloc (Nat.le_refl _) _)) ((Below.refl _ _).alloc (Nat.le_refl _) _)
  have HG : Hid (GnMap (((w1.alloc (.map #[] 0)).alloc (.map #[] 0)).alloc (.cells #[.map (some w1.heap.size), .map (some (w1.heap.size + 1))] 69)) (w1.heap.size + 1) 0 (fun t => decide (t ∈ ds.take 0))) := by
    refine Lib.hid ?_
    have h := mapT_made keyT (w1.alloc (.map #[] 0))
    simp only [World.size_alloc] at h
    exact MapT.below (GnMap.congr (f := fun _ => false) h (fun _ _ => by simp)) ((Below.refl _ _).alloc (Nat.le_refl _) _)
  have HS : Hid (BagS w1 (w1.heap.size + 1 + 1) w1.heap.size (w1.heap.size + 1) (((w1.alloc (.map #[] 0)).alloc (.map #[] 0)).alloc (.cells #[.map (some w1.heap.size), .map (some (w1.heap.size + 1))] 69))) := ⟨HA.out, by simp, by go_simp, by go_simp⟩
  have hbm : w.heap.size ≤ w1.heap.size := by omega
  go_wp2_with fail
  generalize (((w1.alloc (.map #[] 0)).alloc (.map #[] 0)).alloc (.cells #[.map (some w1.heap.size), .map (some (w1.heap.size + 1))] 69)) = V1 at *
  clear hmm HA c0' c1' r0' r1' FR'
  go_loopw [19] (fun i wr => ∃ k : Nat, k ≤ n ∧ i = .int .i64 k ∧ Hid (BagS w1 (w1.heap.size + 1 + 1) w1.heap.size (w1.heap.size + 1) wr) ∧ Hid (MkMap wr w1.heap.size k (eOf (us.take k))) ∧ Hid (GnMap wr (w1.heap.size + 1) 0 (fun t => decide (t ∈ ds.take 0)))) (fun i _ => n - (intOf i).toNat)
  case atStart => exact ⟨0, Nat.zero_le _, rfl, HS, HM, HG⟩
  case round =>
    clear HS HM HG
    obtain ⟨k, hk, rfl, HS, HM, HG⟩ := hrel
    have HB2 := HS.out.below
    by_cases hk' : k < n
    · have hkk : k < us.length := by rw [HL.out]; exact hk'
      obtain ⟨b', o, rfl, hzb, hat⟩ := HC1.out.1.at HB2 hkk
      obtain ⟨e0, e1, e2, e3⟩ := mk_at hat
      simp only [show mkF.k = 4 from rfl, show mkF.z = mkZ from rfl] at e0 e1 e2 e3
      have i1 : (0 : Int) ≤ (k : Int) := by omega
      have i2 : (k : Int) < (n : Int) := by omega
      have HRK := Lib.hid (HR1.out k hkk)
      have HEK := Lib.hid (HE1.out k hkk)
      clear hat HR1 HE1 hkk c0 c1 r0 r1
      obtain ⟨T, hT⟩ : ∃ T, T = mkT (us.getD k mkZ) := ⟨_, rfl⟩
      have g1 : (us.getD k mkZ).c = T.c := by rw [hT]; rfl
      have g2 : (us.getD k mkZ).s = T.s := by rw [hT]; rfl
      have g3 : (us.getD k mkZ).q = T.q := by rw [hT]; rfl
      rw [← hT] at HRK HEK
      rw [g1] at e1
      rw [g2] at e2
      rw [g3] at e3
      clear hT g1 g2 g3
      generalize (us.getD k mkZ).e = ye at *
      have HA : Hid (Below wr.heap.size wr (wr.alloc (.cells #[.int .i64 ye, .int .i64 T.c, .int .i64 T.s, .int .i64 T.q] 56))) := (Below.refl _ _).alloc (Nat.le_refl _) _
      have HS2 := Lib.hid (HS.out.next HA.out)
      have s0 := HS2.out.c0
      have s1 := HS2.out.c1
      have x1 : (wr.alloc (.cells #[.int .i64 ye, .int .i64 T.c, .int .i64 T.s, .int .i64 T.q] 56)).cell? ⟨wr.heap.size, 1, none⟩ = some (.int .i64 T.c) := by go_simp
      go_wp2_with fail
      have HM2 : Hid (MkMap (wr.alloc (.cells #[.int .i64 ye, .int .i64 T.c, .int .i64 T.s, .int .i64 T.q] 56)) w1.heap.size k (eOf (us.take k))) := MapT.below HM.out HA.out
      have HG2 : Hid (GnMap (wr.alloc (.cells #[.int .i64 ye, .int .i64 T.c, .int .i64 T.s, .int .i64 T.q] 56)) (w1.heap.size + 1) 0 (fun t => decide (t ∈ ds.take 0))) := MapT.below HG.out HA.out
      generalize wr.alloc (.cells #[.int .i64 ye, .int .i64 T.c, .int .i64 T.s, .int .i64 T.q] 56) = V2 at *
      refine (bagMark_any w1.heap.size (w1.heap.size + 1) k (eOf (us.take k)) ye T V2 HM2.out (by unfold maxLen; omega) HRK.out).mono ?_
      rintro e w3 ⟨rfl, hm3, hg3⟩
      have HS3 : Hid (BagS w1 (w1.heap.size + 1 + 1) w1.heap.size (w1.heap.size + 1) w3) := HS2.out.grown hg3 (fun e => by injection e; omega) (fun g e => by injection e; omega)
      have HM3 : Hid (MkMap w3 w1.heap.size (k + 1) (eOf (us.take (k + 1)))) := hm3.congr fun t _ => HEK.out t
      have HG3 : Hid (GnMap w3 (w1.heap.size + 1) 0 (fun t => decide (t ∈ ds.take 0))) := MapT.other HG2.out hg3 (fun e => by injection e; omega)
      clear hm3 hg3 s0 s1 x1 HA HS2 HM2 HG2
      go_wp2
      exact ⟨⟨k + 1, by omega, by go_num, HS3, HM3, HG3⟩, by simp [intOf]; omega⟩
    · obtain rfl : k = n := by omega
      have HM' : Hid (MkMap wr w1.heap.size k (eOf us)) := by
        refine Lib.hid ?_
        have h := HM.out
        rw [show us.take k = us from List.take_of_length_le (by rw [HL.out]; exact Nat.le_refl _)] at h
        exact h
      have d0 := fl_cells HB2 hz0 c0
      have d1 := fl_cells HB2 hz0 c1
      have HSW := HS
      have HGW := HG
      clear HM HG HS HR1 HE1
      go_wp2
      go_loopw [33] (fun i w4 => ∃ j : Nat, j ≤ m ∧ i = .int .i64 j ∧ Hid (BagS w1 (w1.heap.size + 1 + 1) w1.heap.size (w1.heap.size + 1) w4) ∧ Hid (MkMap w4 w1.heap.size k (eOf us)) ∧ Hid (GnMap w4 (w1.heap.size + 1) j (fun t => decide (t ∈ ds.take j)))) (fun i _ => m - (intOf i).toNat)
      case atStart => exact ⟨0, Nat.zero_le _, rfl, HSW, HM', HGW⟩
      case round =>
        clear HSW HGW HM' d0 d1 HB2
        obtain ⟨j, hj, rfl, HS, HM, HG⟩ := hrel
        have HB2 := HS.out.below
        by_cases hj' : j < m
        · have hkk : j < ds.length := by rw [HL'.out]; exact hj'
          obtain ⟨b', o, rfl, hzb, hat⟩ := HC1.out.2.at HB2 hkk
          obtain ⟨e0, e1, e2⟩ := tm_at hat
          simp only [show tmF.k = 3 from rfl, show tmF.z = tmZ from rfl] at e0 e1 e2
          have i1 : (0 : Int) ≤ (j : Int) := by omega
          have i2 : (j : Int) < (m : Int) := by omega
          have HRK := Lib.hid (HR2.out j hkk)
          have HEK : Hid (∀ t, t ∈ ds.take (j + 1) ↔ (t ∈ ds.take j ∨ t = ds.getD j tmZ)) := fun t => mem_takeT hkk t
          clear hat HR2 hkk c0 c1 r0 r1
          generalize ds.getD j tmZ = T at *
          have HA : Hid (Below wr.heap.size wr (wr.alloc (.cells #[.int .i64 T.c, .int .i64 T.s, .int .i64 T.q] 46))) := (Below.refl _ _).alloc (Nat.le_refl _) _
          have HS2 := Lib.hid (HS.out.next HA.out)
          have s0 := HS2.out.c0
          have s1 := HS2.out.c1
          have HM2 : Hid (MkMap (wr.alloc (.cells #[.int .i64 T.c, .int .i64 T.s, .int .i64 T.q] 46)) w1.heap.size k (eOf us)) := MapT.below HM.out HA.out
          have HG2 : Hid (GnMap (wr.alloc (.cells #[.int .i64 T.c, .int .i64 T.s, .int .i64 T.q] 46)) (w1.heap.size + 1) j (fun t => decide (t ∈ ds.take j))) := MapT.below HG.out HA.out
          go_wp2_with (at_mapUpdate; refine wpList_putT (K := keyT) (by rfl) _ _ _ 67 93 (by rfl) Try.underlying67 HG2.out (by unfold maxLen; omega) T HRK.out (.agg #[]) (by rfl) (by rfl) (by rfl) ?_; intro w5 hm5 ht5; refine Hid.out ?_)
          refine Lib.hid ?_
          have hg5 := ht5.grown
          have HS3 : Hid (BagS w1 (w1.heap.size + 1 + 1) w1.heap.size (w1.heap.size + 1) w5) := HS2.out.grown hg5 (fun e => by injection e; omega) (fun g e => by injection e; omega)
          have HM3 : Hid (MkMap w5 w1.heap.size k (eOf us)) := MapT.other HM2.out hg5 (fun e => by injection e; omega)
          have HG3 : Hid (GnMap w5 (w1.heap.size + 1) (j + 1) (fun t => decide (t ∈ ds.take (j + 1)))) := hm5 _ (by simp [gnO, (HEK.out T).2 (.inr rfl)]) (fun i hi => by
            show (if decide (i ∈ ds.take (j + 1)) = true then _ else _) = if decide (i ∈ ds.take j) = true then _ else _
            have : (i ∈ ds.take (j + 1)) ↔ (i ∈ ds.take j) := ⟨fun h => ((HEK.out i).1 h).resolve_right hi, fun h => (HEK.out i).2 (.inl h)⟩
            simp only [this])
          clear hm5 ht5 hg5 s0 s1 HA HS2 HM2 HG2
          go_wp2
          exact ⟨⟨j + 1, by omega, by go_num, HS3, HM3, HG3⟩, by simp [intOf]; omega⟩
        · obtain rfl : j = m := by omega
          have HG' : Hid (GnMap wr (w1.heap.size + 1) j (goneB ds)) := by
            refine Lib.hid ?_
            have h := HG.out
            rw [show ds.take j = ds from List.take_of_length_le (by rw [HL'.out]; exact Nat.le_refl _)] at h
            exact h
          have r0' := fl_cells HB2 hz r0
          have r1' := fl_cells HB2 hz r1
          have FR' : Hid (∀ o, wr.frozen? ⟨w.heap.size + 1, o, none⟩ = false) := fun o => (HB2.frozen (p := ⟨w.heap.size + 1, o, none⟩) hz).trans (FR.out o)
          have s0 := HS.out.c0
          have s1 := HS.out.c1
          have HB3 := Lib.hid (below_step HB1.out HB1.out.size HB2)
          have frx := FR'.out
          clear HG HR2 FR FR'
          go_wp2
          refine bodyPost_ret (v := .tuple #[bagV w1.heap.size (w1.heap.size + 1), .bool true]) (by simp only [results, hres]; go_simp) rfl ?_
          refine ⟨w1.heap.size, w1.heap.size + 1, rfl, hbm, by omega, by omega, ?_, ?_, ?_⟩
          · exact MapT.of_block (MapT.of_block HM.out (Below.heap_setCell _ _ _ _ (by show w1.heap.size ≠ w.heap.size + 1; omega))) (Below.heap_setCell _ _ _ _ (by show w1.heap.size ≠ w.heap.size + 1; omega))
          · exact MapT.of_block (MapT.of_block HG'.out (Below.heap_setCell _ _ _ _ (by show w1.heap.size + 1 ≠ w.heap.size + 1; omega))) (Below.heap_setCell _ _ _ _ (by show w1.heap.size + 1 ≠ w.heap.size + 1; omega))
          · exact (HB3.out.setCell (p := ⟨w.heap.size + 1, 0, none⟩) (Nat.le_add_right _ 1) _).setCell (p := ⟨w.heap.size + 1, 1, none⟩) (Nat.le_add_right _ 1) _

end Go.Proofs.Ytkcbknjmpfgimaa

namespace Go.Proofs.Ytkcbknjmpfgimaa
open Go.ChangeShapes Go.WideShapes Go.ChangeAt Go.RowKit Go.Joins Go.Maps
attribute [local go_sem ↓] Go.wp_at_zero Go.wp_at_succ
set_option maxRecDepth 100000

theorem gnO_some {g : Tm → Bool} {t : Tm} {v : Value} (h : gnO g t = some v) : g t = true := by
  unfold gnO at h
  cases hg : g t
  · rw [hg] at h
    simp at h
  · rfl

theorem mkO_some {h : Tm → Option Int} {t : Tm} {v : Value} (hv : mkO h t = some v) : ∃ e, h t = some e ∧ v = .int .i64 e := by
  unfold mkO at hv
  obtain ⟨e, h1, h2⟩ := Option.map_eq_some_iff.1 hv
  exact ⟨e, h1, h2.symm⟩

set_option maxHeartbeats 8000000 in
theorem bagAlive_any (bm bg n m : Nat) (h : Tm → Option Int) (g : Tm → Bool) (w : World) (hm : MkMap w bm n h) (hg : GnMap w bg m g) :
    Calls Try.prog 46 #[bagV bm bg] w fun e w' => ∃ c, e = .returned (.map (some c)) ∧ w.heap.size ≤ c ∧ MkMap w' c n (fun t => if g t then none else h t) ∧ Below w.heap.size w w' := by
  have HB0 : Hid (Below w.heap.size w (w.alloc (.cells #[.map (some bm), .map (some bg)] 69))) := (Below.refl _ _).alloc (Nat.le_refl _) _
  have HM : Hid (MkMap (w.alloc (.cells #[.map (some bm), .map (some bg)] 69)) bm n h) := MapT.below hm HB0.out
  have HG : Hid (GnMap (w.alloc (.cells #[.map (some bm), .map (some bg)] 69)) bg m g) := MapT.below hg HB0.out
  have hbg : bg < w.heap.size := MapT.lt hg
  clear hm hg
  go_enter Try.func46, Try.ntmps46
  go_wp2_with fail
  have c0 : (w.alloc (.cells #[.map (some bm), .map (some bg)] 69)).cell? ⟨w.heap.size, 0, none⟩ = some (.map (some bm)) := by go_simp
  have c1 : (w.alloc (.cells #[.map (some bm), .map (some bg)] 69)).cell? ⟨w.heap.size, 1, none⟩ = some (.map (some bg)) := by go_simp
  have hz : w.heap.size < (w.alloc (.cells #[.map (some bm), .map (some bg)] 69)).heap.size := by simp
  generalize w.alloc (.cells #[.map (some bm), .map (some bg)] 69) = V at *
  refine (clone_any bm n h V HM.out).mono ?_
  rintro e w1 ⟨rfl, hm1, hb⟩
  have HM1 := Lib.hid hm1
  have HG1 : Hid (GnMap w1 bg m g) := MapT.below HG.out hb
  replace c0 := fl_cells hb hz c0
  replace c1 := fl_cells hb hz c1
  have hz1 := Nat.lt_of_lt_of_le hz hb.size
  have HB1 := Lib.hid (below_step HB0.out HB0.out.size hb)
  have hcw : V.heap.size < w1.heap.size := MapT.lt hm1
  clear hb hm1 HM HG
  generalize hc : V.heap.size = c at *
  clear hc
  go_wp2_with (at_range; refine wpList_rangeT (K := keyT) (by rfl) _ 67 93 (by rfl) Try.underlying67 HG1.out (by rfl) ?_; intro w2 cnt0 hr2 _ hg2 hs2; refine Hid.out ?_)
  refine Lib.hid ?_
  have HR2 := Lib.hid hr2
  have HM2 : Hid (MkMap w2 c n h) := MapT.other HM1.out hg2 (by simp)
  have HB2 : Hid (Below w.heap.size w w2) := HB1.out.trans (low_grown hg2 (fun g e => by cases e) HB1.out.size)
  have hcr : c ≠ w1.heap.size := by omega
  have hcg : bg ≠ c := by omega
  have hw1 : w.heap.size ≤ w1.heap.size := by omega
  have hcW : w.heap.size ≤ c := by omega
  clear hr2 hg2 hs2 HM1 HG1 c0 c1 HB1
  generalize w1.heap.size = r at *
  go_wp2
  go_loopw [11] (fun _ wr => ∃ (left : Tm → Bool) (cnt : Nat), Hid (RangeG keyT wr bg r m (gnO g) left cnt) ∧ Hid (MkMap wr c n (fun t => if g t && !left t then none else h t)) ∧ Hid (Below w.heap.size w wr)) (fun _ wr => wr.rangeLeft bg r)
  case atStart =>
    refine ⟨_, cnt0, HR2, ?_, HB2⟩
    exact MkMap.congr HM2.out fun t _ => by
      show (if g t && !(gnO g t).isSome then none else h t) = h t
      cases hgt : g t <;> simp [gnO, hgt]
  case round =>
    clear HR2 HM2 HB2
    obtain ⟨left, cnt, HR, HM, HB⟩ := hrel
    go_wp2_with (at_next; refine wpList_nextG (K := keyT) (by rfl) _ (by rfl) HR.out (by rfl) ?_ ?_)
    · intro hl
      have HM' : Hid (MkMap wr c n (fun t => if g t then none else h t)) := MkMap.congr HM.out fun t ht => by
        show (if g t then none else h t) = if g t && !left t then none else h t
        rw [hl t ht]
        simp
      clear hl
      go_wp2
      go_ret
      exact ⟨c, rfl, hcW, HM'.out, HB.out⟩
    · intro T v w3 cnt3 hT hlT hv hr3 hlt hg3 hs3 hen
      have HT := Lib.hid hT
      have HGT := Lib.hid (gnO_some hv)
      have HR3 := Lib.hid hr3
      have HM3 : Hid (MkMap w3 c n (fun t => if g t && !left t then none else h t)) := MapT.other HM.out hg3 (fun e => by injection e; omega)
      have HB3 : Hid (Below w.heap.size w w3) := HB.out.trans (low_grown hg3 (fun g e => by injection e; omega) HB.out.size)
      have HL3 : Hid (cnt3 < cnt) := hlt
      have HA : Hid (Below w3.heap.size w3 (w3.alloc (.cells #[.int .i64 T.c, .int .i64 T.s, .int .i64 T.q] 46))) := (Below.refl _ _).alloc (Nat.le_refl _) _
      have HR4 : Hid (RangeG keyT (w3.alloc (.cells #[.int .i64 T.c, .int .i64 T.s, .int .i64 T.q] 46)) bg r m (gnO g) (fun j => left j && !decide (j = T)) cnt3) := HR3.out.below HA.out
      have HM4 : Hid (MkMap (w3.alloc (.cells #[.int .i64 T.c, .int .i64 T.s, .int .i64 T.q] 46)) c n (fun t => if g t && !left t then none else h t)) := MapT.below HM3.out HA.out
      have HB4 := Lib.hid (below_step HB3.out HB3.out.size HA.out)
      clear hT hlT hv hr3 hlt hg3 hs3 HM HM3 HR3 HB HB3 HA
      have hen' : (Instr.entry (.pointer (some ⟨r, 0, none⟩))).run Try.prog w3 = .ok (.tuple #[tmV T, v]) w3 := hen
      clear hen
      go_wp2_with (at_delete; refine wpList_delT (K := keyT) (by rfl) _ _ 66 3 (by rfl) Try.underlying66 HM4.out T HT.out (by rfl) (by rfl) ?_; intro w5 hm5 ht5; refine Hid.out ?_)
      refine Lib.hid ?_
      have hg5 := ht5.grown
      have HR5 : Hid (RangeG keyT w5 bg r m (gnO g) (fun j => left j && !decide (j = T)) cnt3) := HR4.out.kept hg5 (fun e => by injection e; omega) (fun e => by injection e; omega)
      have HM5 : Hid (MkMap w5 c n (fun t => if g t && !(left t && !decide (t = T)) then none else h t)) := by
        refine hm5 _ ?_ ?_
        · show ((if g T && !(left T && !decide (T = T)) then none else h T).map _) = none
          rw [HGT.out]
          simp
        · intro j hj
          show ((if g j && !(left j && !decide (j = T)) then none else h j).map _) = ((if g j && !left j then none else h j).map _)
          simp [hj]
      have HB5 : Hid (Below w.heap.size w w5) := HB4.out.trans (low_grown hg5 (fun g e => by injection e; omega) HB4.out.size)
      clear hm5 ht5 hg5 HR4 HM4 HB4 hen'
      go_wp2
      refine ⟨⟨_, cnt3, HR5, HM5, HB5⟩, ?_⟩
      rw [HR5.out.left_eq, HR.out.left_eq]
      exact HL3.out

set_option maxHeartbeats 8000000 in
theorem bagHas_any (bm bg n m : Nat) (h : Tm → Option Int) (g : Tm → Bool) (e0 : Int) (w : World) (hm : MkMap w bm n h) (hg : GnMap w bg m g) :
    Calls Try.prog 43 #[bagV bm bg, .int .i64 e0] w fun e w' => (∃ v, e = .returned (.bool v) ∧ (v = true ↔ ∃ t, TmR t ∧ h t = some e0 ∧ g t = false)) ∧ Below w.heap.size w w' := by
  have HB0 : Hid (Below w.heap.size w (w.alloc (.cells #[.map (some bm), .map (some bg)] 69))) := (Below.refl _ _).alloc (Nat.le_refl _) _
  have HM : Hid (MkMap (w.alloc (.cells #[.map (some bm), .map (some bg)] 69)) bm n h) := MapT.below hm HB0.out
  have HG : Hid (GnMap (w.alloc (.cells #[.map (some bm), .map (some bg)] 69)) bg m g) := MapT.below hg HB0.out
  clear hm hg
  go_enter Try.func43, Try.ntmps43
  go_wp2_with fail
  generalize w.alloc (.cells #[.map (some bm), .map (some bg)] 69) = V at *
  refine (bagAlive_any bm bg n m h g V HM.out HG.out).mono ?_
  rintro e w1 ⟨c, rfl, hc, hm1, hb⟩
  have HM1 := Lib.hid hm1
  have HB1 := Lib.hid (below_step HB0.out HB0.out.size hb)
  clear hb hm1 HM HG hc HB0
  go_wp2_with (at_range; refine wpList_rangeT (K := keyT) (by rfl) _ 66 3 (by rfl) Try.underlying66 HM1.out (by rfl) ?_; intro w2 cnt0 hr2 _ hg2 hs2; refine Hid.out ?_)
  refine Lib.hid ?_
  have HR2 := Lib.hid hr2
  have HB2 : Hid (Below w.heap.size w w2) := HB1.out.trans (low_grown hg2 (fun g e => by cases e) HB1.out.size)
  have hw1 : w.heap.size ≤ w1.heap.size := HB1.out.size
  clear hr2 hg2 hs2 HM1 HB1
  generalize w1.heap.size = r at *
  go_wp2
  go_loopw [10] (fun _ wr => ∃ (left : Tm → Bool) (cnt : Nat), Hid (RangeG keyT wr c r n (mkO (fun t => if g t then none else h t)) left cnt) ∧ Hid (∀ t, TmR t → h t = some e0 → g t = false → left t = true) ∧ Hid (Below w.heap.size w wr)) (fun _ wr => wr.rangeLeft c r)
  case atStart =>
    refine ⟨_, cnt0, HR2, fun t ht h1 h2 => ?_, HB2⟩
    show (mkO (fun t => if g t then none else h t) t).isSome = true
    simp [mkO, h1, h2]
  case round =>
    clear HR2 HB2
    obtain ⟨left, cnt, HR, HL, HB⟩ := hrel
    go_wp2_with (at_next; refine wpList_nextG (K := keyT) (by rfl) _ (by rfl) HR.out (by rfl) ?_ ?_)
    · intro hl
      have HF : Hid (¬ ∃ t, TmR t ∧ h t = some e0 ∧ g t = false) := fun ⟨t, ht, h1, h2⟩ => by
        have h3 := HL.out t ht h1 h2
        rw [hl t ht] at h3
        cases h3
      clear hl
      go_wp2
      go_ret
      exact ⟨⟨false, rfl, fun h => (nomatch h), fun h => absurd h HF.out⟩, HB.out⟩
    · intro T v w3 cnt3 hT hlT hv hr3 hlt hg3 hs3 hen
      obtain ⟨e1, he1, rfl⟩ := mkO_some hv
      have HT := Lib.hid hT
      have HE1 := Lib.hid he1
      have HR3 := Lib.hid hr3
      have HB3 : Hid (Below w.heap.size w w3) := HB.out.trans (low_grown hg3 (fun g e => by injection e; omega) HB.out.size)
      have HL3 : Hid (cnt3 < cnt) := hlt
      clear hT hlT hv he1 hr3 hlt hg3 hs3 HB
      have hen' : (Instr.entry (.pointer (some ⟨r, 0, none⟩))).run Try.prog w3 = .ok (.tuple #[tmV T, .int .i64 e1]) w3 := hen
      clear hen
      by_cases heq : e1 = e0
      · subst heq
        have HF : Hid (∃ t, TmR t ∧ h t = some e1 ∧ g t = false) := by
          have h1 := HE1.out
          cases hg : g T
          · rw [hg] at h1
            exact ⟨T, HT.out, by simpa using h1, hg⟩
          · rw [hg] at h1
            simp at h1
        clear HE1 HL
        go_wp2
        go_ret
        exact ⟨⟨true, rfl, fun _ => HF.out, fun _ => rfl⟩, HB3.out⟩
      · have HL' : Hid (∀ t, TmR t → h t = some e0 → g t = false → (left t && !decide (t = T)) = true) := fun t ht h1 h2 => by
          rw [HL.out t ht h1 h2]
          have : t ≠ T := fun e => by
            subst e
            have h3 := HE1.out
            rw [h2] at h3
            simp [h1] at h3
            exact heq h3.symm
          simp [this]
        have hne : (e1 == e0) = false := beq_eq_false_iff_ne.2 heq
        clear HE1 HL heq
        go_wp2
        refine ⟨⟨_, cnt3, HR3, HL', HB3⟩, ?_⟩
        rw [HR3.out.left_eq, HR.out.left_eq]
        exact HL3.out

theorem hasB_iff {us : List Mk} {ds : List Tm} (hok : setOkB us ds = true) (e : Int) : hasB us ds e = true ↔ ∃ t, TmR t ∧ eOf us t = some e ∧ goneB ds t = false := by
  have h1 := (setOk_iff us ds).1 hok
  have h2 := (tagsOk_iff _).1 h1.1.2
  unfold hasB
  rw [List.any_eq_true]
  constructor
  · rintro ⟨x, hx, hp⟩
    simp only [Bool.and_eq_true, beq_iff_eq, Bool.not_eq_true'] at hp
    exact ⟨mkT x, tagOk_r (h2.2 _ (List.mem_map_of_mem hx)), by rw [eOf_mem h2.1 hx, hp.1], hp.2⟩
  · rintro ⟨t, -, he, hg⟩
    refine ⟨_, eOf_some he, ?_⟩
    simp only [Bool.and_eq_true, beq_iff_eq, Bool.not_eq_true', true_and]
    exact hg

set_option maxHeartbeats 8000000 in
theorem implSetHas_any (a : Option Addr) (n cap : Nat) (b : Option Addr) (m cb : Nat) (us : List Mk) (ds : List Tm) (e0 : Int) (w : World) (hl : us.length = n) (hn : n ≤ 4194304) (hl' : ds.length = m) (hm : m ≤ 4194304) (hh : IsSt w a b us ds) :
    Calls Try.prog 15 #[setV a n cap b m cb, .int .i64 e0] w fun e w' => e = .returned (.bool (setOkB us ds && hasB us ds e0)) ∧ Below w.heap.size w w' := by
  have HB0 : Hid (Below w.heap.size w (w.alloc (.cells #[.slice a n cap, .slice b m cb] 31))) := (Below.refl _ _).alloc (Nat.le_refl _) _
  have HC := Lib.hid (hh.below HB0.out)
  have HL := Lib.hid hl
  have HL' := Lib.hid hl'
  clear hh hl hl'
  cases hok : setOkB us ds
  · have HOK := Lib.hid hok
    clear hok
    go_enter Try.func15, Try.ntmps15
    go_wp2_with fail
    refine (bagOf_no a n cap b m cb us ds _ HL.out hn HL'.out (Nat.le_trans hm (by unfold maxLen; omega)) HC.out HOK.out).mono ?_
    rintro e w1 ⟨rfl, hb⟩
    have HB1 := Lib.hid (below_step HB0.out HB0.out.size hb)
    have HB2 := Lib.hid (HB1.out.alloc HB1.out.size (.cells #[.map none, .map none] 69))
    clear hb
    go_wp2
    go_ret
    exact ⟨rfl, HB2.out⟩
  · have HOK := Lib.hid hok
    have HI : Hid (hasB us ds e0 = true ↔ ∃ t, TmR t ∧ eOf us t = some e0 ∧ goneB ds t = false) := hasB_iff hok e0
    clear hok
    go_enter Try.func15, Try.ntmps15
    go_wp2_with fail
    refine (bagOf_yes a n cap b m cb us ds _ HL.out hn HL'.out hm HC.out HOK.out).mono ?_
    rintro e w1 ⟨bm, bg, rfl, -, -, -, hm1, hg1, hb⟩
    have HB1 := Lib.hid (below_step HB0.out HB0.out.size hb)
    have HA : Hid (Below w1.heap.size w1 (w1.alloc (.cells #[.map (some bm), .map (some bg)] 69))) := (Below.refl _ _).alloc (Nat.le_refl _) _
    have HM2 : Hid (MkMap (w1.alloc (.cells #[.map (some bm), .map (some bg)] 69)) bm n (eOf us)) := MapT.below hm1 HA.out
    have HG2 : Hid (GnMap (w1.alloc (.cells #[.map (some bm), .map (some bg)] 69)) bg m (goneB ds)) := MapT.below hg1 HA.out
    have HB2 := Lib.hid (below_step HB1.out HB1.out.size HA.out)
    clear hb hm1 hg1 HB1 HA
    go_wp2_with fail
    refine (bagHas_any bm bg n m (eOf us) (goneB ds) e0 _ HM2.out HG2.out).mono ?_
    rintro e w3 ⟨⟨v, rfl, hv⟩, hb⟩
    have HB3 := Lib.hid (below_step HB2.out HB2.out.size hb)
    have HV : Hid (v = (true && hasB us ds e0)) := by
      rw [Bool.true_and]
      cases v
      · cases hb2 : hasB us ds e0
        · rfl
        · exact absurd (hv.2 (HI.out.1 hb2)) (by decide)
      · exact (HI.out.2 (hv.1 rfl)).symm
    clear hb hv
    go_wp2
    go_ret
    exact ⟨ret_bool HV.out, HB3.out⟩

end Go.Proofs.Ytkcbknjmpfgimaa
