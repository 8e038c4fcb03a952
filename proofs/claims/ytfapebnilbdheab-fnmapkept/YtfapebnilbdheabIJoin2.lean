/- Contracts of impl.MapJoin and impl.MapPut. -/
import Derived.Test.YtfapebnilbdheabITold
namespace Go.Proofs.Ytfapebnilbdheab
open Go.ChangeShapes Go.WideShapes Go.ChangeAt Go.RowKit Go.Joins
attribute [local go_sem ↓] Go.wp_at_zero Go.wp_at_succ

def joinB (us vs : List Wr) : List Wr := if mapOkB us = true ∧ mapOkB vs = true then joinW us vs else []

theorem joinB_not {us vs : List Wr} (h : mapOkB us = false ∨ mapOkB vs = false) : joinB us vs = [] := by
  unfold joinB
  refine if_neg fun h' => ?_
  rcases h with h | h
  · rw [h'.1] at h; cases h
  · rw [h'.2] at h; cases h

theorem mapOk_keys {ws : List Wr} (h : mapOkB ws = true) : ∀ x ∈ ws, 0 ≤ x.k ∧ x.k ≤ 5 := fun x hx => okW_key (((mapOk_iff ws).1 h).1 x hx)

theorem mapOk_keys' {ws : List Wr} (h : mapOkB ws = true) : ∀ i, i < ws.length → 0 ≤ (ws.getD i wz).k ∧ (ws.getD i wz).k ≤ 5 := fun i hi => mapOk_keys h _ (by simp [List.getD, hi])

theorem joinB_told {us vs : List Wr} (ha : mapOkB us = true) (hb : mapOkB vs = true) : toldM (vs.foldl regPut (us.foldl regPut (fun _ => none))) = joinB us vs := by
  unfold joinB
  rw [if_pos ⟨ha, hb⟩]
  exact told_join ((mapOk_iff us).1 ha).2 (mapOk_keys ha) (mapOk_keys hb)

theorem implMapOk_is (r : Bool) (a : Option Addr) (n cap : Nat) (ws : List Wr) (h : mapOkB ws = r) (w : World) (hn : ws.length = n) (hm : n ≤ 1048576) (hx : Few ws) (hh : IsWs w a ws) :
    Calls Try.prog 19 #[.slice a n cap] w fun e w' => e = .returned (.bool r) ∧ Below w.heap.size w w' := by
  subst h
  exact implMapOk_any a n cap ws w hn hm hx hh

set_option maxHeartbeats 4000000 in
theorem implMapJoin_any (a b : Option Addr) (n m cap cap' : Nat) (us vs : List Wr) (w : World) (hn : us.length = n) (hm : vs.length = m) (hn1 : n ≤ 1048576) (hm1 : m ≤ 1048576) (hx : Few us) (hy : Few vs) (hi : IsWs w a us) (hj : IsWs w b vs) :
    Calls Try.prog 15 #[.slice a n cap, .slice b m cap'] w fun e w' => ∃ v es, e = .returned v ∧ es.map (·.x) = joinB us vs ∧ RowG w' w.heap.size v es ∧ Below w.heap.size w w' := by
  have HI : Hid (IsWs w a us) := hi
  have HJ : Hid (IsWs w b vs) := hj
  have HN : Hid (us.length = n) := hn
  have HM : Hid (vs.length = m) := hm
  have HX : Hid (Few us) := hx
  have HY : Hid (Few vs) := hy
  clear hi hj hn hm hx hy
  cases ha : mapOkB us
  · have HE : Hid (joinB us vs = []) := joinB_not (.inl ha)
    go_enter Try.func15, Try.ntmps15
    go_wp2_with fail
    refine (implMapOk_is false a n cap us ha _ HN.out hn1 HX.out HI.out).mono ?_
    rintro e w1 ⟨rfl, hb⟩
    have HB1 := Lib.hid hb
    clear hb
    go_wp2
    go_ret
    exact ⟨_, [], rfl, HE.out.symm, rowG_nil _ _, HB1.out⟩
  cases hb : mapOkB vs
  · have HE : Hid (joinB us vs = []) := joinB_not (.inr hb)
    go_enter Try.func15, Try.ntmps15
    go_wp2_with fail
    refine (implMapOk_is true a n cap us ha _ HN.out hn1 HX.out HI.out).mono ?_
    rintro e w1 ⟨rfl, hb1⟩
    have HB1 := Lib.hid hb1
    clear hb1
    go_wp2_with fail
    refine (implMapOk_is false b m cap' vs hb _ HM.out hm1 HY.out (HJ.out.below HB1.out)).mono ?_
    rintro e w2 ⟨rfl, hb2⟩
    have HB2 : Hid (Below w.heap.size w w2) := below_step HB1.out HB1.out.size hb2
    clear hb2
    go_wp2
    go_ret
    exact ⟨_, [], rfl, HE.out.symm, rowG_nil _ _, HB2.out⟩
  have HE : Hid (toldM (vs.foldl regPut (us.foldl regPut (fun _ => none))) = joinB us vs) := joinB_told ha hb
  have HKA : Hid (∀ i, i < us.length → 0 ≤ (us.getD i wz).k ∧ (us.getD i wz).k ≤ 5) := mapOk_keys' ha
  have HKB : Hid (∀ i, i < vs.length → 0 ≤ (vs.getD i wz).k ∧ (vs.getD i wz).k ≤ 5) := mapOk_keys' hb
  have hmm := @run_makeMap Try.prog
  go_enter Try.func15, Try.ntmps15
  go_wp2_with fail
  refine (implMapOk_is true a n cap us ha _ HN.out hn1 HX.out HI.out).mono ?_
  rintro e w1 ⟨rfl, hb1⟩
  have HB1 := Lib.hid hb1
  clear hb1
  go_wp2_with fail
  refine (implMapOk_is true b m cap' vs hb _ HM.out hm1 HY.out (HJ.out.below HB1.out)).mono ?_
  rintro e w2 ⟨rfl, hb2⟩
  have HB2 : Hid (Below w.heap.size w w2) := below_step HB1.out HB1.out.size hb2
  clear hb2 HB1
  go_wp2_with fail
  clear hmm
  have HB3 : Hid (Below w.heap.size w (w2.alloc (.map #[] 0))) := HB2.out.alloc HB2.out.size _
  refine (putAll_any w w2.heap.size 0 (fun _ => none) a n cap us _ HN.out hn1 (by omega) HX.out HKA.out HI.out HB3.out HB2.out.size ⟨_, regs_made w2, fun k => ⟨fun _ => rfl, fun x h => by cases h⟩⟩).mono ?_
  rintro e w4 ⟨rfl, hr4, hb4⟩
  have HR4 := Lib.hid hr4
  have HB4 := Lib.hid hb4
  clear hr4 hb4
  go_wp2_with fail
  refine (putAll_any w w2.heap.size (0 + n) _ b m cap' vs _ HM.out hm1 (by omega) HY.out HKB.out HJ.out HB4.out HB2.out.size HR4.out).mono ?_
  rintro e w5 ⟨rfl, hr5, hb5⟩
  have HR5 := Lib.hid hr5
  have HB5 := Lib.hid hb5
  clear hr5 hb5
  go_wp2_with fail
  refine (told_any w w2.heap.size _ _ _ HB5.out HR5.out).mono ?_
  rintro e w6 ⟨v, es, rfl, hes, hrow, hb6⟩
  have HES : Hid (es.map (·.x) = joinB us vs) := hes.trans HE.out
  have HRW := Lib.hid (hrow.mono HB5.out.size)
  have HB6 : Hid (Below w.heap.size w w6) := below_step HB5.out HB5.out.size hb6
  clear hes hrow hb6
  go_wp2
  go_ret
  exact ⟨v, es, rfl, HES.out, HRW.out, HB6.out⟩

theorem mapOk_one (x : Wr) : mapOkB [x] = okW x := by
  simp [mapOkB, wrGood, List.range, List.range.loop]

theorem joinB_one (ws : List Wr) (x : Wr) : joinB ws [x] = if mapOkB ws = true ∧ okW x = true then putW ws x else [] := by
  unfold joinB
  rw [mapOk_one]
  rfl

set_option maxHeartbeats 2000000 in
theorem implMapPut_any (a ad : Option Addr) (n cap cp : Nat) (ws : List Wr) (x : Wr) (w : World) (hn : ws.length = n) (hn1 : n ≤ 1048576) (hx : Few ws) (hxl : x.xs.length ≤ 1048576) (hi : IsWs w a ws) (hd : IsDeps w ad x.xs) :
    Calls Try.prog 22 #[.slice a n cap, wrOf x ad cp] w fun e w' => ∃ v es, e = .returned v ∧ es.map (·.x) = joinB ws [x] ∧ RowG w' w.heap.size v es ∧ Below w.heap.size w w' := by
  obtain ⟨xk, xc, xs', xq, xv, xd, xx⟩ := x
  simp only at hxl hd
  have HB : Hid (Below w.heap.size w ((w.alloc (.cells #[.int .i64 xk, .int .i64 xc, .int .i64 xs', .int .i64 xq, .int .i64 xv, .bool xd, .slice ad xx.length cp] 31)).alloc (.cells #[.int .i64 xk, .int .i64 xc, .int .i64 xs', .int .i64 xq, .int .i64 xv, .bool xd, .slice ad xx.length cp] 31))) :=
    ((Below.refl _ _).alloc (Nat.le_refl _) _).alloc (by simp) _
  have HI := Lib.hid (hi.below HB.out)
  have HD := Lib.hid (hd.below HB.out)
  have HN : Hid (ws.length = n) := hn
  have HX : Hid (Few ws) := hx
  have HJ : Hid (IsWs ((w.alloc (.cells #[.int .i64 xk, .int .i64 xc, .int .i64 xs', .int .i64 xq, .int .i64 xv, .bool xd, .slice ad xx.length cp] 31)).alloc (.cells #[.int .i64 xk, .int .i64 xc, .int .i64 xs', .int .i64 xq, .int .i64 xv, .bool xd, .slice ad xx.length cp] 31)) (some ⟨w.heap.size + 1, 0, none⟩) [⟨xk, xc, xs', xq, xv, xd, xx⟩]) := by
    refine .inr ⟨w.heap.size + 1, 0, rfl, by simp, fun i hi => ?_⟩
    have h0 : i = 0 := by simpa using hi
    subst h0
    refine ⟨ad, cp, ?_, by have : xx.length ≤ maxLen := by unfold maxLen; omega
                           exact this, HD.out⟩
    have hc : ∀ j v, (#[Value.int .i64 xk, .int .i64 xc, .int .i64 xs', .int .i64 xq, .int .i64 xv, .bool xd, .slice ad xx.length cp] : Array Value)[j]? = some v → ((w.alloc (.cells #[.int .i64 xk, .int .i64 xc, .int .i64 xs', .int .i64 xq, .int .i64 xv, .bool xd, .slice ad xx.length cp] 31)).alloc (.cells #[.int .i64 xk, .int .i64 xc, .int .i64 xs', .int .i64 xq, .int .i64 xv, .bool xd, .slice ad xx.length cp] 31)).cell? ⟨w.heap.size + 1, j, none⟩ = some v := fun j v hv => by
      rw [cell_of_row _ _ j _ _ (0, 0) (heap_one w _ _).2]
      exact hv
    exact ⟨hc 0 _ rfl, hc 1 _ rfl, hc 2 _ rfl, hc 3 _ rfl, hc 4 _ rfl, hc 5 _ rfl, hc 6 _ rfl⟩
  have HF : Hid (Few [⟨xk, xc, xs', xq, xv, xd, xx⟩]) := fun i hi => by
    have h0 : i = 0 := by simpa using hi
    subst h0
    exact hxl
  clear hi hd hn hx
  go_enter Try.func22, Try.ntmps22
  go_wp2_with fail
  refine (implMapJoin_any a _ n 1 cap _ ws [⟨xk, xc, xs', xq, xv, xd, xx⟩] _ HN.out rfl hn1 (by omega) HX.out HF.out HI.out HJ.out).mono ?_
  rintro e w6 ⟨v, es, rfl, hes, hrow, hb6⟩
  have HES := Lib.hid hes
  have HRW := Lib.hid (hrow.mono HB.out.size)
  have HB6 : Hid (Below w.heap.size w w6) := below_step HB.out HB.out.size hb6
  clear hes hrow hb6
  go_wp2
  go_ret
  exact ⟨v, es, rfl, HES.out, HRW.out, HB6.out⟩

end Go.Proofs.Ytfapebnilbdheab
