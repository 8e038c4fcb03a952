import Derived.Test.YtidpcjcnhklmpaiPack8
import Derived.Test.YtidpcjcnhklmpaiPack4
import Derived.Test.YtidpcjcnhklmpaiPack1
import Derived.Deep.Slices
import Derived.Deep.Strs
import Derived.Test.YtidpcjcnhklmpaiPack2
/- Contracts of impl.MapJoin and impl.MapPut. -/
namespace Go.Proofs.Ytidpcjcnhklmpai
open Go.ChangeShapes Go.WideShapes Go.ChangeAt Go.RowKit Go.Joins
attribute [local go_sem ↓] Go.wp_at_zero Go.wp_at_succ

def joinB (us vs : List Wr) : List Wr := if mapOkB us = true ∧ mapOkB vs = true then joinW us vs else []

set_option maxRecDepth 100000 in
theorem joinB_not {us vs : List Wr} (h : mapOkB us = false ∨ mapOkB vs = false) : joinB us vs = [] := by
  unfold joinB
  refine if_neg fun h' => ?_
  rcases h with h | h
  · rw [h'.1] at h; cases h
  · rw [h'.2] at h; cases h

set_option maxRecDepth 100000 in
theorem mapOk_keys {ws : List Wr} (h : mapOkB ws = true) : ∀ x ∈ ws, 0 ≤ x.k ∧ x.k ≤ 5 := fun x hx => okW_key (((mapOk_iff ws).1 h).1 x hx)

set_option maxRecDepth 100000 in
theorem mapOk_keys' {ws : List Wr} (h : mapOkB ws = true) : ∀ i, i < ws.length → 0 ≤ (ws.getD i wz).k ∧ (ws.getD i wz).k ≤ 5 := fun i hi => mapOk_keys h _ (by simp [List.getD, hi])

set_option maxRecDepth 100000 in
theorem joinB_told {us vs : List Wr} (ha : mapOkB us = true) (hb : mapOkB vs = true) : toldM (vs.foldl regPut (us.foldl regPut (fun _ => none))) = joinB us vs := by
  unfold joinB
  rw [if_pos ⟨ha, hb⟩]
  exact told_join ((mapOk_iff us).1 ha).2 (mapOk_keys ha) (mapOk_keys hb)

set_option maxRecDepth 100000 in
theorem implMapOk_is (r : Bool) (a : Option Addr) (n cap : Nat) (ws : List Wr) (h : mapOkB ws = r) (w : World) (hn : ws.length = n) (hm : n ≤ 1048576) (hx : Few ws) (hh : IsWs w a ws) :
    Calls Try.prog 12 #[.slice a n cap] w fun e w' => e = .returned (.bool r) ∧ Below w.heap.size w w' := by
  subst h
  exact implMapOk_any a n cap ws w hn hm hx hh

set_option maxRecDepth 100000 in
set_option maxHeartbeats 4000000 in
theorem implMapJoin_any (a b : Option Addr) (n m cap cap' : Nat) (us vs : List Wr) (w : World) (hn : us.length = n) (hm : vs.length = m) (hn1 : n ≤ 1048576) (hm1 : m ≤ 1048576) (hx : Few us) (hy : Few vs) (hi : IsWs w a us) (hj : IsWs w b vs) :
    Calls Try.prog 26 #[.slice a n cap, .slice b m cap'] w fun e w' => ∃ v es, e = .returned v ∧ es.map (·.x) = joinB us vs ∧ RowG w' w.heap.size v es ∧ Below w.heap.size w w' := by
  have HI : Hid (IsWs w a us) := hi
  have HJ : Hid (IsWs w b vs) := hj
  have HN : Hid (us.length = n) := hn
  have HM : Hid (vs.length = m) := hm
  have HX : Hid (Few us) := hx
  have HY : Hid (Few vs) := hy
  clear hi hj hn hm hx hy
  cases ha : mapOkB us
  · have HE : Hid (joinB us vs = []) := joinB_not (.inl ha)
    go_enter Try.func26, Try.ntmps26
    go_wp2_with fail
    refine (implMapOk_is false a n cap us ha _ HN.out hn1 HX.out HI.out).mono ?_
    rintro e w1 ⟨rfl, hb⟩
    have HB1 := Lib.hid hb
    clear hb
    go_wp2
    go_ret
    exact ⟨_, [], rfl, HE.out.symm, rowG_nil _ _, HB1.out⟩
  cases hb : mapOkB vs
  · have HE : Hid (joinB us vs = []) := joinB_not (.inr hb)
    go_enter Try.func26, Try.ntmps26
    go_wp2_with fail
    refine (implMapOk_is true a n cap us ha _ HN.out hn1 HX.out HI.out).mono ?_
    rintro e w1 ⟨rfl, hb1⟩
    have HB1 := Lib.hid hb1
    clear hb1
    go_wp2_with fail
    refine (implMapOk_is false b m cap' vs hb _ HM.out hm1 HY.out (HJ.out.below HB1.out)).mono ?_
    rintro e w2 ⟨rfl, hb2⟩
    have HB2 : Hid (Below w.heap.size w w2) := below_step HB1.out HB1.out.size hb2
    clear hb2
    go_wp2
    go_ret
    exact ⟨_, [], rfl, HE.out.symm, rowG_nil _ _, HB2.out⟩
  have HE : Hid (toldM (vs.foldl regPut (us.foldl regPut (fun _ => none))) = joinB us vs) := joinB_told ha hb
  have HKA : Hid (∀ i, i < us.length → 0 ≤ (us.getD i wz).k ∧ (us.getD i wz).k ≤ 5) := mapOk_keys' ha
  have HKB : Hid (∀ i, i < vs.length → 0 ≤ (vs.getD i wz).k ∧ (vs.getD i wz).k ≤ 5) := mapOk_keys' hb
  have hmm := @run_makeMap Try.prog
  go_enter Try.func26, Try.ntmps26
  go_wp2_with fail
  refine (implMapOk_is true a n cap us ha _ HN.out hn1 HX.out HI.out).mono ?_
  rintro e w1 ⟨rfl, hb1⟩
  have HB1 := Lib.hid hb1
  clear hb1
  go_wp2_with fail
  refine (implMapOk_is true b m cap' vs hb _ HM.out hm1 HY.out (HJ.out.below HB1.out)).mono ?_
  rintro e w2 ⟨rfl, hb2⟩
  have HB2 : Hid (Below w.heap.size w w2) := below_step HB1.out HB1.out.size hb2
  clear hb2 HB1
  go_wp2_with fail
  clear hmm
  have HB3 : Hid (Below w.heap.size w (w2.alloc (.map #[] 0))) := HB2.out.alloc HB2.out.size _
  refine (putAll_any w w2.heap.size 0 (fun _ => none) a n cap us _ HN.out hn1 (by omega) HX.out HKA.out HI.out HB3.out HB2.out.size ⟨_, regs_made w2, fun k => ⟨fun _ => rfl, fun x h => by cases h⟩⟩).mono ?_
  rintro e w4 ⟨rfl, hr4, hb4⟩
  have HR4 := Lib.hid hr4
  have HB4 := Lib.hid hb4
  clear hr4 hb4
  go_wp2_with fail
  refine (putAll_any w w2.heap.size (0 + n) _ b m cap' vs _ HM.out hm1 (by omega) HY.out HKB.out HJ.out HB4.out HB2.out.size HR4.out).mono ?_
  rintro e w5 ⟨rfl, hr5, hb5⟩
  have HR5 := Lib.hid hr5
  have HB5 := Lib.hid hb5
  clear hr5 hb5
  go_wp2_with fail
  refine (told_any w w2.heap.size _ _ _ HB5.out HR5.out).mono ?_
  rintro e w6 ⟨v, es, rfl, hes, hrow, hb6⟩
  have HES : Hid (es.map (·.x) = joinB us vs) := hes.trans HE.out
  have HRW := Lib.hid (hrow.mono HB5.out.size)
  have HB6 : Hid (Below w.heap.size w w6) := below_step HB5.out HB5.out.size hb6
  clear hes hrow hb6
  go_wp2
  go_ret
  exact ⟨v, es, rfl, HES.out, HRW.out, HB6.out⟩

set_option maxRecDepth 100000 in
theorem mapOk_one (x : Wr) : mapOkB [x] = okW x := by
  simp [mapOkB, wrGood, List.range, List.range.loop]

set_option maxRecDepth 100000 in
theorem joinB_one (ws : List Wr) (x : Wr) : joinB ws [x] = if mapOkB ws = true ∧ okW x = true then putW ws x else [] := by
  unfold joinB
  rw [mapOk_one]
  rfl

set_option maxRecDepth 100000 in
set_option maxHeartbeats 2000000 in
theorem implMapPut_any (a ad : Option Addr) (n cap cp : Nat) (ws : List Wr) (x : Wr) (w : World) (hn : ws.length = n) (hn1 : n ≤ 1048576) (hx : Few ws) (hxl : x.xs.length ≤ 1048576) (hi : IsWs w a ws) (hd : IsDeps w ad x.xs) :
    Calls Try.prog 23 #[.slice a n cap, wrOf x ad cp] w fun e w' => ∃ v es, e = .returned v ∧ es.map (·.x) = joinB ws [x] ∧ RowG w' w.heap.size v es ∧ Below w.heap.size w w' := by
  obtain ⟨xk, xc, xs', xq, xv, xd, xx⟩ := x
  simp only at hxl hd
  have HB : Hid (Below w.heap.size w ((w.alloc (.cells #[.int .i64 xk, .int .i64 xc, .int .i64 xs', .int .i64 xq, .int .i64 xv, .bool xd, .slice ad xx.length cp] 33)).alloc (.cells #[.int .i64 xk, .int .i64 xc, .int .i64 xs', .int .i64 xq, .int .i64 xv, .bool xd, .slice ad xx.length cp] 33))) :=
    ((Below.refl _ _).alloc (Nat.le_refl _) _).alloc (by simp) _
  have HI := Lib.hid (hi.below HB.out)
  have HD := Lib.hid (hd.below HB.out)
  have HN : Hid (ws.length = n) := hn
  have HX : Hid (Few ws) := hx
  have HJ : Hid (IsWs ((w.alloc (.cells #[.int .i64 xk, .int .i64 xc, .int .i64 xs', .int .i64 xq, .int .i64 xv, .bool xd, .slice ad xx.length cp] 33)).alloc (.cells #[.int .i64 xk, .int .i64 xc, .int .i64 xs', .int .i64 xq, .int .i64 xv, .bool xd, .slice ad xx.length cp] 33)) (some ⟨w.heap.size + 1, 0, none⟩) [⟨xk, xc, xs', xq, xv, xd, xx⟩]) := by
    refine .inr ⟨w.heap.size + 1, 0, rfl, by simp, fun i hi => ?_⟩
    have h0 : i = 0 := by simpa using hi
    subst h0
    refine ⟨ad, cp, ?_, by have : xx.length ≤ maxLen := by unfold maxLen; omega
                           exact this, HD.out⟩
    have hc : ∀ j v, (#[Value.int .i64 xk, .int .i64 xc, .int .i64 xs', .int .i64 xq, .int .i64 xv, .bool xd, .slice ad xx.length cp] : Array Value)[j]? = some v → ((w.alloc (.cells #[.int .i64 xk, .int .i64 xc, .int .i64 xs', .int .i64 xq, .int .i64 xv, .bool xd, .slice ad xx.length cp] 33)).alloc (.cells #[.int .i64 xk, .int .i64 xc, .int .i64 xs', .int .i64 xq, .int .i64 xv, .bool xd, .slice ad xx.length cp] 33)).cell? ⟨w.heap.size + 1, j, none⟩ = some v := fun j v hv => by
      rw [cell_of_row _ _ j _ _ (0, 0) (heap_one w _ _).2]
      exact hv
    exact ⟨hc 0 _ rfl, hc 1 _ rfl, hc 2 _ rfl, hc 3 _ rfl, hc 4 _ rfl, hc 5 _ rfl, hc 6 _ rfl⟩
  have HF : Hid (Few [⟨xk, xc, xs', xq, xv, xd, xx⟩]) := fun i hi => by
    have h0 : i = 0 := by simpa using hi
    subst h0
    exact hxl
  clear hi hd hn hx
  go_enter Try.func23, Try.ntmps23
  go_wp2_with fail
  refine (implMapJoin_any a _ n 1 cap _ ws [⟨xk, xc, xs', xq, xv, xd, xx⟩] _ HN.out rfl hn1 (by omega) HX.out HF.out HI.out HJ.out).mono ?_
  rintro e w6 ⟨v, es, rfl, hes, hrow, hb6⟩
  have HES := Lib.hid hes
  have HRW := Lib.hid (hrow.mono HB.out.size)
  have HB6 : Hid (Below w.heap.size w w6) := below_step HB.out HB.out.size hb6
  clear hes hrow hb6
  go_wp2
  go_ret
  exact ⟨v, es, rfl, HES.out, HRW.out, HB6.out⟩

end Go.Proofs.Ytidpcjcnhklmpai

/- Contracts of the specification's MapJoin and MapPut. -/
namespace Go.Proofs.Ytidpcjcnhklmpai
open Go.ChangeShapes Go.WideShapes Go.ChangeAt Go.RowKit Go.Joins
attribute [local go_sem ↓] Go.wp_at_zero Go.wp_at_succ

theorem specMapOk_is (r : Bool) (a : Option Addr) (n cap : Nat) (ws : List Wr) (h : mapOkB ws = r) (w : World) (hn : ws.length = n) (hm : n ≤ 1048576) (hx : Few ws) (hh : IsWs w a ws) :
    Calls Try.prog 10 #[.slice a n cap] w fun e w' => e = .returned (.bool r) ∧ Below w.heap.size w w' := by
  subst h
  exact specMapOk_gen a n cap ws w hn hm hx hh

/-- What the specification answers: a list of writes of its own. -/
def AnsS (w w' : World) (e : Ending) (ws : List Wr) : Prop := ∃ g cp es L, e = .returned (.slice (some ⟨g, 0, none⟩) L cp) ∧ es.length = L ∧ es.map (·.x) = ws ∧ RowEs w' w.heap.size g cp es ∧ Below w.heap.size w w'

set_option maxHeartbeats 4000000 in
theorem specMapJoin_gen (a b : Option Addr) (n m cap cap' : Nat) (us vs : List Wr) (w : World) (hn : us.length = n) (hm : vs.length = m) (hs : n + m ≤ 1048576) (hx : Few us) (hy : Few vs) (hi : IsWs w a us) (hj : IsWs w b vs) :
    Calls Try.prog 25 #[.slice a n cap, .slice b m cap'] w fun e w' => AnsS w w' e (joinB us vs) := by
  have HI : Hid (IsWs w a us) := hi
  have HJ : Hid (IsWs w b vs) := hj
  have HN : Hid (us.length = n) := hn
  have HM : Hid (vs.length = m) := hm
  have HX : Hid (Few us) := hx
  have HY : Hid (Few vs) := hy
  clear hi hj hn hm hx hy
  cases ha : mapOkB us
  · have HE : Hid (joinB us vs = []) := joinB_not (.inl ha)
    go_enter Try.func25, Try.ntmps25
    go_wp2_with fail
    refine (specMapOk_is false a n cap us ha _ HN.out (by omega) HX.out HI.out).mono ?_
    rintro e w1 ⟨rfl, hb⟩
    have HB1 := Lib.hid hb
    clear hb
    go_wp2
    go_ret
    exact ⟨_, _, [], 0, rfl, rfl, HE.out.symm, rowEs_start _ _ HB1.out.size, HB1.out.alloc HB1.out.size _⟩
  cases hb : mapOkB vs
  · have HE : Hid (joinB us vs = []) := joinB_not (.inr hb)
    go_enter Try.func25, Try.ntmps25
    go_wp2_with fail
    refine (specMapOk_is true a n cap us ha _ HN.out (by omega) HX.out HI.out).mono ?_
    rintro e w1 ⟨rfl, hb1⟩
    have HB1 := Lib.hid hb1
    clear hb1
    go_wp2_with fail
    refine (specMapOk_is false b m cap' vs hb _ HM.out (by omega) HY.out (HJ.out.below HB1.out)).mono ?_
    rintro e w2 ⟨rfl, hb2⟩
    have HB2 : Hid (Below w.heap.size w w2) := below_step HB1.out HB1.out.size hb2
    clear hb2
    go_wp2
    go_ret
    exact ⟨_, _, [], 0, rfl, rfl, HE.out.symm, rowEs_start _ _ HB2.out.size, HB2.out.alloc HB2.out.size _⟩
  have HE : Hid (joinW us vs = joinB us vs) := by
    unfold joinB
    rw [if_pos ⟨ha, hb⟩]
    exact Lib.hid rfl
  go_enter Try.func25, Try.ntmps25
  go_wp2_with fail
  refine (specMapOk_is true a n cap us ha _ HN.out (by omega) HX.out HI.out).mono ?_
  rintro e w1 ⟨rfl, hb1⟩
  have HB1 := Lib.hid hb1
  clear hb1
  go_wp2_with fail
  refine (specMapOk_is true b m cap' vs hb _ HM.out (by omega) HY.out (HJ.out.below HB1.out)).mono ?_
  rintro e w2 ⟨rfl, hb2⟩
  have HB2 : Hid (Below w.heap.size w w2) := below_step HB1.out HB1.out.size hb2
  clear hb2 HB1
  go_wp2_with fail
  refine (l02Join_gen a b n m cap cap' us vs _ HN.out HM.out hs HX.out HY.out (HI.out.below HB2.out) (HJ.out.below HB2.out)).mono ?_
  rintro e w3 ⟨g, cp, es, L, rfl, hl, hes, hrow, hb3⟩
  have HL := Lib.hid hl
  have HES : Hid (es.map (·.x) = joinB us vs) := hes.trans HE.out
  have HRW := Lib.hid (hrow.mono HB2.out.size)
  have HB3 : Hid (Below w.heap.size w w3) := below_step HB2.out HB2.out.size hb3
  clear hl hes hrow hb3
  go_wp2
  go_ret
  exact ⟨g, cp, es, L, rfl, HL.out, HES.out, HRW.out, HB3.out⟩

theorem specMapJoin_any (b c n m cap cap' : Nat) (us vs : List Wr) (γ δ : Nat → Nat) (w : World) (hn : us.length = n) (hm : vs.length = m) (hs : n + m ≤ 1048576) (hx : Few us) (hy : Few vs) (hi : HoldsWs w b us γ) (hj : HoldsWs w c vs δ) :
    Calls Try.prog 25 #[.slice (some ⟨b, 0, none⟩) n cap, .slice (some ⟨c, 0, none⟩) m cap'] w fun e w' => AnsS w w' e (joinB us vs) :=
  specMapJoin_gen _ _ n m cap cap' us vs w hn hm hs hx hy (hi.isWs hx) (hj.isWs hy)

theorem specWriteOk_is (x : Wr) (r : Bool) (h : okW x = r) (a : Option Addr) (cap : Nat) (w : World) (hn : x.xs.length ≤ 1048576) (hh : IsDeps w a x.xs) :
    Calls Try.prog 32 #[wrOf x a cap] w fun e w' => e = .returned (.bool r) ∧ Below w.heap.size w w' := by
  subst h
  exact specWriteOk_gen _ _ _ _ _ _ a x.xs _ cap w rfl hn hh

set_option maxHeartbeats 4000000 in
theorem specMapPut_gen (a ax : Option Addr) (n cap cx : Nat) (us : List Wr) (x : Wr) (w : World) (hn : us.length = n) (hs : n ≤ 1048576) (hx : Few us) (hxl : x.xs.length ≤ 1048576) (hi : IsWs w a us) (hd : IsDeps w ax x.xs) :
    Calls Try.prog 21 #[.slice a n cap, wrOf x ax cx] w fun e w' => AnsS w w' e (joinB us [x]) := by
  obtain ⟨xk, xc, xs', xq, xv, xd, xx⟩ := x
  simp only at hxl hd
  have HB0 : Hid (Below w.heap.size w (w.alloc (.cells #[.int .i64 xk, .int .i64 xc, .int .i64 xs', .int .i64 xq, .int .i64 xv, .bool xd, .slice ax xx.length cx] 33))) := (Below.refl _ _).alloc (Nat.le_refl _) _
  have HI : Hid (IsWs w a us) := hi
  have HN : Hid (us.length = n) := hn
  have HX : Hid (Few us) := hx
  have HD : Hid (IsDeps w ax xx) := hd
  clear hi hn hx hd
  cases ha : mapOkB us
  · have HE : Hid (joinB us [⟨xk, xc, xs', xq, xv, xd, xx⟩] = []) := joinB_not (.inl ha)
    go_enter Try.func21, Try.ntmps21
    go_wp2_with fail
    refine (specMapOk_is false a n cap us ha _ HN.out (by omega) HX.out (HI.out.below HB0.out)).mono ?_
    rintro e w1 ⟨rfl, hb⟩
    have HB1 := Lib.hid (below_step HB0.out HB0.out.size hb)
    clear hb
    go_wp2
    go_ret
    exact ⟨_, _, [], 0, rfl, rfl, HE.out.symm, rowEs_start _ _ HB1.out.size, HB1.out.alloc HB1.out.size _⟩
  cases hb : okW ⟨xk, xc, xs', xq, xv, xd, xx⟩
  · have HE : Hid (joinB us [⟨xk, xc, xs', xq, xv, xd, xx⟩] = []) := joinB_not (.inr (by rw [mapOk_one]; exact hb))
    go_enter Try.func21, Try.ntmps21
    go_wp2_with fail
    refine (specMapOk_is true a n cap us ha _ HN.out (by omega) HX.out (HI.out.below HB0.out)).mono ?_
    rintro e w1 ⟨rfl, hb1⟩
    have HX1 := Lib.hid (BoxIn.start hb1)
    have b0 := HX1.out.c0
    have b1 := HX1.out.c1
    have b2 := HX1.out.c2
    have b3 := HX1.out.c3
    have b4 := HX1.out.c4
    have b5 := HX1.out.c5
    have b6 := HX1.out.c6
    clear hb1
    go_wp2_with fail
    refine (specWriteOk_is ⟨xk, xc, xs', xq, xv, xd, xx⟩ false hb _ cx _ hxl (HD.out.below HX1.out.below)).mono ?_
    rintro e w2 ⟨rfl, hb2⟩
    have HB2 : Hid (Below w.heap.size w w2) := below_step HX1.out.below HX1.out.below.size hb2
    clear hb2
    go_wp2
    go_ret
    exact ⟨_, _, [], 0, rfl, rfl, HE.out.symm, rowEs_start _ _ HB2.out.size, HB2.out.alloc HB2.out.size _⟩
  have HE : Hid (putW us ⟨xk, xc, xs', xq, xv, xd, xx⟩ = joinB us [⟨xk, xc, xs', xq, xv, xd, xx⟩]) := by
    rw [joinB_one, if_pos ⟨ha, hb⟩]
    exact Lib.hid rfl
  go_enter Try.func21, Try.ntmps21
  go_wp2_with fail
  refine (specMapOk_is true a n cap us ha _ HN.out (by omega) HX.out (HI.out.below HB0.out)).mono ?_
  rintro e w1 ⟨rfl, hb1⟩
  have HX1 := Lib.hid (BoxIn.start hb1)
  have b0 := HX1.out.c0
  have b1 := HX1.out.c1
  have b2 := HX1.out.c2
  have b3 := HX1.out.c3
  have b4 := HX1.out.c4
  have b5 := HX1.out.c5
  have b6 := HX1.out.c6
  clear hb1
  go_wp2_with fail
  refine (specWriteOk_is ⟨xk, xc, xs', xq, xv, xd, xx⟩ true hb _ cx _ hxl (HD.out.below HX1.out.below)).mono ?_
  rintro e w2 ⟨rfl, hb2⟩
  have HX2 := Lib.hid (HX1.out.step hb2)
  clear hb2 b0 b1 b2 b3 b4 b5 b6 HX1
  have b0 := HX2.out.c0
  have b1 := HX2.out.c1
  have b2 := HX2.out.c2
  have b3 := HX2.out.c3
  have b4 := HX2.out.c4
  have b5 := HX2.out.c5
  have b6 := HX2.out.c6
  go_wp2_with fail
  refine (put_gen a n cap us ⟨xk, xc, xs', xq, xv, xd, xx⟩ ax cx _ HN.out hs HX.out (HI.out.below HX2.out.below) hxl (HD.out.below HX2.out.below)).mono ?_
  rintro e w3 ⟨g, cp, es, L, rfl, hl, hes, hrow, hb3⟩
  have HL := Lib.hid hl
  have HES : Hid (es.map (·.x) = joinB us [⟨xk, xc, xs', xq, xv, xd, xx⟩]) := hes.trans HE.out
  have HRW := Lib.hid (hrow.mono (Nat.le_trans HX2.out.below.size (Nat.le_succ _)))
  have HB3 : Hid (Below w.heap.size w w3) := below_step HX2.out.below HX2.out.below.size hb3
  clear hl hes hrow hb3
  go_wp2
  go_ret
  exact ⟨g, cp, es, L, rfl, HL.out, HES.out, HRW.out, HB3.out⟩

theorem specMapPut_any (b n cap gx cx : Nat) (us : List Wr) (x : Wr) (γ : Nat → Nat) (w : World) (hn : us.length = n) (hs : n ≤ 1048576) (hx : Few us) (hxl : x.xs.length ≤ 1048576) (hi : HoldsWs w b us γ) (hgx : gx < w.heap.size) (hd : HoldsDeps w gx 0 x.xs) :
    Calls Try.prog 21 #[.slice (some ⟨b, 0, none⟩) n cap, wrOf x (some ⟨gx, 0, none⟩) cx] w fun e w' => AnsS w w' e (joinB us [x]) :=
  specMapPut_gen _ _ n cap cx us x w hn hs hx hxl (hi.isWs hx) (.inr ⟨gx, 0, rfl, hgx, hd⟩)

end Go.Proofs.Ytidpcjcnhklmpai

/- How much a join is. -/
namespace Go.Proofs.Ytidpcjcnhklmpai
open Go.ChangeShapes Go.WideShapes Go.ChangeAt Go.RowKit Go.Joins

theorem joinB_ok (us vs : List Wr) : ∀ x ∈ joinB us vs, okW x = true := by
  intro x hx
  unfold joinB at hx
  split at hx
  · rename_i h
    obtain ⟨_, h2, _⟩ := join_spec vs us ((mapOk_iff us).1 h.1).2
    rcases h2 x hx with h3 | h3
    · exact ((mapOk_iff us).1 h.1).1 x h3
    · exact ((mapOk_iff vs).1 h.2).1 x h3
  · simp at hx

theorem joinB_rise (us vs : List Wr) : Rise (joinB us vs) := by
  unfold joinB
  split
  · rename_i h
    exact (join_spec vs us ((mapOk_iff us).1 h.1).2).1
  · exact List.Pairwise.nil

theorem joinB_mapOk (us vs : List Wr) : mapOkB (joinB us vs) = true := (mapOk_iff _).2 ⟨joinB_ok us vs, joinB_rise us vs⟩

theorem mapOk_len {ws : List Wr} (h : mapOkB ws = true) : ws.length ≤ 6 := by
  have e := told_find ((mapOk_iff ws).1 h).2 (mapOk_keys h)
  rw [← e, ← toldTo_six]
  exact toldTo_len _ 6

theorem mapOk_bulk {ws : List Wr} (h : mapOkB ws = true) : bulk ws ≤ 36 := by
  have h1 := bulk_le (m := 6) fun x hx => okW_len (((mapOk_iff ws).1 h).1 x hx)
  have h2 := mapOk_len h
  omega

theorem joinB_bulk (us vs : List Wr) : bulk (joinB us vs) ≤ 36 := mapOk_bulk (joinB_mapOk us vs)

theorem joinB_len (us vs : List Wr) : (joinB us vs).length ≤ 6 := mapOk_len (joinB_mapOk us vs)

theorem joinB_few (us vs : List Wr) : Few (joinB us vs) := few_of_bulk (by have := joinB_bulk us vs; omega)

/-- The specification's answer, as a list. -/
theorem RowEs.isWs {w : World} {base g cap : Nat} {es : List En} (h : RowEs w base g cap es) {ws : List Wr} (hw : es.map (·.x) = ws) (hx : Few ws) : IsWs w (some ⟨g, 0, none⟩) ws := (h.holds hw).isWs hx

end Go.Proofs.Ytidpcjcnhklmpai

/- Contracts of Within of both sides. -/
namespace Go.Proofs.Ytidpcjcnhklmpai
open Go.ChangeShapes Go.WideShapes Go.ChangeAt Go.RowKit Go.Joins
attribute [local go_sem ↓] Go.wp_at_zero Go.wp_at_succ

/-- Two lists of writes are the same. -/
def sameB (us vs : List Wr) : Bool := decide (us.length = vs.length) && (List.range us.length).all fun i => decide (cmpW (us.getD i wz) (vs.getD i wz) = 0)

theorem same_len {us vs : List Wr} (h : us.length ≠ vs.length) : sameB us vs = false := by
  unfold sameB
  rw [decide_eq_false h, Bool.false_and]

theorem same_false {us vs : List Wr} {i : Nat} (hi : i < us.length) (h : cmpW (us.getD i wz) (vs.getD i wz) ≠ 0) : sameB us vs = false := by
  unfold sameB
  rw [Bool.and_eq_false_iff]
  refine .inr ?_
  rw [List.all_eq_false]
  exact ⟨i, List.mem_range.2 hi, by simpa using h⟩

theorem same_true {us vs : List Wr} (hl : us.length = vs.length) (h : ∀ i, i < us.length → cmpW (us.getD i wz) (vs.getD i wz) = 0) : sameB us vs = true := by
  unfold sameB
  rw [decide_eq_true hl, Bool.true_and, List.all_eq_true]
  intro i hi
  exact decide_eq_true (h i (List.mem_range.1 hi))

set_option maxHeartbeats 1000000 in
theorem sameWrite_any (x y : Wr) (a a' : Option Addr) (cp cp' : Nat) (w : World) (hn : x.xs.length ≤ 1048576) (hm : y.xs.length ≤ 1048576) (hh : IsDeps w a x.xs) (hh' : IsDeps w a' y.xs) :
    Calls Try.prog 51 #[wrOf x a cp, wrOf y a' cp'] w fun e w' => e = .returned (.bool (cmpW x y == 0)) ∧ Below w.heap.size w w' := by
  obtain ⟨xk, xc, xs', xq, xv, xd, xx⟩ := x
  obtain ⟨yk, yc, ys, yq, yv, yd, yy⟩ := y
  have HB : Hid (Below w.heap.size w ((w.alloc (.cells #[.int .i64 xk, .int .i64 xc, .int .i64 xs', .int .i64 xq, .int .i64 xv, .bool xd, .slice a xx.length cp] 33)).alloc (.cells #[.int .i64 yk, .int .i64 yc, .int .i64 ys, .int .i64 yq, .int .i64 yv, .bool yd, .slice a' yy.length cp'] 33))) := ((Below.refl _ _).alloc (Nat.le_refl _) _).alloc (by simp) _
  have HI := Lib.hid (hh.below HB.out)
  have HJ := Lib.hid (hh'.below HB.out)
  clear hh hh'
  go_enter Try.func51, Try.ntmps51
  go_wp2_with fail
  refine (implWriteCmp_gen xk xc xs' xq xv xd a xx _ cp yk yc ys yq yv yd a' yy _ cp' _ rfl rfl hn hm HI.out HJ.out).mono ?_
  rintro e w1 ⟨rfl, hb⟩
  have HB1 := Lib.hid (below_step HB.out HB.out.size hb)
  clear hb
  go_wp2
  go_ret
  exact ⟨rfl, HB1.out⟩

set_option maxHeartbeats 4000000 in
theorem equalFunc_any (a b : Option Addr) (n m cap cap' : Nat) (us vs : List Wr) (w : World) (hn : us.length = n) (hm : vs.length = m) (hn1 : n ≤ 1048576) (hm1 : m ≤ 1048576) (hx : Few us) (hy : Few vs) (hi : IsWs w a us) (hj : IsWs w b vs) :
    Calls Try.prog 50 #[.slice a n cap, .slice b m cap', .func (.func 51) #[] #[]] w fun e w' => e = .returned (.bool (sameB us vs)) ∧ Below w.heap.size w w' := by
  have HI : Hid (IsWs w a us) := hi
  have HJ : Hid (IsWs w b vs) := hj
  have HN : Hid (us.length = n) := hn
  have HM : Hid (vs.length = m) := hm
  have HX : Hid (Few us) := hx
  have HY : Hid (Few vs) := hy
  clear hi hj hn hm hx hy
  by_cases hnm : n = m
  case neg =>
    have HF : Hid (sameB us vs = false) := same_len (by rw [HN.out, HM.out]; exact hnm)
    have hb : ((n : Int) != (m : Int)) = true := by rw [bne_iff_ne]; omega
    go_enter Try.func50, Try.ntmps50
    go_wp2
    go_ret
    exact ⟨ret_bool HF.out.symm, Below.refl _ _⟩
  subst hnm
  go_enter Try.func50, Try.ntmps50
  go_wp2
  go_loopw [17] (fun i wr => ∃ k : Nat, k ≤ n ∧ i = .int .i64 k ∧ Hid (∀ j, j < k → cmpW (us.getD j wz) (vs.getD j wz) = 0) ∧ Hid (Below w.heap.size w wr)) (fun i _ => n - (intOf i).toNat)
  case atStart => exact ⟨0, Nat.zero_le _, rfl, fun j hj => absurd hj (Nat.not_lt_zero j), Below.refl _ _⟩
  case round =>
    obtain ⟨k, hk, rfl, HK, HB⟩ := hrel
    by_cases hk' : k < n
    · obtain ⟨b1, o1, ad, cp, rfl, hz, ⟨e0, e1, e2, e3, e4, e5, e6⟩, hd⟩ := HI.out.at HB.out HN.out hk'
      obtain ⟨b2, o2, ad', cp', rfl, hz', ⟨f0, f1, f2, f3, f4, f5, f6⟩, hd'⟩ := HJ.out.at HB.out HM.out hk'
      have i1 : (0 : Int) ≤ (k : Int) := by omega
      have i2 : (k : Int) < (n : Int) := by omega
      have HS : Hid (∀ W, Below wr.heap.size wr W → Calls Try.prog 51 #[wrOf (us.getD k wz) ad cp, wrOf (vs.getD k wz) ad' cp'] W fun e w' => e = .returned (.bool (cmpW (us.getD k wz) (vs.getD k wz) == 0)) ∧ Below W.heap.size W w') := fun W hW =>
        sameWrite_any _ _ ad ad' cp cp' W (HX.out k (by rw [HN.out]; exact hk')) (HY.out k (by rw [HM.out]; exact hk')) (hd.below hW) (hd'.below hW)
      have HE : Hid (cmpW (us.getD k wz) (vs.getD k wz) ≠ 0 → sameB us vs = false) := fun h => same_false (by rw [HN.out]; exact hk') h
      have HK' : Hid (cmpW (us.getD k wz) (vs.getD k wz) = 0 → ∀ j, j < k + 1 → cmpW (us.getD j wz) (vs.getD j wz) = 0) := fun h j hj => by
        by_cases h' : j < k
        · exact HK.out j h'
        · have : j = k := by omega
          rw [this]
          exact h
      clear hd hd' HI HJ
      by_cases hc : cmpW (us.getD k wz) (vs.getD k wz) = 0
      · have HK2 := Lib.hid (HK'.out hc)
        have hcb : (cmpW (us.getD k wz) (vs.getD k wz) == 0) = true := by simpa using hc
        rw [hcb] at HS
        clear hc hcb HE HK'
        generalize us.getD k wz = x at *
        generalize vs.getD k wz = y at *
        obtain ⟨xk, xc, xs', xq, xv, xd, xx⟩ := x
        obtain ⟨yk, yc, ys, yq, yv, yd, yy⟩ := y
        simp only at e0 e1 e2 e3 e4 e5 e6 f0 f1 f2 f3 f4 f5 f6 HS
        go_wp2_with fail
        refine (HS.out _ (((Below.refl _ _).alloc (Nat.le_refl _) _).alloc (by simp) _)).mono ?_
        rintro e w2 ⟨rfl, hb⟩
        have HB2 : Hid (Below w.heap.size w w2) := below_step HB.out HB.out.size (below_step (((Below.refl _ _).alloc (Nat.le_refl _) _).alloc (by simp) _) (by simp; omega) hb)
        clear hb
        go_wp2
        exact ⟨⟨k + 1, by omega, by go_num, HK2, HB2⟩, by simp [intOf]; omega⟩
      · have HF := Lib.hid (HE.out hc)
        have hcb : (cmpW (us.getD k wz) (vs.getD k wz) == 0) = false := by simpa using hc
        rw [hcb] at HS
        clear hc hcb HE HK'
        generalize us.getD k wz = x at *
        generalize vs.getD k wz = y at *
        obtain ⟨xk, xc, xs', xq, xv, xd, xx⟩ := x
        obtain ⟨yk, yc, ys, yq, yv, yd, yy⟩ := y
        simp only at e0 e1 e2 e3 e4 e5 e6 f0 f1 f2 f3 f4 f5 f6 HS
        go_wp2_with fail
        refine (HS.out _ (((Below.refl _ _).alloc (Nat.le_refl _) _).alloc (by simp) _)).mono ?_
        rintro e w2 ⟨rfl, hb⟩
        have HB2 : Hid (Below w.heap.size w w2) := below_step HB.out HB.out.size (below_step (((Below.refl _ _).alloc (Nat.le_refl _) _).alloc (by simp) _) (by simp; omega) hb)
        clear hb
        go_wp2
        go_ret
        exact ⟨ret_bool HF.out.symm, HB2.out⟩
    · have hkk : k = n := by omega
      subst hkk
      have HF : Hid (sameB us vs = true) := same_true (by rw [HN.out, HM.out]) (fun i hi => HK.out i (by rw [← HN.out]; exact hi))
      go_wp2
      go_ret
      exact ⟨ret_bool HF.out.symm, HB.out⟩

def withinB (us vs : List Wr) : Bool := mapOkB us && (mapOkB vs && sameB (joinB us vs) vs)

set_option maxHeartbeats 4000000 in
theorem implWithin_any (a b : Option Addr) (n m cap cap' : Nat) (us vs : List Wr) (w : World) (hn : us.length = n) (hm : vs.length = m) (hn1 : n ≤ 1048576) (hm1 : m ≤ 1048576) (hx : Few us) (hy : Few vs) (hi : IsWs w a us) (hj : IsWs w b vs) :
    Calls Try.prog 31 #[.slice a n cap, .slice b m cap'] w fun e w' => e = .returned (.bool (withinB us vs)) ∧ Below w.heap.size w w' := by
  have HI : Hid (IsWs w a us) := hi
  have HJ : Hid (IsWs w b vs) := hj
  have HN : Hid (us.length = n) := hn
  have HM : Hid (vs.length = m) := hm
  have HX : Hid (Few us) := hx
  have HY : Hid (Few vs) := hy
  clear hi hj hn hm hx hy
  cases ha : mapOkB us
  · have HE : Hid (withinB us vs = false) := by unfold withinB; rw [ha, Bool.false_and]; exact Lib.hid rfl
    go_enter Try.func31, Try.ntmps31
    go_wp2_with fail
    refine (implMapOk_is false a n cap us ha _ HN.out hn1 HX.out HI.out).mono ?_
    rintro e w1 ⟨rfl, hb⟩
    have HB1 := Lib.hid hb
    clear hb
    go_wp2
    go_ret
    exact ⟨ret_bool HE.out.symm, HB1.out⟩
  cases hb : mapOkB vs
  · have HE : Hid (withinB us vs = false) := by unfold withinB; rw [hb, Bool.false_and, Bool.and_false]; exact Lib.hid rfl
    go_enter Try.func31, Try.ntmps31
    go_wp2_with fail
    refine (implMapOk_is true a n cap us ha _ HN.out hn1 HX.out HI.out).mono ?_
    rintro e w1 ⟨rfl, hb1⟩
    have HB1 := Lib.hid hb1
    clear hb1
    go_wp2_with fail
    refine (implMapOk_is false b m cap' vs hb _ HM.out hm1 HY.out (HJ.out.below HB1.out)).mono ?_
    rintro e w2 ⟨rfl, hb2⟩
    have HB2 : Hid (Below w.heap.size w w2) := below_step HB1.out HB1.out.size hb2
    clear hb2
    go_wp2
    go_ret
    exact ⟨ret_bool HE.out.symm, HB2.out⟩
  have HE : Hid (withinB us vs = sameB (joinB us vs) vs) := by unfold withinB; rw [ha, hb, Bool.true_and, Bool.true_and]; exact Lib.hid rfl
  have HJF := Lib.hid (joinB_few us vs)
  have HJL := Lib.hid (joinB_len us vs)
  go_enter Try.func31, Try.ntmps31
  go_wp2_with fail
  refine (implMapOk_is true a n cap us ha _ HN.out hn1 HX.out HI.out).mono ?_
  rintro e w1 ⟨rfl, hb1⟩
  have HB1 := Lib.hid hb1
  clear hb1
  go_wp2_with fail
  refine (implMapOk_is true b m cap' vs hb _ HM.out hm1 HY.out (HJ.out.below HB1.out)).mono ?_
  rintro e w2 ⟨rfl, hb2⟩
  have HB2 : Hid (Below w.heap.size w w2) := below_step HB1.out HB1.out.size hb2
  clear hb2 HB1
  go_wp2_with fail
  refine (implMapJoin_any a b n m cap cap' us vs _ HN.out HM.out hn1 hm1 HX.out HY.out (HI.out.below HB2.out) (HJ.out.below HB2.out)).mono ?_
  rintro e w3 ⟨v, es, rfl, hes, hrow, hb3⟩
  obtain ⟨ga, gc, L, rfl, hl, hg⟩ := hrow.ownA hes
  have HB3 : Hid (Below w.heap.size w w3) := below_step HB2.out HB2.out.size hb3
  have HG := Lib.hid (hg.isWs HJF.out)
  have HL := Lib.hid hl
  have hL6 : L ≤ 6 := by rw [← hl]; exact HJL.out
  clear hb3 hg hl hes hrow HB2
  go_wp2_with fail
  refine (equalFunc_any ga b L m gc cap' (joinB us vs) vs _ HL.out HM.out (by omega) hm1 HJF.out HY.out HG.out (HJ.out.below HB3.out)).mono ?_
  rintro e w4 ⟨rfl, hb4⟩
  have HB4 : Hid (Below w.heap.size w w4) := below_step HB3.out HB3.out.size hb4
  clear hb4
  rw [← HE.out]
  go_wp2
  go_ret
  exact ⟨rfl, HB4.out⟩

set_option maxHeartbeats 4000000 in
theorem l02Same_gen (a b : Option Addr) (n m cap cap' : Nat) (us vs : List Wr) (w : World) (hn : us.length = n) (hm : vs.length = m) (hn1 : n ≤ 1048576) (hm1 : m ≤ 1048576) (hx : Few us) (hy : Few vs) (hi : IsWs w a us) (hj : IsWs w b vs) :
    Calls Try.prog 49 #[.slice a n cap, .slice b m cap'] w fun e w' => e = .returned (.bool (sameB us vs)) ∧ Below w.heap.size w w' := by
  have HI : Hid (IsWs w a us) := hi
  have HJ : Hid (IsWs w b vs) := hj
  have HN : Hid (us.length = n) := hn
  have HM : Hid (vs.length = m) := hm
  have HX : Hid (Few us) := hx
  have HY : Hid (Few vs) := hy
  clear hi hj hn hm hx hy
  by_cases hnm : n = m
  case neg =>
    have HF : Hid (sameB us vs = false) := same_len (by rw [HN.out, HM.out]; exact hnm)
    have hb : ((n : Int) != (m : Int)) = true := by rw [bne_iff_ne]; omega
    go_enter Try.func49, Try.ntmps49
    go_wp2
    go_ret
    exact ⟨ret_bool HF.out.symm, Below.refl _ _⟩
  subst hnm
  go_enter Try.func49, Try.ntmps49
  go_wp2
  go_loopw [5] (fun i wr => ∃ k : Nat, k ≤ n ∧ i = .int .i64 k ∧ Hid (∀ j, j < k → cmpW (us.getD j wz) (vs.getD j wz) = 0) ∧ Hid (Below w.heap.size w wr)) (fun i _ => n - (intOf i).toNat)
  case atStart => exact ⟨0, Nat.zero_le _, rfl, fun j hj => absurd hj (Nat.not_lt_zero j), Below.refl _ _⟩
  case round =>
    obtain ⟨k, hk, rfl, HK, HB⟩ := hrel
    by_cases hk' : k < n
    · obtain ⟨b1, o1, ad, cp, rfl, hz, ⟨e0, e1, e2, e3, e4, e5, e6⟩, hd⟩ := HI.out.at HB.out HN.out hk'
      obtain ⟨b2, o2, ad', cp', rfl, hz', ⟨f0, f1, f2, f3, f4, f5, f6⟩, hd'⟩ := HJ.out.at HB.out HM.out hk'
      have i1 : (0 : Int) ≤ (k : Int) := by omega
      have i2 : (k : Int) < (n : Int) := by omega
      have HC : Hid (∀ p : Aft wr.heap.size wr, Calls Try.prog 64 #[wrOf (us.getD k wz) ad cp, wrOf (vs.getD k wz) ad' cp'] p.now fun e w' => e = .returned (.int .i64 (cmpW (us.getD k wz) (vs.getD k wz))) ∧ Below p.now.heap.size p.now w') := fun p =>
        specWriteCmp_gen _ _ _ _ _ _ _ (us.getD k wz).xs _ _ _ _ _ _ _ _ _ (vs.getD k wz).xs _ _ _ rfl rfl (HX.out k (by rw [HN.out]; exact hk')) (HY.out k (by rw [HM.out]; exact hk')) (hd.below p.below) (hd'.below p.below)
      have HE : Hid (cmpW (us.getD k wz) (vs.getD k wz) ≠ 0 → sameB us vs = false) := fun h => same_false (by rw [HN.out]; exact hk') h
      have HK' : Hid (cmpW (us.getD k wz) (vs.getD k wz) = 0 → ∀ j, j < k + 1 → cmpW (us.getD j wz) (vs.getD j wz) = 0) := fun h j hj => by
        by_cases h' : j < k
        · exact HK.out j h'
        · have : j = k := by omega
          rw [this]
          exact h
      clear hd hd' HI HJ
      by_cases hc : cmpW (us.getD k wz) (vs.getD k wz) = 0
      · have HK2 := Lib.hid (HK'.out hc)
        rw [hc] at HC
        clear hc HE HK'
        generalize us.getD k wz = x at *
        generalize vs.getD k wz = y at *
        obtain ⟨xk, xc, xs', xq, xv, xd, xx⟩ := x
        obtain ⟨yk, yc, ys, yq, yv, yd, yy⟩ := y
        simp only at e0 e1 e2 e3 e4 e5 e6 f0 f1 f2 f3 f4 f5 f6 HC
        go_wp2_with fail
        have ge0 := aft_cell hz e0
        have ge1 := aft_cell hz e1
        have ge2 := aft_cell hz e2
        have ge3 := aft_cell hz e3
        have ge4 := aft_cell hz e4
        have ge5 := aft_cell hz e5
        have ge6 := aft_cell hz e6
        have gf0 := aft_cell hz' f0
        have gf1 := aft_cell hz' f1
        have gf2 := aft_cell hz' f2
        have gf3 := aft_cell hz' f3
        have gf4 := aft_cell hz' f4
        have gf5 := aft_cell hz' f5
        have gf6 := aft_cell hz' f6
        have ne := aft_some wr
        refine wp_region_aft (by kernel_rfl) (by kernel_rfl) ?_
        repeat (first | go_big_quiet_step (first | (go_at_call 64; exact aft_of (HC.out _))))
        refine wpQuiet_nil ?_
        intro wq hq
        have HBQ : Hid (Below w.heap.size w wq) := below_step HB.out HB.out.size hq
        clear hq
        go_wp2
        exact ⟨⟨k + 1, by omega, by go_num, HK2, HBQ⟩, by simp [intOf]; omega⟩
      · have HF := Lib.hid (HE.out hc)
        have hcb : (cmpW (us.getD k wz) (vs.getD k wz) != 0) = true := by rw [bne_iff_ne]; exact hc
        clear hc HE HK'
        generalize cmpW (us.getD k wz) (vs.getD k wz) = z at *
        generalize us.getD k wz = x at *
        generalize vs.getD k wz = y at *
        obtain ⟨xk, xc, xs', xq, xv, xd, xx⟩ := x
        obtain ⟨yk, yc, ys, yq, yv, yd, yy⟩ := y
        simp only at e0 e1 e2 e3 e4 e5 e6 f0 f1 f2 f3 f4 f5 f6 HC
        go_wp2_with fail
        have ge0 := aft_cell hz e0
        have ge1 := aft_cell hz e1
        have ge2 := aft_cell hz e2
        have ge3 := aft_cell hz e3
        have ge4 := aft_cell hz e4
        have ge5 := aft_cell hz e5
        have ge6 := aft_cell hz e6
        have gf0 := aft_cell hz' f0
        have gf1 := aft_cell hz' f1
        have gf2 := aft_cell hz' f2
        have gf3 := aft_cell hz' f3
        have gf4 := aft_cell hz' f4
        have gf5 := aft_cell hz' f5
        have gf6 := aft_cell hz' f6
        have ne := aft_some wr
        refine wp_region_aft (by kernel_rfl) (by kernel_rfl) ?_
        repeat (first | go_big_quiet_step (first | (go_at_call 64; exact aft_of (HC.out _))))
        refine wpQuiet_nil ?_
        intro wq hq
        have HBQ : Hid (Below w.heap.size w wq) := below_step HB.out HB.out.size hq
        clear hq
        go_wp2
        go_ret
        exact ⟨ret_bool HF.out.symm, HBQ.out⟩
    · have hkk : k = n := by omega
      subst hkk
      have HF : Hid (sameB us vs = true) := same_true (by rw [HN.out, HM.out]) (fun i hi => HK.out i (by rw [← HN.out]; exact hi))
      go_wp2
      go_ret
      exact ⟨ret_bool HF.out.symm, HB.out⟩

theorem l02Same_any (b c n m cap cap' : Nat) (us vs : List Wr) (γ δ : Nat → Nat) (w : World) (hn : us.length = n) (hm : vs.length = m) (hn1 : n ≤ 1048576) (hm1 : m ≤ 1048576) (hx : Few us) (hy : Few vs) (hi : HoldsWs w b us γ) (hj : HoldsWs w c vs δ) :
    Calls Try.prog 49 #[.slice (some ⟨b, 0, none⟩) n cap, .slice (some ⟨c, 0, none⟩) m cap'] w fun e w' => e = .returned (.bool (sameB us vs)) ∧ Below w.heap.size w w' :=
  l02Same_gen _ _ n m cap cap' us vs w hn hm hn1 hm1 hx hy (hi.isWs hx) (hj.isWs hy)

set_option maxHeartbeats 4000000 in
theorem specWithin_gen (a b : Option Addr) (n m cap cap' : Nat) (us vs : List Wr) (w : World) (hn : us.length = n) (hm : vs.length = m) (hs : n + m ≤ 1048576) (hx : Few us) (hy : Few vs) (hi : IsWs w a us) (hj : IsWs w b vs) :
    Calls Try.prog 30 #[.slice a n cap, .slice b m cap'] w fun e w' => e = .returned (.bool (withinB us vs)) ∧ Below w.heap.size w w' := by
  have HI : Hid (IsWs w a us) := hi
  have HJ : Hid (IsWs w b vs) := hj
  have HN : Hid (us.length = n) := hn
  have HM : Hid (vs.length = m) := hm
  have HX : Hid (Few us) := hx
  have HY : Hid (Few vs) := hy
  clear hi hj hn hm hx hy
  cases ha : mapOkB us
  · have HE : Hid (withinB us vs = false) := by unfold withinB; rw [ha, Bool.false_and]; exact Lib.hid rfl
    go_enter Try.func30, Try.ntmps30
    go_wp2_with fail
    refine (specMapOk_is false a n cap us ha _ HN.out (by omega) HX.out HI.out).mono ?_
    rintro e w1 ⟨rfl, hb⟩
    have HB1 := Lib.hid hb
    clear hb
    go_wp2
    go_ret
    exact ⟨ret_bool HE.out.symm, HB1.out⟩
  cases hb : mapOkB vs
  · have HE : Hid (withinB us vs = false) := by unfold withinB; rw [hb, Bool.false_and, Bool.and_false]; exact Lib.hid rfl
    go_enter Try.func30, Try.ntmps30
    go_wp2_with fail
    refine (specMapOk_is true a n cap us ha _ HN.out (by omega) HX.out HI.out).mono ?_
    rintro e w1 ⟨rfl, hb1⟩
    have HB1 := Lib.hid hb1
    clear hb1
    go_wp2_with fail
    refine (specMapOk_is false b m cap' vs hb _ HM.out (by omega) HY.out (HJ.out.below HB1.out)).mono ?_
    rintro e w2 ⟨rfl, hb2⟩
    have HB2 : Hid (Below w.heap.size w w2) := below_step HB1.out HB1.out.size hb2
    clear hb2
    go_wp2
    go_ret
    exact ⟨ret_bool HE.out.symm, HB2.out⟩
  have HEJ : Hid (joinW us vs = joinB us vs) := by
    unfold joinB
    rw [if_pos ⟨ha, hb⟩]
    exact Lib.hid rfl
  have HE : Hid (withinB us vs = sameB (joinB us vs) vs) := by unfold withinB; rw [ha, hb, Bool.true_and, Bool.true_and]; exact Lib.hid rfl
  have HJF := Lib.hid (joinB_few us vs)
  have HJL := Lib.hid (joinB_len us vs)
  go_enter Try.func30, Try.ntmps30
  go_wp2_with fail
  refine (specMapOk_is true a n cap us ha _ HN.out (by omega) HX.out HI.out).mono ?_
  rintro e w1 ⟨rfl, hb1⟩
  have HB1 := Lib.hid hb1
  clear hb1
  go_wp2_with fail
  refine (specMapOk_is true b m cap' vs hb _ HM.out (by omega) HY.out (HJ.out.below HB1.out)).mono ?_
  rintro e w2 ⟨rfl, hb2⟩
  have HB2 : Hid (Below w.heap.size w w2) := below_step HB1.out HB1.out.size hb2
  clear hb2 HB1
  go_wp2_with fail
  refine (l02Join_gen a b n m cap cap' us vs _ HN.out HM.out hs HX.out HY.out (HI.out.below HB2.out) (HJ.out.below HB2.out)).mono ?_
  rintro e w3 ⟨g, cp, es, L, rfl, hl, hes, hrow, hb3⟩
  have HB3 : Hid (Below w.heap.size w w3) := below_step HB2.out HB2.out.size hb3
  have HES : Hid (es.map (·.x) = joinB us vs) := hes.trans HEJ.out
  have HL : Hid ((joinB us vs).length = L) := by
    rw [← HES.out, List.length_map]
    exact hl
  have HG := Lib.hid (hrow.holds HES.out)
  have hL6 : L ≤ 6 := by rw [← HL.out]; exact HJL.out
  clear hb3 hl hes hrow HB2
  go_wp2_with fail
  refine (l02Same_gen _ b L m cp cap' (joinB us vs) vs _ HL.out HM.out (by omega) (by omega) HJF.out HY.out (HG.out.isWs HJF.out) (HJ.out.below HB3.out)).mono ?_
  rintro e w4 ⟨rfl, hb4⟩
  have HB4 : Hid (Below w.heap.size w w4) := below_step HB3.out HB3.out.size hb4
  clear hb4
  rw [← HE.out]
  go_wp2
  go_ret
  exact ⟨rfl, HB4.out⟩

theorem specWithin_any (b c n m cap cap' : Nat) (us vs : List Wr) (γ δ : Nat → Nat) (w : World) (hn : us.length = n) (hm : vs.length = m) (hs : n + m ≤ 1048576) (hx : Few us) (hy : Few vs) (hi : HoldsWs w b us γ) (hj : HoldsWs w c vs δ) :
    Calls Try.prog 30 #[.slice (some ⟨b, 0, none⟩) n cap, .slice (some ⟨c, 0, none⟩) m cap'] w fun e w' => e = .returned (.bool (withinB us vs)) ∧ Below w.heap.size w w' :=
  specWithin_gen _ _ n m cap cap' us vs w hn hm hs hx hy (hi.isWs hx) (hj.isWs hy)

end Go.Proofs.Ytidpcjcnhklmpai

/- What comes in, opened: tags, dependencies, slices of them, writes. -/
namespace Go.Proofs.Ytidpcjcnhklmpai
open Go.ChangeShapes Go.WideShapes Go.ChangeAt Go.RowKit Go.Joins Go.Deep
set_option maxRecDepth 100000

theorem cellsInt : Try.prog.cellsOf 3 = 1 := by kernel_rfl

theorem cellsTag : Try.prog.cellsOf 40 = 3 := by kernel_rfl

theorem cellsDep : Try.prog.cellsOf 80 = 4 := by kernel_rfl

section
variable {H : Type} {enc : TypeId × Value → H} {w : World} {base : Nat} {spare : Nat → Bool} {held : Bool}

theorem tag_cells {fuel : Nat} {cs : List Value} {x : DataW H × List MemPlace} (h : DataW.trod enc Try.prog w base spare held fuel 40 cs = some x) : ∃ c s q : Int, cs = [.int .i64 c, .int .i64 s, .int .i64 q] := by
  obtain ⟨y0, y1, y2, n, _, hl, h0, h1, h2⟩ := trod_struct3 Try.underlying40 h
  rw [cellsTag] at hl
  match cs, hl with
  | [v0, v1, v2], _ =>
    obtain ⟨a0, e0, _, _⟩ := DataW.trod_int Try.underlying3 h0
    obtain ⟨a1, e1, _, _⟩ := DataW.trod_int Try.underlying3 h1
    obtain ⟨a2, e2, _, _⟩ := DataW.trod_int Try.underlying3 h2
    simp [cellsInt] at e0 e1 e2
    subst e0 e1 e2
    exact ⟨a0, a1, a2, rfl⟩

theorem dep_cells {fuel : Nat} {cs : List Value} {x : DataW H × List MemPlace} (h : DataW.trod enc Try.prog w base spare held fuel 80 cs = some x) : ∃ d : Dp, cs = [.int .i64 d.k, .int .i64 d.c, .int .i64 d.s, .int .i64 d.q] := by
  obtain ⟨y0, y1, n, _, hl, h0, h1⟩ := trod_struct2 Try.underlying80 h
  rw [cellsDep] at hl
  match cs, hl with
  | [v0, v1, v2, v3], _ =>
    obtain ⟨a0, e0, _, _⟩ := DataW.trod_int Try.underlying3 h0
    obtain ⟨c, s, q, e1⟩ := tag_cells h1
    simp [cellsInt] at e0
    simp [cellsTag] at e1
    obtain ⟨e1, e2, e3⟩ := e1
    subst e0 e1 e2 e3
    exact ⟨⟨a0, c, s, q⟩, rfl⟩

theorem add_form {a : Addr} {v : Value} (h : w.cell? a = some v) : a = ⟨a.block, a.off, none⟩ := by
  cases a with
  | mk b o s =>
    cases s with
    | none => rfl
    | some s =>
      simp only [World.cell?] at h
      split at h <;> simp at h

theorem add_plain (b o i : Nat) : (Addr.mk b o none).add i = ⟨b, o + i, none⟩ := by
  unfold Addr.add
  split
  · rename_i h
    rw [h]
    rfl
  · rfl

theorem deps_cells {fuel : Nat} {a : Option Addr} {len cap : Nat} {x : DataW H × List MemPlace} (h : DataW.trod enc Try.prog w base spare held fuel 41 [.slice a len cap] = some x) :
    ∃ xs : List Dp, xs.length = len ∧ len ≤ maxLen ∧ IsDeps w a xs := by
  rcases open_slice Try.underlying41 h with ⟨hcs, _⟩ | ⟨a', len', cap', m, n, D, Pl, hcs, _, hl, hm, hmm, _, hel⟩
  · simp at hcs
    obtain ⟨rfl, rfl, rfl⟩ := hcs
    exact ⟨[], rfl, Nat.zero_le _, .inl rfl⟩
  · simp at hcs
    obtain ⟨rfl, rfl, rfl⟩ := hcs
    have hml : len ≤ m := by rw [hmm]; split <;> omega
    have hd : ∀ i, i < len → ∃ d : Dp, w.cell? (a'.add (i * 4)) = some (.int .i64 d.k) ∧ w.cell? (a'.add (i * 4 + 1)) = some (.int .i64 d.c) ∧ w.cell? (a'.add (i * 4 + 2)) = some (.int .i64 d.s) ∧ w.cell? (a'.add (i * 4 + 3)) = some (.int .i64 d.q) := by
      intro i hi
      obtain ⟨cs', h1, h2⟩ := hel i (by omega)
      rw [cellsDep] at h1
      obtain ⟨_, _, hc⟩ := World.cells?_some h1
      obtain ⟨d, hdd⟩ := dep_cells h2
      rw [hdd] at hc
      have c0 := hc 0 (by omega)
      have c1 := hc 1 (by omega)
      have c2 := hc 2 (by omega)
      have c3 := hc 3 (by omega)
      rw [add_add] at c0 c1 c2 c3
      exact ⟨d, by simpa using c0, by simpa using c1, by simpa using c2, by simpa using c3⟩
    by_cases h0 : len = 0
    · subst h0
      exact ⟨[], rfl, Nat.zero_le _, .inl rfl⟩
    have : Inhabited Dp := ⟨dz⟩
    obtain ⟨f, hf⟩ := choose_lt hd
    have ha : a' = ⟨a'.block, a'.off, none⟩ := by
      have h1 := (hf 0 (by omega)).1
      simp [Addr.add] at h1
      exact add_form h1
    refine ⟨(List.range len).map f, by simp, by omega, .inr ⟨a'.block, a'.off, by rw [← ha], ?_, ?_⟩⟩
    · obtain ⟨cs', h1, _⟩ := hel 0 (by omega)
      rw [cellsDep] at h1
      have h2 := World.cells?_block h1 (by omega)
      simpa [Addr.add] using h2
    · intro i hi
      have hi' : i < len := by simpa using hi
      have hg : ((List.range len).map f).getD i dz = f i := by simp [List.getD, hi']
      rw [hg]
      obtain ⟨h1, h2, h3, h4⟩ := hf i hi'
      rw [ha] at h1 h2 h3 h4
      rw [add_plain] at h1 h2 h3 h4
      exact ⟨h1, h2, h3, h4⟩

theorem open_deps {b0 : Nat} {r : Reach} {v : Value} {d : DataW H} {p : List MemPlace} (hv : Value.okWide Try.prog w r b0 41 v) (h : DataW.Trod enc Try.prog w base (fun _ => true) held 41 v d p) :
    ∃ (a : Option Addr) (len cap : Nat) (xs : List Dp), v = .slice a len cap ∧ (xs.length = len ∧ len ≤ maxLen ∧ IsDeps w a xs) := by
  obtain ⟨a, len, cap, rfl⟩ := okWide_slice Try.underlying41 hv
  obtain ⟨fuel, hf⟩ := h
  obtain ⟨xs, hx⟩ := deps_cells (by simpa [Value.cells] using hf)
  exact ⟨a, len, cap, xs, rfl, hx⟩

theorem cellsBool : Try.prog.cellsOf 4 = 1 := by kernel_rfl

theorem cellsDepS : Try.prog.cellsOf 41 = 1 := by kernel_rfl

theorem cellsWrite : Try.prog.cellsOf 43 = 7 := by kernel_rfl

theorem slice_cells {fuel : Nat} {v : Value} {x : DataW H × List MemPlace} (h : DataW.trod enc Try.prog w base spare held fuel 41 [v] = some x) : ∃ a len cap, v = .slice a len cap := by
  rcases open_slice Try.underlying41 h with ⟨hcs, _⟩ | ⟨a', len', cap', m, n, D, Pl, hcs, _⟩
  · simp at hcs
    exact ⟨_, _, _, hcs⟩
  · simp at hcs
    exact ⟨_, _, _, hcs⟩

theorem open_write {b0 : Nat} {r : Reach} {v : Value} {d : DataW H} {p : List MemPlace} (hv : Value.okWide Try.prog w r b0 43 v) (h : DataW.Trod enc Try.prog w base (fun _ => true) held 43 v d p) :
    ∃ (k c s q va : Int) (de : Bool) (a : Option Addr) (len cap : Nat) (xs : List Dp), v = .agg #[.int .i64 k, .int .i64 c, .int .i64 s, .int .i64 q, .int .i64 va, .bool de, .slice a len cap] ∧ (xs.length = len ∧ len ≤ maxLen ∧ IsDeps w a xs) := by
  obtain ⟨cs, rfl, hsz⟩ := okWide_struct Try.underlying43 hv
  rw [cellsWrite] at hsz
  obtain ⟨fuel, hf⟩ := h
  obtain ⟨xs', n, _, _, _, hlen, hfd⟩ := DataW.trod_struct Try.underlying43 hf
  cases cs with
  | mk l =>
    have hl : l.length = 7 := by simpa using hsz
    match l, hl, xs', hlen with
    | [v0, v1, v2, v3, v4, v5, v6], _, [y0, y1, y2, y3, y4], _ =>
      have g0 := hfd 0 _ rfl
      have g1 := hfd 1 _ rfl
      have g2 := hfd 2 _ rfl
      have g3 := hfd 3 _ rfl
      have g4 := hfd 4 _ rfl
      simp [Value.cells, cellsInt, cellsTag, cellsBool, cellsDepS] at g0 g1 g2 g3 g4
      obtain ⟨k, e0, _, _⟩ := DataW.trod_int Try.underlying3 g0
      obtain ⟨c, s, q, e1⟩ := tag_cells g1
      obtain ⟨va, e2, _, _⟩ := DataW.trod_int Try.underlying3 g2
      obtain ⟨de, e3, _⟩ := DataW.trod_bool Try.underlying4 g3
      obtain ⟨a, len, cap, e4⟩ := slice_cells g4
      simp at e0 e1 e2 e3
      obtain ⟨e1, e1', e1''⟩ := e1
      subst e0 e1 e1' e1'' e2 e3 e4
      obtain ⟨xs, hx⟩ := deps_cells g4
      exact ⟨k, c, s, q, va, de, a, len, cap, xs, rfl, hx⟩

end
end Go.Proofs.Ytidpcjcnhklmpai

/- What comes in, opened: slices of writes. -/
namespace Go.Proofs.Ytidpcjcnhklmpai
open Go.ChangeShapes Go.WideShapes Go.ChangeAt Go.RowKit Go.Joins Go.Deep
set_option maxRecDepth 100000

section
variable {H : Type} {enc : TypeId × Value → H} {w : World} {base : Nat} {spare : Nat → Bool} {held : Bool}

theorem write_cells {fuel : Nat} {cs : List Value} {x : DataW H × List MemPlace} (h : DataW.trod enc Try.prog w base spare held fuel 43 cs = some x) :
    ∃ (y : Wr) (a : Option Addr) (cap : Nat), cs = [.int .i64 y.k, .int .i64 y.c, .int .i64 y.s, .int .i64 y.q, .int .i64 y.v, .bool y.de, .slice a y.xs.length cap] ∧ y.xs.length ≤ maxLen ∧ IsDeps w a y.xs := by
  obtain ⟨xs', n, hl0, _, _, hlen, hfd⟩ := DataW.trod_struct Try.underlying43 h
  have hl : cs.length = 7 := by rw [cellsWrite] at *; assumption
  match cs, hl, xs', hlen with
  | [v0, v1, v2, v3, v4, v5, v6], _, [y0, y1, y2, y3, y4], _ =>
    have g0 := hfd 0 _ rfl
    have g1 := hfd 1 _ rfl
    have g2 := hfd 2 _ rfl
    have g3 := hfd 3 _ rfl
    have g4 := hfd 4 _ rfl
    simp [cellsInt, cellsTag, cellsBool, cellsDepS] at g0 g1 g2 g3 g4
    obtain ⟨k, e0, _, _⟩ := DataW.trod_int Try.underlying3 g0
    obtain ⟨c, s, q, e1⟩ := tag_cells g1
    obtain ⟨va, e2, _, _⟩ := DataW.trod_int Try.underlying3 g2
    obtain ⟨de, e3, _⟩ := DataW.trod_bool Try.underlying4 g3
    obtain ⟨a, len, cap, e4⟩ := slice_cells g4
    simp at e0 e1 e2 e3
    obtain ⟨e1, e1', e1''⟩ := e1
    subst e0 e1 e1' e1'' e2 e3 e4
    obtain ⟨xs, hx1, hx2, hx3⟩ := deps_cells g4
    subst hx1
    exact ⟨⟨k, c, s, q, va, de, xs⟩, a, cap, rfl, hx2, hx3⟩

theorem ws_cells {fuel : Nat} {a : Option Addr} {len cap : Nat} {x : DataW H × List MemPlace} (h : DataW.trod enc Try.prog w base spare held fuel 22 [.slice a len cap] = some x) :
    ∃ ws : List Wr, ws.length = len ∧ len ≤ maxLen ∧ IsWs w a ws := by
  rcases open_slice Try.underlying22 h with ⟨hcs, _⟩ | ⟨a', len', cap', m, n, D, Pl, hcs, _, hl, hm, hmm, _, hel⟩
  · simp at hcs
    obtain ⟨rfl, rfl, rfl⟩ := hcs
    exact ⟨[], rfl, Nat.zero_le _, .inl rfl⟩
  · simp at hcs
    obtain ⟨rfl, rfl, rfl⟩ := hcs
    have hml : len ≤ m := by rw [hmm]; split <;> omega
    have hd : ∀ i, i < len → ∃ y : Wr, ∃ (ad : Option Addr) (cp : Nat), w.cell? (a'.add (i * 7)) = some (.int .i64 y.k) ∧ w.cell? (a'.add (i * 7 + 1)) = some (.int .i64 y.c) ∧ w.cell? (a'.add (i * 7 + 2)) = some (.int .i64 y.s) ∧ w.cell? (a'.add (i * 7 + 3)) = some (.int .i64 y.q) ∧ w.cell? (a'.add (i * 7 + 4)) = some (.int .i64 y.v) ∧ w.cell? (a'.add (i * 7 + 5)) = some (.bool y.de) ∧ w.cell? (a'.add (i * 7 + 6)) = some (.slice ad y.xs.length cp) ∧ y.xs.length ≤ maxLen ∧ IsDeps w ad y.xs := by
      intro i hi
      obtain ⟨cs', h1, h2⟩ := hel i (by omega)
      rw [cellsWrite] at h1
      obtain ⟨_, _, hc⟩ := World.cells?_some h1
      obtain ⟨y, ad, cp, hdd, hy1, hy2⟩ := write_cells h2
      rw [hdd] at hc
      have c0 := hc 0 (by omega)
      have c1 := hc 1 (by omega)
      have c2 := hc 2 (by omega)
      have c3 := hc 3 (by omega)
      have c4 := hc 4 (by omega)
      have c5 := hc 5 (by omega)
      have c6 := hc 6 (by omega)
      rw [add_add] at c0 c1 c2 c3 c4 c5 c6
      exact ⟨y, ad, cp, by simpa using c0, by simpa using c1, by simpa using c2, by simpa using c3, by simpa using c4, by simpa using c5, by simpa using c6, hy1, hy2⟩
    by_cases h0 : len = 0
    · subst h0
      exact ⟨[], rfl, Nat.zero_le _, .inl rfl⟩
    have : Inhabited Wr := ⟨wz⟩
    obtain ⟨f, hf⟩ := choose_lt hd
    have ha : a' = ⟨a'.block, a'.off, none⟩ := by
      obtain ⟨_, _, h1, _⟩ := hf 0 (by omega)
      simp [Addr.add] at h1
      exact add_form h1
    refine ⟨(List.range len).map f, by simp, by omega, .inr ⟨a'.block, a'.off, by rw [← ha], ?_, ?_⟩⟩
    · obtain ⟨cs', h1, _⟩ := hel 0 (by omega)
      rw [cellsWrite] at h1
      have h2 := World.cells?_block h1 (by omega)
      simpa [Addr.add] using h2
    · intro i hi
      have hi' : i < len := by simpa using hi
      have hg : ((List.range len).map f).getD i wz = f i := by simp [List.getD, hi']
      rw [hg]
      obtain ⟨ad, cp, h1, h2, h3, h4, h5, h6, h7, h8, h9⟩ := hf i hi'
      rw [ha] at h1 h2 h3 h4 h5 h6 h7
      rw [add_plain] at h1 h2 h3 h4 h5 h6 h7
      exact ⟨ad, cp, ⟨h1, h2, h3, h4, h5, h6, h7⟩, h8, h9⟩

theorem open_ws {b0 : Nat} {r : Reach} {v : Value} {d : DataW H} {p : List MemPlace} (hv : Value.okWide Try.prog w r b0 22 v) (h : DataW.Trod enc Try.prog w base (fun _ => true) held 22 v d p) :
    ∃ (a : Option Addr) (len cap : Nat) (ws : List Wr), v = .slice a len cap ∧ (ws.length = len ∧ len ≤ maxLen ∧ IsWs w a ws) := by
  obtain ⟨a, len, cap, rfl⟩ := okWide_slice Try.underlying22 hv
  obtain ⟨fuel, hf⟩ := h
  obtain ⟨ws, hx⟩ := ws_cells (by simpa [Value.cells] using hf)
  exact ⟨a, len, cap, ws, rfl, hx⟩

end
end Go.Proofs.Ytidpcjcnhklmpai
