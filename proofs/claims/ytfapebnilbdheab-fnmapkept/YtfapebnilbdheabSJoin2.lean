/- Contracts of the specification's MapJoin and MapPut. -/
import Derived.Test.YtfapebnilbdheabSJoin
import Derived.Test.YtfapebnilbdheabIJoin2
namespace Go.Proofs.Ytfapebnilbdheab
open Go.ChangeShapes Go.WideShapes Go.ChangeAt Go.RowKit Go.Joins
attribute [local go_sem ↓] Go.wp_at_zero Go.wp_at_succ

theorem specMapOk_is (r : Bool) (a : Option Addr) (n cap : Nat) (ws : List Wr) (h : mapOkB ws = r) (w : World) (hn : ws.length = n) (hm : n ≤ 1048576) (hx : Few ws) (hh : IsWs w a ws) :
    Calls Try.prog 18 #[.slice a n cap] w fun e w' => e = .returned (.bool r) ∧ Below w.heap.size w w' := by
  subst h
  exact specMapOk_gen a n cap ws w hn hm hx hh

/-- What the specification answers: a list of writes of its own. -/
def AnsS (w w' : World) (e : Ending) (ws : List Wr) : Prop := ∃ g cp es L, e = .returned (.slice (some ⟨g, 0, none⟩) L cp) ∧ es.length = L ∧ es.map (·.x) = ws ∧ RowEs w' w.heap.size g cp es ∧ Below w.heap.size w w'

set_option maxHeartbeats 4000000 in
theorem specMapJoin_gen (a b : Option Addr) (n m cap cap' : Nat) (us vs : List Wr) (w : World) (hn : us.length = n) (hm : vs.length = m) (hs : n + m ≤ 1048576) (hx : Few us) (hy : Few vs) (hi : IsWs w a us) (hj : IsWs w b vs) :
    Calls Try.prog 17 #[.slice a n cap, .slice b m cap'] w fun e w' => AnsS w w' e (joinB us vs) := by
  have HI : Hid (IsWs w a us) := hi
  have HJ : Hid (IsWs w b vs) := hj
  have HN : Hid (us.length = n) := hn
  have HM : Hid (vs.length = m) := hm
  have HX : Hid (Few us) := hx
  have HY : Hid (Few vs) := hy
  clear hi hj hn hm hx hy
  cases ha : mapOkB us
  · have HE : Hid (joinB us vs = []) := joinB_not (.inl ha)
    go_enter Try.func17, Try.ntmps17
    go_wp2_with fail
    refine (specMapOk_is false a n cap us ha _ HN.out (by omega) HX.out HI.out).mono ?_
    rintro e w1 ⟨rfl, hb⟩
    have HB1 := Lib.hid hb
    clear hb
    go_wp2
    go_ret
    exact ⟨_, _, [], 0, rfl, rfl, HE.out.symm, rowEs_start _ _ HB1.out.size, HB1.out.alloc HB1.out.size _⟩
  cases hb : mapOkB vs
  · have HE : Hid (joinB us vs = []) := joinB_not (.inr hb)
    go_enter Try.func17, Try.ntmps17
    go_wp2_with fail
    refine (specMapOk_is true a n cap us ha _ HN.out (by omega) HX.out HI.out).mono ?_
    rintro e w1 ⟨rfl, hb1⟩
    have HB1 := Lib.hid hb1
    clear hb1
    go_wp2_with fail
    refine (specMapOk_is false b m cap' vs hb _ HM.out (by omega) HY.out (HJ.out.below HB1.out)).mono ?_
    rintro e w2 ⟨rfl, hb2⟩
    have HB2 : Hid (Below w.heap.size w w2) := below_step HB1.out HB1.out.size hb2
    clear hb2
    go_wp2
    go_ret
    exact ⟨_, _, [], 0, rfl, rfl, HE.out.symm, rowEs_start _ _ HB2.out.size, HB2.out.alloc HB2.out.size _⟩
  have HE : Hid (joinW us vs = joinB us vs) := by
    unfold joinB
    rw [if_pos ⟨ha, hb⟩]
    exact Lib.hid rfl
  go_enter Try.func17, Try.ntmps17
  go_wp2_with fail
  refine (specMapOk_is true a n cap us ha _ HN.out (by omega) HX.out HI.out).mono ?_
  rintro e w1 ⟨rfl, hb1⟩
  have HB1 := Lib.hid hb1
  clear hb1
  go_wp2_with fail
  refine (specMapOk_is true b m cap' vs hb _ HM.out (by omega) HY.out (HJ.out.below HB1.out)).mono ?_
  rintro e w2 ⟨rfl, hb2⟩
  have HB2 : Hid (Below w.heap.size w w2) := below_step HB1.out HB1.out.size hb2
  clear hb2 HB1
  go_wp2_with fail
  refine (l02Join_gen a b n m cap cap' us vs _ HN.out HM.out hs HX.out HY.out (HI.out.below HB2.out) (HJ.out.below HB2.out)).mono ?_
  rintro e w3 ⟨g, cp, es, L, rfl, hl, hes, hrow, hb3⟩
  have HL := Lib.hid hl
  have HES : Hid (es.map (·.x) = joinB us vs) := hes.trans HE.out
  have HRW := Lib.hid (hrow.mono HB2.out.size)
  have HB3 : Hid (Below w.heap.size w w3) := below_step HB2.out HB2.out.size hb3
  clear hl hes hrow hb3
  go_wp2
  go_ret
  exact ⟨g, cp, es, L, rfl, HL.out, HES.out, HRW.out, HB3.out⟩

theorem specMapJoin_any (b c n m cap cap' : Nat) (us vs : List Wr) (γ δ : Nat → Nat) (w : World) (hn : us.length = n) (hm : vs.length = m) (hs : n + m ≤ 1048576) (hx : Few us) (hy : Few vs) (hi : HoldsWs w b us γ) (hj : HoldsWs w c vs δ) :
    Calls Try.prog 17 #[.slice (some ⟨b, 0, none⟩) n cap, .slice (some ⟨c, 0, none⟩) m cap'] w fun e w' => AnsS w w' e (joinB us vs) :=
  specMapJoin_gen _ _ n m cap cap' us vs w hn hm hs hx hy (hi.isWs hx) (hj.isWs hy)

theorem specWriteOk_is (x : Wr) (r : Bool) (h : okW x = r) (a : Option Addr) (cap : Nat) (w : World) (hn : x.xs.length ≤ 1048576) (hh : IsDeps w a x.xs) :
    Calls Try.prog 24 #[wrOf x a cap] w fun e w' => e = .returned (.bool r) ∧ Below w.heap.size w w' := by
  subst h
  exact specWriteOk_gen _ _ _ _ _ _ a x.xs _ cap w rfl hn hh

set_option maxHeartbeats 4000000 in
theorem specMapPut_gen (a ax : Option Addr) (n cap cx : Nat) (us : List Wr) (x : Wr) (w : World) (hn : us.length = n) (hs : n ≤ 1048576) (hx : Few us) (hxl : x.xs.length ≤ 1048576) (hi : IsWs w a us) (hd : IsDeps w ax x.xs) :
    Calls Try.prog 23 #[.slice a n cap, wrOf x ax cx] w fun e w' => AnsS w w' e (joinB us [x]) := by
  obtain ⟨xk, xc, xs', xq, xv, xd, xx⟩ := x
  simp only at hxl hd
  have HB0 : Hid (Below w.heap.size w (w.alloc (.cells #[.int .i64 xk, .int .i64 xc, .int .i64 xs', .int .i64 xq, .int .i64 xv, .bool xd, .slice ax xx.length cx] 31))) := (Below.refl _ _).alloc (Nat.le_refl _) _
  have HI : Hid (IsWs w a us) := hi
  have HN : Hid (us.length = n) := hn
  have HX : Hid (Few us) := hx
  have HD : Hid (IsDeps w ax xx) := hd
  clear hi hn hx hd
  cases ha : mapOkB us
  · have HE : Hid (joinB us [⟨xk, xc, xs', xq, xv, xd, xx⟩] = []) := joinB_not (.inl ha)
    go_enter Try.func23, Try.ntmps23
    go_wp2_with fail
    refine (specMapOk_is false a n cap us ha _ HN.out (by omega) HX.out (HI.out.below HB0.out)).mono ?_
    rintro e w1 ⟨rfl, hb⟩
    have HB1 := Lib.hid (below_step HB0.out HB0.out.size hb)
    clear hb
    go_wp2
    go_ret
    exact ⟨_, _, [], 0, rfl, rfl, HE.out.symm, rowEs_start _ _ HB1.out.size, HB1.out.alloc HB1.out.size _⟩
  cases hb : okW ⟨xk, xc, xs', xq, xv, xd, xx⟩
  · have HE : Hid (joinB us [⟨xk, xc, xs', xq, xv, xd, xx⟩] = []) := joinB_not (.inr (by rw [mapOk_one]; exact hb))
    go_enter Try.func23, Try.ntmps23
    go_wp2_with fail
    refine (specMapOk_is true a n cap us ha _ HN.out (by omega) HX.out (HI.out.below HB0.out)).mono ?_
    rintro e w1 ⟨rfl, hb1⟩
    have HX1 := Lib.hid (BoxIn.start hb1)
    have b0 := HX1.out.c0
    have b1 := HX1.out.c1
    have b2 := HX1.out.c2
    have b3 := HX1.out.c3
    have b4 := HX1.out.c4
    have b5 := HX1.out.c5
    have b6 := HX1.out.c6
    clear hb1
    go_wp2_with fail
    refine (specWriteOk_is ⟨xk, xc, xs', xq, xv, xd, xx⟩ false hb _ cx _ hxl (HD.out.below HX1.out.below)).mono ?_
    rintro e w2 ⟨rfl, hb2⟩
    have HB2 : Hid (Below w.heap.size w w2) := below_step HX1.out.below HX1.out.below.size hb2
    clear hb2
    go_wp2
    go_ret
    exact ⟨_, _, [], 0, rfl, rfl, HE.out.symm, rowEs_start _ _ HB2.out.size, HB2.out.alloc HB2.out.size _⟩
  have HE : Hid (putW us ⟨xk, xc, xs', xq, xv, xd, xx⟩ = joinB us [⟨xk, xc, xs', xq, xv, xd, xx⟩]) := by
    rw [joinB_one, if_pos ⟨ha, hb⟩]
    exact Lib.hid rfl
  go_enter Try.func23, Try.ntmps23
  go_wp2_with fail
  refine (specMapOk_is true a n cap us ha _ HN.out (by omega) HX.out (HI.out.below HB0.out)).mono ?_
  rintro e w1 ⟨rfl, hb1⟩
  have HX1 := Lib.hid (BoxIn.start hb1)
  have b0 := HX1.out.c0
  have b1 := HX1.out.c1
  have b2 := HX1.out.c2
  have b3 := HX1.out.c3
  have b4 := HX1.out.c4
  have b5 := HX1.out.c5
  have b6 := HX1.out.c6
  clear hb1
  go_wp2_with fail
  refine (specWriteOk_is ⟨xk, xc, xs', xq, xv, xd, xx⟩ true hb _ cx _ hxl (HD.out.below HX1.out.below)).mono ?_
  rintro e w2 ⟨rfl, hb2⟩
  have HX2 := Lib.hid (HX1.out.step hb2)
  clear hb2 b0 b1 b2 b3 b4 b5 b6 HX1
  have b0 := HX2.out.c0
  have b1 := HX2.out.c1
  have b2 := HX2.out.c2
  have b3 := HX2.out.c3
  have b4 := HX2.out.c4
  have b5 := HX2.out.c5
  have b6 := HX2.out.c6
  go_wp2_with fail
  refine (put_gen a n cap us ⟨xk, xc, xs', xq, xv, xd, xx⟩ ax cx _ HN.out hs HX.out (HI.out.below HX2.out.below) hxl (HD.out.below HX2.out.below)).mono ?_
  rintro e w3 ⟨g, cp, es, L, rfl, hl, hes, hrow, hb3⟩
  have HL := Lib.hid hl
  have HES : Hid (es.map (·.x) = joinB us [⟨xk, xc, xs', xq, xv, xd, xx⟩]) := hes.trans HE.out
  have HRW := Lib.hid (hrow.mono (Nat.le_trans HX2.out.below.size (Nat.le_succ _)))
  have HB3 : Hid (Below w.heap.size w w3) := below_step HX2.out.below HX2.out.below.size hb3
  clear hl hes hrow hb3
  go_wp2
  go_ret
  exact ⟨g, cp, es, L, rfl, HL.out, HES.out, HRW.out, HB3.out⟩

theorem specMapPut_any (b n cap gx cx : Nat) (us : List Wr) (x : Wr) (γ : Nat → Nat) (w : World) (hn : us.length = n) (hs : n ≤ 1048576) (hx : Few us) (hxl : x.xs.length ≤ 1048576) (hi : HoldsWs w b us γ) (hgx : gx < w.heap.size) (hd : HoldsDeps w gx 0 x.xs) :
    Calls Try.prog 23 #[.slice (some ⟨b, 0, none⟩) n cap, wrOf x (some ⟨gx, 0, none⟩) cx] w fun e w' => AnsS w w' e (joinB us [x]) :=
  specMapPut_gen _ _ n cap cx us x w hn hs hx hxl (hi.isWs hx) (.inr ⟨gx, 0, rfl, hgx, hd⟩)

end Go.Proofs.Ytfapebnilbdheab
