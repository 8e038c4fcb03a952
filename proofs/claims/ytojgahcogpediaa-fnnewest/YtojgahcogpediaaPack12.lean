import Derived.Test.YtojgahcogpediaaPack11
import Derived.Test.YtojgahcogpediaaPack5
import Derived.Test.YtojgahcogpediaaPack1
import Derived.Test.YtojgahcogpediaaPack4
import Derived.Test.YtojgahcogpediaaPack3
import Derived.RegionTactic
import Derived.BigRegion
import Derived.Deep.RegionHeld3
import Derived.Deep.DrawnRows
import Derived.WalkSpells
/- The newest of some writes, the program's side: the contract of impl.Newest. -/
namespace Go.Proofs.Ytojgahcogpediaa
open Go.ChangeShapes Go.WideShapes Go.ChangeAt Go.RowKit Go.Joins
attribute [local go_sem ↓] Go.wp_at_zero Go.wp_at_succ

/-- What the program tells: the newest, in memory of its own. -/
def NewOut (ws : List Wr) (w : World) (e : Ending) (w' : World) : Prop := ∃ x ok ad g cp, e = .returned (.tuple #[wrOf x ad cp, .bool ok]) ∧ FreshDeps w.heap.size w' ad g x.xs ∧ NewIs ws x ok ∧ Below w.heap.size w w'

set_option maxRecDepth 100000 in
set_option maxHeartbeats 8000000 in
theorem implNewest_any (a : Option Addr) (n cap : Nat) (ws : List Wr) (w : World) (hn : ws.length = n) (hm : n ≤ 1048576) (hx : Few ws) (hh : IsWs w a ws) :
    Calls Try.prog 15 #[.slice a n cap] w fun e w' => NewOut ws w e w' := by
  have HH := Lib.hid hh
  have HN := Lib.hid hn
  have HX := Lib.hid hx
  clear hh hn hx
  have HB0 : Hid (Below w.heap.size w (w.alloc (.cells #[.int .i64 0, .int .i64 0, .int .i64 0, .int .i64 0, .int .i64 0, .bool false, .slice none 0 0] 41))) := (Below.refl _ _).alloc (Nat.le_refl _) _
  go_enter Try.func15, Try.ntmps15
  by_cases h0 : n = 0
  · subst h0
    have HNo : Hid (¬ OneKey ws) := fun h => absurd h.1 (by rw [HN.out]; omega)
    go_wp2
    refine bodyPost_ret (v := .tuple #[wrV 0 0 0 0 0 false none 0 0, .bool false]) (by simp [results, Try.results15, go_sem]) rfl ⟨wz, false, none, 0, 0, rfl, fun hp => absurd hp (by simp [wz]), .inr ⟨HNo.out, rfl, rfl⟩, ?_⟩
    first | exact HB0.out | exact below_putN HB0.out (Nat.le_refl _) _ _ _ _ _ _ _ _ _
  · have hpos : 0 < n := by omega
    have hne : ((n : Int) == 0) = false := by simpa using (by omega : ¬ (n : Int) = 0)
    have hni : (0 : Int) < (n : Int) := by omega
    obtain ⟨b, o, ad, cp, rfl, hall⟩ := HH.out.later HN.out hpos
    obtain ⟨hz, ⟨e0, e1, e2, e3, e4, e5, e6⟩, -⟩ := hall _ HB0.out
    have HD := Lib.hid (hall w (Below.refl _ _)).2.2
    have hxl := HX.out 0 (by rw [HN.out]; exact hpos)
    have HF : Hid (newAt ws 0 = ws.getD 0 wz) := newAt_zero ws
    obtain ⟨key, hkey⟩ : ∃ key, (ws.getD 0 wz).k = key := ⟨_, rfl⟩
    have HONE : Hid ((∀ j, j < n → (ws.getD j wz).k = key) → OneKey ws) := fun h => ⟨by rw [HN.out]; exact hpos, fun j hj => by rw [hkey]; exact h j (by rw [← HN.out]; exact hj)⟩
    have HNOT : Hid (∀ j, j < n → (ws.getD j wz).k ≠ key → ¬ OneKey ws) := fun j hj h h' => h (by rw [← hkey]; exact h'.2 j (by rw [HN.out]; exact hj))
    clear hall
    generalize ws.getD 0 wz = x0 at *
    obtain ⟨xk, xc, xs', xq, xv, xd, xx⟩ := x0
    simp only [Nat.zero_mul, Nat.add_zero] at e0 e1 e2 e3 e4 e5 e6 hxl HD hkey
    subst hkey
    go_wp2
    go_loopw [16] (fun i wr => ∃ (k : Nat) (x : Wr) (ax : Option Addr) (cx : Nat), k ≤ n ∧ i = .int .i64 k ∧ Hid (newAt ws k = x) ∧ Hid (x.k = xk) ∧ Hid (∀ j, j < k → (ws.getD j wz).k = xk) ∧ Hid (NBox wr (w.heap.size + 1) x.k x.c x.s x.q x.v x.de ax x.xs.length cx) ∧ Hid (NBox wr w.heap.size 0 0 0 0 0 false none 0 0) ∧ Hid (IsDeps w ax x.xs) ∧ x.xs.length ≤ 1048576 ∧ Hid (Below w.heap.size w wr)) (fun i _ => n - (intOf i).toNat)
    case atStart =>
      refine ⟨0, _, ad, cp, Nat.zero_le _, rfl, HF, rfl, fun j hj => absurd hj (Nat.not_lt_zero j), ?_, ?_, HD, hxl, ?_⟩
      · have := NBox.start (w.alloc (.cells #[.int .i64 0, .int .i64 0, .int .i64 0, .int .i64 0, .int .i64 0, .bool false, .slice none 0 0] 41)) xk xc xs' xq xv xd ad xx.length cp 41
        simpa [Hid] using this
      · exact (NBox.start w 0 0 0 0 0 false none 0 0 41).step ((Below.refl _ _).alloc (Nat.le_refl _) _)
      · exact HB0.out.alloc HB0.out.size _
    case round =>
      obtain ⟨k, x, ax, cx, hk, rfl, HE, hxk, HK, HX4, HX2, HDX, hxx, HB⟩ := hrel
      by_cases hk' : k < n
      · have i1 : (0 : Int) ≤ (k : Int) := by omega
        have i2 : (k : Int) < (n : Int) := by omega
        obtain ⟨b', o', ad', cp', he, hall⟩ := HH.out.later HN.out hk'
        injection he with he
        injection he with e8 e9
        subst e8 e9
        obtain ⟨hzr, ⟨r0, r1, r2, r3, r4, r5, r6⟩, -⟩ := hall _ HB.out
        have HDY := Lib.hid (hall w (Below.refl _ _)).2.2
        have hyl := HX.out k (by rw [HN.out]; exact hk')
        have HNXT : Hid (newAt ws (k + 1) = newStep x (ws.getD k wz)) := (newAt_next ws k (by rw [HN.out]; exact hk')).trans (by rw [HE.out])
        have HNO : Hid ((ws.getD k wz).k ≠ xk → ¬ OneKey ws) := HNOT.out k hk'
        have HKK : Hid ((ws.getD k wz).k = xk → ∀ j, j < k + 1 → (ws.getD j wz).k = xk) := fun h j hj => by
          by_cases e : j = k
          · rw [e]; exact h
          · exact HK.out j (by omega)
        clear hall e0 e1 e2 e3 e4 e5 e6
        generalize ws.getD k wz = y at *
        obtain ⟨yk, yc, ys, yq, yv, yd, yy⟩ := y
        simp only at r0 r1 r2 r3 r4 r5 r6 hyl HDY HNO HKK
        obtain ⟨xk0, xc0, xs0, xq0, xv0, xd0, xx0⟩ := x
        have hxk := hxk.out
        simp only at hxk HX4 HDX hxx
        subst hxk
        have s0 := HX4.out.c0
        have s1 := HX4.out.c1
        have s2 := HX4.out.c2
        have s3 := HX4.out.c3
        have s4 := HX4.out.c4
        have s5 := HX4.out.c5
        have s6 := HX4.out.c6
        have hl4 := HX4.out.lt
        have hl2 := HX2.out.lt
        by_cases hkey : yk = xk0
        · subst hkey
          obtain ⟨z, hz0⟩ : ∃ z, cmpW ⟨yk, yc, ys, yq, yv, yd, yy⟩ ⟨yk, xc0, xs0, xq0, xv0, xd0, xx0⟩ = z := ⟨_, rfl⟩
          have HKK' := Lib.hid (HKK.out rfl)
          have HBY : Hid (Below wr.heap.size wr (wr.alloc (.cells #[.int .i64 yk, .int .i64 yc, .int .i64 ys, .int .i64 yq, .int .i64 yv, .bool yd, .slice ad' yy.length cp'] 41))) := (Below.refl _ _).alloc (Nat.le_refl _) _
          have HBA : Hid (Below w.heap.size w (wr.alloc (.cells #[.int .i64 yk, .int .i64 yc, .int .i64 ys, .int .i64 yq, .int .i64 yv, .bool yd, .slice ad' yy.length cp'] 41))) := HB.out.alloc HB.out.size _
          go_wp2_with fail
          refine (implWriteCmp_gen yk yc ys yq yv yd ad' yy _ cp' yk xc0 xs0 xq0 xv0 xd0 ax xx0 _ cx _ rfl rfl hyl hxx (HDY.out.below HBA.out) (HDX.out.below HBA.out)).mono ?_
          rintro e w2 ⟨rfl, hb⟩
          have HC : Hid (wcmp yk yc ys yq yv yd yy yk xc0 xs0 xq0 xv0 xd0 xx0 = z) := hz0
          rw [HC.out]
          have HB2 : Hid (Below w.heap.size w w2) := below_step HBA.out HBA.out.size hb
          have HY2 : Hid (NBox w2 wr.heap.size yk yc ys yq yv yd ad' yy.length cp') := (NBox.start wr yk yc ys yq yv yd ad' yy.length cp' _).step hb
          have HX42 := Lib.hid ((HX4.out.step HBY.out).step hb)
          have HX22 := Lib.hid ((HX2.out.step HBY.out).step hb)
          have y0 := HY2.out.c0
          have y1 := HY2.out.c1
          have y2 := HY2.out.c2
          have y3 := HY2.out.c3
          have y4 := HY2.out.c4
          have y5 := HY2.out.c5
          have y6 := HY2.out.c6
          have hy := HY2.out.lt
          clear hb
          by_cases hz1 : 0 < z
          · have HE2 : Hid (newAt ws (k + 1) = ⟨yk, yc, ys, yq, yv, yd, yy⟩) := HNXT.out.trans (by unfold newStep; rw [if_pos (by rw [hz0]; exact hz1)])
            have t0 := HX42.out.c0
            have t1 := HX42.out.c1
            have t2 := HX42.out.c2
            have t3 := HX42.out.c3
            have t4 := HX42.out.c4
            have t5 := HX42.out.c5
            have t6 := HX42.out.c6
            have f4 := HX42.out.fz
            have hl := HX42.out.lt
            have HP4 := Lib.hid (HX42.out.put yk yc ys yq yv yd ad' yy.length cp')
            have HBP := Lib.hid (below_putN HB2.out (b := w.heap.size + 1) (Nat.le_succ _) yk yc ys yq yv yd ad' yy.length cp')
            have HP2 := Lib.hid (HX22.out.off (R := w.heap.size + 1) (by omega) yk yc ys yq yv yd ad' yy.length cp')
            go_wp2
            exact ⟨⟨k + 1, _, ad', cp', by omega, by go_num, HE2, rfl, HKK', HP4, HP2, HDY, hyl, HBP⟩, by simp [intOf]; omega⟩
          · have HE2 : Hid (newAt ws (k + 1) = ⟨yk, xc0, xs0, xq0, xv0, xd0, xx0⟩) := HNXT.out.trans (by unfold newStep; rw [if_neg (by rw [hz0]; exact hz1)])
            go_wp2
            exact ⟨⟨k + 1, _, ax, cx, by omega, by go_num, HE2, rfl, HKK', HX42, HX22, HDX, hxx, HB2⟩, by simp [intOf]; omega⟩
        · have HNo := Lib.hid (HNO.out hkey)
          have z0 := HX2.out.c0
          have z1 := HX2.out.c1
          have z2 := HX2.out.c2
          have z3 := HX2.out.c3
          have z4 := HX2.out.c4
          have z5 := HX2.out.c5
          have z6 := HX2.out.c6
          have f2 := HX2.out.fz
          have HB' : Hid (Below w.heap.size w (wr.alloc (.cells #[.int .i64 yk, .int .i64 yc, .int .i64 ys, .int .i64 yq, .int .i64 yv, .bool yd, .slice ad' yy.length cp'] 41))) := HB.out.alloc HB.out.size _
          go_wp2
          have HQ : Hid (NBox ((putN wr w.heap.size 0 0 0 0 0 false none 0 0).alloc (.cells #[.int .i64 yk, .int .i64 yc, .int .i64 ys, .int .i64 yq, .int .i64 yv, .bool yd, .slice ad' yy.length cp'] 41)) w.heap.size 0 0 0 0 0 false none 0 0) := (HX2.out.put 0 0 0 0 0 false none 0 0).step ((Below.refl _ _).alloc (Nat.le_refl _) _)
          have q0 := HQ.out.c0
          have q1 := HQ.out.c1
          have q2 := HQ.out.c2
          have q3 := HQ.out.c3
          have q4 := HQ.out.c4
          have q5 := HQ.out.c5
          have q6 := HQ.out.c6
          unfold putN at q0 q1 q2 q3 q4 q5 q6
          refine bodyPost_ret (v := .tuple #[wrV 0 0 0 0 0 false none 0 0, .bool false]) (by simp [results, Try.results15, go_sem, q0, q1, q2, q3, q4, q5, q6]) rfl ⟨wz, false, none, 0, 0, rfl, fun hp => absurd hp (by simp [wz]), .inr ⟨HNo.out, rfl, rfl⟩, ?_⟩
          have := below_putN HB.out (Nat.le_refl _) 0 0 0 0 0 false none 0 0
          exact this.alloc this.size _
      · have hkk : k = n := by omega
        subst hkk
        have HO := Lib.hid (HONE.out HK.out)
        obtain ⟨xk0, xc0, xs0, xq0, xv0, xd0, xx0⟩ := x
        simp only at HX4 HDX hxx
        have s0 := HX4.out.c0
        have s1 := HX4.out.c1
        have s2 := HX4.out.c2
        have s3 := HX4.out.c3
        have s4 := HX4.out.c4
        have s5 := HX4.out.c5
        have s6 := HX4.out.c6
        go_wp2_with fail
        refine (icopy_any ⟨xk0, xc0, xs0, xq0, xv0, xd0, xx0⟩ ax cx _ hxx (HDX.out.below HB.out)).mono ?_
        rintro e w2 ⟨a', g, cp2, rfl, hg, hb⟩
        have HB2 : Hid (Below w.heap.size w w2) := below_step HB.out HB.out.size hb
        have HG := Lib.hid (hg.mono HX2.out.lt)
        have HZ := Lib.hid (HX2.out.step hb)
        have z0 := HZ.out.c0
        have z1 := HZ.out.c1
        have z2 := HZ.out.c2
        have z3 := HZ.out.c3
        have z4 := HZ.out.c4
        have z5 := HZ.out.c5
        have z6 := HZ.out.c6
        have f2 := HZ.out.fz
        have hz2 := HZ.out.lt
        clear hb hg s0 s1 s2 s3 s4 s5 s6 e0 e1 e2 e3 e4 e5 e6
        go_wp2
        refine bodyPost_ret (v := .tuple #[wrV xk0 xc0 xs0 xq0 xv0 xd0 a' xx0.length cp2, .bool true]) (by simp [results, Try.results15, go_sem, z0, z1, z2, z3, z4, z5, z6]) rfl ⟨⟨xk0, xc0, xs0, xq0, xv0, xd0, xx0⟩, true, a', g, cp2, rfl, ((fresh_set7 HG.out (Nat.lt_succ_self _) _ _ _ _ _ _ _ _ _ _ _ _ _ _).mono (Nat.le_succ _)), .inl ⟨HO.out, by rw [HN.out]; exact HE.out.symm, rfl⟩, ?_⟩
        exact below_putN HB2.out (Nat.le_refl _) _ _ _ _ _ _ _ _ _

end Go.Proofs.Ytojgahcogpediaa

/- The newest of some writes, the specification's side: the contract of spec.Newest. -/
namespace Go.Proofs.Ytojgahcogpediaa
open Go.ChangeShapes Go.WideShapes Go.ChangeAt Go.RowKit Go.Joins
attribute [local go_sem ↓] Go.wp_at_zero Go.wp_at_succ

/-- What the specification tells: the newest. -/
def NewTell (ws : List Wr) (w : World) (e : Ending) (w' : World) : Prop := ∃ x ok ad cp, e = .returned (.tuple #[wrOf x ad cp, .bool ok]) ∧ IsDeps w' ad x.xs ∧ NewIs ws x ok ∧ Below w.heap.size w w'

set_option maxRecDepth 100000 in
set_option maxHeartbeats 8000000 in
theorem specNewest_any (a : Option Addr) (n cap : Nat) (ws : List Wr) (w : World) (hn : ws.length = n) (hm : n ≤ 1048576) (hx : Few ws) (hh : IsWs w a ws) :
    Calls Try.prog 13 #[.slice a n cap] w fun e w' => NewTell ws w e w' := by
  have HH := Lib.hid hh
  have HN := Lib.hid hn
  have HX := Lib.hid hx
  clear hh hn hx
  have HB0 : Hid (Below w.heap.size w (w.alloc (.cells #[.int .i64 0, .int .i64 0, .int .i64 0, .int .i64 0, .int .i64 0, .bool false, .slice none 0 0] 41))) := (Below.refl _ _).alloc (Nat.le_refl _) _
  go_enter Try.func13, Try.ntmps13
  by_cases h0 : n = 0
  · subst h0
    have HNo : Hid (¬ OneKey ws) := fun h => absurd h.1 (by rw [HN.out]; omega)
    go_wp2
    refine bodyPost_ret (v := .tuple #[wrV 0 0 0 0 0 false none 0 0, .bool false]) (by simp [results, Try.results13, go_sem]) rfl ⟨wz, false, none, 0, rfl, .inl rfl, .inr ⟨HNo.out, rfl, rfl⟩, ?_⟩
    first | exact HB0.out | exact below_putN HB0.out (Nat.le_refl _) _ _ _ _ _ _ _ _ _
  · have hpos : 0 < n := by omega
    have hne : ((n : Int) == 0) = false := by simpa using (by omega : ¬ (n : Int) = 0)
    have hni : (0 : Int) < (n : Int) := by omega
    obtain ⟨b, o, ad, cp, rfl, hall⟩ := HH.out.later HN.out hpos
    obtain ⟨hz, ⟨e0, e1, e2, e3, e4, e5, e6⟩, -⟩ := hall _ HB0.out
    have HD := Lib.hid (hall w (Below.refl _ _)).2.2
    have hxl := HX.out 0 (by rw [HN.out]; exact hpos)
    have HF : Hid (newAt ws 0 = ws.getD 0 wz) := newAt_zero ws
    obtain ⟨key, hkey⟩ : ∃ key, (ws.getD 0 wz).k = key := ⟨_, rfl⟩
    have HONE : Hid ((∀ j, j < n → (ws.getD j wz).k = key) → OneKey ws) := fun h => ⟨by rw [HN.out]; exact hpos, fun j hj => by rw [hkey]; exact h j (by rw [← HN.out]; exact hj)⟩
    have HNOT : Hid (∀ j, j < n → (ws.getD j wz).k ≠ key → ¬ OneKey ws) := fun j hj h h' => h (by rw [← hkey]; exact h'.2 j (by rw [HN.out]; exact hj))
    clear hall
    generalize ws.getD 0 wz = x0 at *
    obtain ⟨xk, xc, xs', xq, xv, xd, xx⟩ := x0
    simp only [Nat.zero_mul, Nat.add_zero] at e0 e1 e2 e3 e4 e5 e6 hxl HD hkey
    subst hkey
    go_wp2
    go_loopw [5] (fun i wr => ∃ (k : Nat) (x : Wr) (ax : Option Addr) (cx : Nat), k ≤ n ∧ i = .int .i64 k ∧ Hid (newAt ws k = x) ∧ Hid (x.k = xk) ∧ Hid (∀ j, j < k → (ws.getD j wz).k = xk) ∧ Hid (NBox wr (w.heap.size + 1) x.k x.c x.s x.q x.v x.de ax x.xs.length cx) ∧ Hid (NBox wr w.heap.size 0 0 0 0 0 false none 0 0) ∧ Hid (IsDeps w ax x.xs) ∧ x.xs.length ≤ 1048576 ∧ Hid (Below w.heap.size w wr)) (fun i _ => n - (intOf i).toNat)
    case atStart =>
      refine ⟨0, _, ad, cp, Nat.zero_le _, rfl, HF, rfl, fun j hj => absurd hj (Nat.not_lt_zero j), ?_, ?_, HD, hxl, ?_⟩
      · have := NBox.start (w.alloc (.cells #[.int .i64 0, .int .i64 0, .int .i64 0, .int .i64 0, .int .i64 0, .bool false, .slice none 0 0] 41)) xk xc xs' xq xv xd ad xx.length cp 41
        simpa [Hid] using this
      · exact (NBox.start w 0 0 0 0 0 false none 0 0 41).step ((Below.refl _ _).alloc (Nat.le_refl _) _)
      · exact HB0.out.alloc HB0.out.size _
    case round =>
      obtain ⟨k, x, ax, cx, hk, rfl, HE, hxk, HK, HX4, HX2, HDX, hxx, HB⟩ := hrel
      by_cases hk' : k < n
      · have i1 : (0 : Int) ≤ (k : Int) := by omega
        have i2 : (k : Int) < (n : Int) := by omega
        obtain ⟨b', o', ad', cp', he, hall⟩ := HH.out.later HN.out hk'
        injection he with he
        injection he with e8 e9
        subst e8 e9
        obtain ⟨hzr, ⟨r0, r1, r2, r3, r4, r5, r6⟩, -⟩ := hall _ HB.out
        have HR : Hid (∀ w', Below w.heap.size w w' → b < w'.heap.size ∧ WrAt w' b (o + k * 7) (ws.getD k wz) ad' cp') := fun w' h => ⟨(hall w' h).1, (hall w' h).2.1⟩
        have HDY := Lib.hid (hall w (Below.refl _ _)).2.2
        have hyl := HX.out k (by rw [HN.out]; exact hk')
        have HNXT : Hid (newAt ws (k + 1) = newStep x (ws.getD k wz)) := (newAt_next ws k (by rw [HN.out]; exact hk')).trans (by rw [HE.out])
        have HNO : Hid ((ws.getD k wz).k ≠ xk → ¬ OneKey ws) := HNOT.out k hk'
        have HKK : Hid ((ws.getD k wz).k = xk → ∀ j, j < k + 1 → (ws.getD j wz).k = xk) := fun h j hj => by
          by_cases e : j = k
          · rw [e]; exact h
          · exact HK.out j (by omega)
        clear hall e0 e1 e2 e3 e4 e5 e6
        generalize ws.getD k wz = y at *
        obtain ⟨yk, yc, ys, yq, yv, yd, yy⟩ := y
        simp only at r0 r1 r2 r3 r4 r5 r6 hyl HDY HNO HKK
        obtain ⟨xk0, xc0, xs0, xq0, xv0, xd0, xx0⟩ := x
        have hxk := hxk.out
        simp only at hxk HX4 HDX hxx
        subst hxk
        have s0 := HX4.out.c0
        have s1 := HX4.out.c1
        have s2 := HX4.out.c2
        have s3 := HX4.out.c3
        have s4 := HX4.out.c4
        have s5 := HX4.out.c5
        have s6 := HX4.out.c6
        have hl4 := HX4.out.lt
        have hl2 := HX2.out.lt
        have gr0 := aft_cell hzr r0
        have gs0 := aft_cell hl4 s0
        have ne := aft_some wr
        go_wp2_with fail
        refine wp_region_aft (by kernel_rfl) (by kernel_rfl) ?_
        repeat (first | go_big_quiet_step (fail))
        refine wpQuiet_nil ?_
        intro wq hq
        have HBQ : Hid (Below w.heap.size w wq) := below_step HB.out HB.out.size hq
        have HX4q := Lib.hid (HX4.out.step hq)
        have HX2q := Lib.hid (HX2.out.step hq)
        obtain ⟨hzq, q0, q1, q2, q3, q4, q5, q6⟩ := HR.out wq HBQ.out
        simp only at q0 q1 q2 q3 q4 q5 q6
        clear hq gr0 gs0 ne r0 r1 r2 r3 r4 r5 r6 s0 s1 s2 s3 s4 s5 s6 hzr hl4 hl2
        have hl2 := HX2q.out.lt
        by_cases hkey : yk = xk0
        · subst hkey
          obtain ⟨z, hz0⟩ : ∃ z, cmpW ⟨yk, yc, ys, yq, yv, yd, yy⟩ ⟨yk, xc0, xs0, xq0, xv0, xd0, xx0⟩ = z := ⟨_, rfl⟩
          have HKK' := Lib.hid (HKK.out rfl)
          have HC : Hid (∀ p : Aft wq.heap.size wq, Calls Try.prog 27 #[wrV yk yc ys yq yv yd ad' yy.length cp', wrV yk xc0 xs0 xq0 xv0 xd0 ax xx0.length cx] p.now fun e w' => e = .returned (.int .i64 z) ∧ Below p.now.heap.size p.now w') := fun p => by
            have := specWriteCmp_gen yk yc ys yq yv yd ad' yy _ cp' yk xc0 xs0 xq0 xv0 xd0 ax xx0 _ cx p.now rfl rfl hyl hxx (HDY.out.below (below_step HBQ.out HBQ.out.size p.below)) (HDX.out.below (below_step HBQ.out HBQ.out.size p.below))
            rw [← hz0]
            exact this
          go_wp2_with fail
          have gr0 := aft_cell hzq q0
          have gr1 := aft_cell hzq q1
          have gr2 := aft_cell hzq q2
          have gr3 := aft_cell hzq q3
          have gr4 := aft_cell hzq q4
          have gr5 := aft_cell hzq q5
          have gr6 := aft_cell hzq q6
          have gs0 := aft_cell HX4q.out.lt HX4q.out.c0
          have gs1 := aft_cell HX4q.out.lt HX4q.out.c1
          have gs2 := aft_cell HX4q.out.lt HX4q.out.c2
          have gs3 := aft_cell HX4q.out.lt HX4q.out.c3
          have gs4 := aft_cell HX4q.out.lt HX4q.out.c4
          have gs5 := aft_cell HX4q.out.lt HX4q.out.c5
          have gs6 := aft_cell HX4q.out.lt HX4q.out.c6
          have ne := aft_some wq
          refine wp_region_aft (by kernel_rfl) (by kernel_rfl) ?_
          repeat (first | go_big_quiet_step (first | (go_at_call 27; exact aft_of (HC.out _))))
          refine wpQuiet_nil ?_
          intro w2 hb
          have HB2 : Hid (Below w.heap.size w w2) := below_step HBQ.out HBQ.out.size hb
          have HX42 := Lib.hid (HX4q.out.step hb)
          have HX22 := Lib.hid (HX2q.out.step hb)
          obtain ⟨hzp, y0, y1, y2, y3, y4, y5, y6⟩ := HR.out w2 HB2.out
          simp only at y0 y1 y2 y3 y4 y5 y6
          clear hb gr0 gr1 gr2 gr3 gr4 gr5 gr6 gs0 gs1 gs2 gs3 gs4 gs5 gs6 ne q0 q1 q2 q3 q4 q5 q6
          by_cases hz1 : 0 < z
          · have HE2 : Hid (newAt ws (k + 1) = ⟨yk, yc, ys, yq, yv, yd, yy⟩) := HNXT.out.trans (by unfold newStep; rw [if_pos (by rw [hz0]; exact hz1)])
            have t0 := HX42.out.c0
            have t1 := HX42.out.c1
            have t2 := HX42.out.c2
            have t3 := HX42.out.c3
            have t4 := HX42.out.c4
            have t5 := HX42.out.c5
            have t6 := HX42.out.c6
            have f4 := HX42.out.fz
            have hl := HX42.out.lt
            have HP4 := Lib.hid (HX42.out.put yk yc ys yq yv yd ad' yy.length cp')
            have HBP := Lib.hid (below_putN HB2.out (b := w.heap.size + 1) (Nat.le_succ _) yk yc ys yq yv yd ad' yy.length cp')
            have HP2 := Lib.hid (HX22.out.off (R := w.heap.size + 1) (by omega) yk yc ys yq yv yd ad' yy.length cp')
            go_wp2
            exact ⟨⟨k + 1, _, ad', cp', by omega, by go_num, HE2, rfl, HKK', HP4, HP2, HDY, hyl, HBP⟩, by simp [intOf]; omega⟩
          · have HE2 : Hid (newAt ws (k + 1) = ⟨yk, xc0, xs0, xq0, xv0, xd0, xx0⟩) := HNXT.out.trans (by unfold newStep; rw [if_neg (by rw [hz0]; exact hz1)])
            go_wp2
            exact ⟨⟨k + 1, _, ax, cx, by omega, by go_num, HE2, rfl, HKK', HX42, HX22, HDX, hxx, HB2⟩, by simp [intOf]; omega⟩
        · have HNo := Lib.hid (HNO.out hkey)
          have z0 := HX2q.out.c0
          have z1 := HX2q.out.c1
          have z2 := HX2q.out.c2
          have z3 := HX2q.out.c3
          have z4 := HX2q.out.c4
          have z5 := HX2q.out.c5
          have z6 := HX2q.out.c6
          have f2 := HX2q.out.fz
          go_wp2
          have HQ := Lib.hid (HX2q.out.put 0 0 0 0 0 false none 0 0)
          have q0 := HQ.out.c0
          have q1 := HQ.out.c1
          have q2 := HQ.out.c2
          have q3 := HQ.out.c3
          have q4 := HQ.out.c4
          have q5 := HQ.out.c5
          have q6 := HQ.out.c6
          unfold putN at q0 q1 q2 q3 q4 q5 q6
          refine bodyPost_ret (v := .tuple #[wrV 0 0 0 0 0 false none 0 0, .bool false]) (by simp [results, Try.results13, go_sem, q0, q1, q2, q3, q4, q5, q6]) rfl ⟨wz, false, none, 0, rfl, .inl rfl, .inr ⟨HNo.out, rfl, rfl⟩, ?_⟩
          exact below_putN HBQ.out (Nat.le_refl _) 0 0 0 0 0 false none 0 0
      · have hkk : k = n := by omega
        subst hkk
        have HO := Lib.hid (HONE.out HK.out)
        obtain ⟨xk0, xc0, xs0, xq0, xv0, xd0, xx0⟩ := x
        simp only at HX4 HDX hxx
        have s0 := HX4.out.c0
        have s1 := HX4.out.c1
        have s2 := HX4.out.c2
        have s3 := HX4.out.c3
        have s4 := HX4.out.c4
        have s5 := HX4.out.c5
        have s6 := HX4.out.c6
        go_wp2_with fail
        refine (copy_any ⟨xk0, xc0, xs0, xq0, xv0, xd0, xx0⟩ ax cx _ hxx (HDX.out.below HB.out)).mono ?_
        rintro e w2 ⟨g, cp2, rfl, hg1, hg2, hg3, hb⟩
        have HB2 : Hid (Below w.heap.size w w2) := below_step HB.out HB.out.size hb
        have HZ := Lib.hid (HX2.out.step hb)
        have hgw : w.heap.size < g := Nat.lt_of_lt_of_le HX2.out.lt hg1
        have HG : Hid (HoldsDeps w2 g 0 xx0) := hg3
        have hgn : w.heap.size ≠ g := by omega
        have z0 := HZ.out.c0
        have z1 := HZ.out.c1
        have z2 := HZ.out.c2
        have z3 := HZ.out.c3
        have z4 := HZ.out.c4
        have z5 := HZ.out.c5
        have z6 := HZ.out.c6
        have f2 := HZ.out.fz
        have hz2 := HZ.out.lt
        clear hb hg3 s0 s1 s2 s3 s4 s5 s6 e0 e1 e2 e3 e4 e5 e6
        go_wp2
        refine bodyPost_ret (v := .tuple #[wrV xk0 xc0 xs0 xq0 xv0 xd0 (some ⟨g, 0, none⟩) xx0.length cp2, .bool true]) (by simp [results, Try.results13, go_sem, z0, z1, z2, z3, z4, z5, z6]) rfl ⟨⟨xk0, xc0, xs0, xq0, xv0, xd0, xx0⟩, true, some ⟨g, 0, none⟩, cp2, rfl, ?_, .inl ⟨HO.out, by rw [HN.out]; exact HE.out.symm, rfl⟩, ?_⟩
        · exact .inr ⟨g, 0, rfl, by simpa [World.setCell] using hg2, ((((((HG.out.set hgn _).set hgn _).set hgn _).set hgn _).set hgn _).set hgn _).set hgn _⟩
        · exact below_putN HB2.out (Nat.le_refl _) _ _ _ _ _ _ _ _ _

end Go.Proofs.Ytojgahcogpediaa

/- Contracts of Within of both sides. -/
namespace Go.Proofs.Ytojgahcogpediaa
open Go.ChangeShapes Go.WideShapes Go.ChangeAt Go.RowKit Go.Joins
attribute [local go_sem ↓] Go.wp_at_zero Go.wp_at_succ

/-- Two lists of writes are the same. -/
def sameB (us vs : List Wr) : Bool := decide (us.length = vs.length) && (List.range us.length).all fun i => decide (cmpW (us.getD i wz) (vs.getD i wz) = 0)

theorem same_len {us vs : List Wr} (h : us.length ≠ vs.length) : sameB us vs = false := by
  unfold sameB
  rw [decide_eq_false h, Bool.false_and]

theorem same_false {us vs : List Wr} {i : Nat} (hi : i < us.length) (h : cmpW (us.getD i wz) (vs.getD i wz) ≠ 0) : sameB us vs = false := by
  unfold sameB
  rw [Bool.and_eq_false_iff]
  refine .inr ?_
  rw [List.all_eq_false]
  exact ⟨i, List.mem_range.2 hi, by simpa using h⟩

theorem same_true {us vs : List Wr} (hl : us.length = vs.length) (h : ∀ i, i < us.length → cmpW (us.getD i wz) (vs.getD i wz) = 0) : sameB us vs = true := by
  unfold sameB
  rw [decide_eq_true hl, Bool.true_and, List.all_eq_true]
  intro i hi
  exact decide_eq_true (h i (List.mem_range.1 hi))

def withinB (us vs : List Wr) : Bool := mapOkB us && (mapOkB vs && sameB (joinB us vs) vs)

end Go.Proofs.Ytojgahcogpediaa

/- Maps joined: whichever comes first, the same comes; within is an order. No program in sight. -/
namespace Go.Proofs.Ytojgahcogpediaa

theorem dcmp_zero {d e : Dp} (h : dcmp d e = 0) : d = e := by
  obtain ⟨k, c, s, q⟩ := d
  obtain ⟨k', c', s', q'⟩ := e
  unfold dcmp at h
  simp only at h
  by_cases hk : k = k'
  · rw [if_neg (by simp [hk])] at h
    obtain ⟨rfl, rfl, rfl⟩ := tcmp_zero.1 h
    rw [hk]
  · rw [if_pos hk] at h
    exact absurd (sgn_zero.1 h) hk

theorem depsCmp_zero : ∀ {xs ys : List Dp}, depsCmp xs ys = 0 → xs = ys
  | [], [], _ => rfl
  | [], _ :: _, h => by simp [depsCmp] at h
  | _ :: _, [], h => by simp [depsCmp] at h
  | d :: r, e :: t, h => by
    unfold depsCmp at h
    by_cases hd : dcmp d e = 0
    · rw [if_neg (by simp [hd])] at h
      rw [dcmp_zero hd, depsCmp_zero h]
    · rw [if_pos hd] at h
      exact absurd h hd

theorem cmpW_zero {x y : Wr} (h : cmpW x y = 0) : x = y := by
  obtain ⟨k, c, s, q, v, de, xs⟩ := x
  obtain ⟨k', c', s', q', v', de', ys⟩ := y
  unfold cmpW wcmp at h
  simp only at h
  by_cases h1 : tcmp c s q c' s' q' = 0
  · rw [if_neg (by simp [h1])] at h
    obtain ⟨rfl, rfl, rfl⟩ := tcmp_zero.1 h1
    by_cases h2 : k = k'
    · subst h2
      rw [if_neg (by simp)] at h
      by_cases h3 : v = v'
      · subst h3
        rw [if_neg (by simp)] at h
        by_cases h4 : de = de'
        · subst h4
          rw [if_neg (by simp)] at h
          rw [depsCmp_zero h]
        · rw [if_pos h4] at h
          exact absurd (sgn_zero.1 h) (by cases de <;> cases de' <;> simp [bit] at h4 ⊢)
      · rw [if_pos h3] at h
        exact absurd (sgn_zero.1 h) h3
    · rw [if_pos h2] at h
      exact absurd (sgn_zero.1 h) h2
  · rw [if_pos h1] at h
    exact absurd h h1

theorem cmpW_self (x : Wr) : cmpW x x = 0 := by
  have h := wcmp_neg x.k x.c x.s x.q x.v x.de x.xs x.k x.c x.s x.q x.v x.de x.xs
  unfold cmpW
  omega

theorem same_iff (us vs : List Wr) : sameB us vs = true ↔ us = vs := by
  constructor
  · intro h
    unfold sameB at h
    rw [Bool.and_eq_true, decide_eq_true_eq, List.all_eq_true] at h
    refine List.ext_getElem h.1 fun i h1 h2 => ?_
    have h3 := h.2 i (List.mem_range.2 h1)
    have e1 : us.getD i wz = us[i] := by simp [List.getD, h1]
    have e2 : vs.getD i wz = vs[i] := by simp [List.getD, h2]
    rw [decide_eq_true_eq, e1, e2] at h3
    exact cmpW_zero h3
  · rintro rfl
    exact same_true rfl fun i _ => cmpW_self _

/-- The later of two registers. -/
def later2 (a b : Option Wr) : Option Wr := match b with
  | none => a
  | some y => some (laterO a y)

theorem fold_find : ∀ (b : List Wr) (M : Int → Option Wr), Rise b → ∀ key, b.foldl regPut M key = later2 (M key) (findW b key)
  | [], M, _, key => rfl
  | x :: r, M, h, key => by
    have hp := List.pairwise_cons.1 h
    show r.foldl regPut (regPut M x) key = _
    rw [fold_find r (regPut M x) hp.2 key, findW_cons]
    by_cases hk : x.k = key
    · subst hk
      rw [if_pos rfl, findW_past (fun z hz => hp.1 z hz)]
      show regPut M x x.k = _
      unfold regPut later2
      rw [if_pos rfl]
    · rw [if_neg hk]
      unfold regPut
      rw [if_neg (Ne.symm hk)]

theorem find_join {a b : List Wr} (ha : Rise a) (hb : Rise b) (key : Int) : findW (joinW a b) key = later2 (findW a key) (findW b key) := by
  rw [(join_spec b a ha).2.2 key, fold_find b _ hb]

theorem later_some (x y : Wr) : later2 (some x) (some y) = some (if cmpW x y < 0 then y else x) := rfl

theorem cmpW_turn (x y : Wr) : cmpW y x = -cmpW x y := wcmp_neg ..

theorem later_comm (a b : Option Wr) : later2 a b = later2 b a := by
  cases a with
  | none => cases b <;> rfl
  | some x =>
    cases b with
    | none => rfl
    | some y =>
      rw [later_some, later_some, cmpW_turn x y]
      by_cases h1 : cmpW x y < 0
      · rw [if_pos h1, if_neg (by omega)]
      · rw [if_neg h1]
        by_cases h2 : cmpW x y = 0
        · rw [if_neg (by omega), cmpW_zero h2]
        · rw [if_pos (by omega)]

theorem later_self (a : Option Wr) : later2 a a = a := by
  cases a with
  | none => rfl
  | some x => rw [later_some, if_neg (by rw [cmpW_self]; omega)]

theorem cmpW_three (x y z : Wr) : T3 (cmpW x y) (cmpW y z) (cmpW x z) := wcmp_three ..

theorem later_assoc (a b c : Option Wr) : later2 (later2 a b) c = later2 a (later2 b c) := by
  cases c with
  | none => rfl
  | some z =>
    cases b with
    | none => rfl
    | some y =>
      cases a with
      | none =>
        show later2 (some y) (some z) = later2 none (later2 (some y) (some z))
        rw [later_some]
        rfl
      | some x =>
        rw [later_some x y, later_some y z]
        have t1 := cmpW_three x y z
        have t2 := cmpW_three z y x
        rw [cmpW_turn y z, cmpW_turn x y, cmpW_turn x z] at t2
        by_cases h1 : cmpW x y < 0
        · rw [if_pos h1, later_some]
          by_cases h2 : cmpW y z < 0
          · rw [if_pos h2, later_some, if_pos (t1.n h1 h2)]
          · rw [if_neg h2, later_some, if_pos h1]
        · rw [if_neg h1, later_some]
          by_cases h2 : cmpW y z < 0
          · rw [if_pos h2, later_some]
          · rw [if_neg h2, later_some, if_neg h1]
            by_cases h3 : cmpW x z < 0
            · exfalso
              rcases t2.on (by omega) (by omega) with h4 | h4 <;> omega
            · rw [if_neg h3]

structure OkM (ws : List Wr) : Prop where
  rise : Rise ws
  keys : ∀ x ∈ ws, 0 ≤ x.k ∧ x.k ≤ 5

theorem OkM.join {a b : List Wr} (ha : OkM a) (hb : OkM b) : OkM (joinW a b) where
  rise := (join_spec b a ha.rise).1
  keys := fun x hx => ((join_spec b a ha.rise).2.1 x hx).elim (ha.keys x) (hb.keys x)

theorem OkM.ext {a b : List Wr} (ha : OkM a) (hb : OkM b) (h : ∀ key, findW a key = findW b key) : a = b := by
  rw [← told_find ha.rise ha.keys, ← told_find hb.rise hb.keys, funext h]

theorem join_comm {a b : List Wr} (ha : OkM a) (hb : OkM b) : joinW a b = joinW b a :=
  (ha.join hb).ext (hb.join ha) fun key => by rw [find_join ha.rise hb.rise, find_join hb.rise ha.rise, later_comm]

theorem join_self {a : List Wr} (ha : OkM a) : joinW a a = a :=
  (ha.join ha).ext ha fun key => by rw [find_join ha.rise ha.rise, later_self]

theorem join_assoc {a b c : List Wr} (ha : OkM a) (hb : OkM b) (hc : OkM c) : joinW (joinW a b) c = joinW a (joinW b c) :=
  ((ha.join hb).join hc).ext (ha.join (hb.join hc)) fun key => by
    rw [find_join (ha.join hb).rise hc.rise, find_join ha.rise hb.rise, find_join ha.rise (hb.join hc).rise, find_join hb.rise hc.rise, later_assoc]

theorem okM {ws : List Wr} (h : mapOkB ws = true) : OkM ws := ⟨((mapOk_iff ws).1 h).2, mapOk_keys h⟩

theorem joinB_yes {us vs : List Wr} (h : mapOkB us = true) (h' : mapOkB vs = true) : joinB us vs = joinW us vs := by
  unfold joinB
  exact if_pos ⟨h, h'⟩

theorem within_iff (us vs : List Wr) : withinB us vs = true ↔ mapOkB us = true ∧ mapOkB vs = true ∧ joinW us vs = vs := by
  unfold withinB
  rw [Bool.and_eq_true, Bool.and_eq_true, same_iff]
  constructor
  · rintro ⟨h1, h2, h3⟩
    rw [joinB_yes h1 h2] at h3
    exact ⟨h1, h2, h3⟩
  · rintro ⟨h1, h2, h3⟩
    refine ⟨h1, h2, ?_⟩
    rw [joinB_yes h1 h2]
    exact h3

theorem within_self (us : List Wr) : withinB us us = mapOkB us := by
  cases h : mapOkB us
  · unfold withinB
    rw [h, Bool.false_and]
  · exact (within_iff us us).2 ⟨h, h, join_self (okM h)⟩

theorem within_anti {us vs : List Wr} (h : withinB us vs = true) (h' : withinB vs us = true) : us = vs := by
  obtain ⟨h1, h2, h3⟩ := (within_iff us vs).1 h
  obtain ⟨_, _, h4⟩ := (within_iff vs us).1 h'
  rw [← h3, join_comm (okM h1) (okM h2), h4]

theorem within_join {us vs ws : List Wr} (h : withinB us vs = true) (hw : mapOkB ws = true) : withinB us (joinB vs ws) = true := by
  obtain ⟨h1, h2, h3⟩ := (within_iff us vs).1 h
  refine (within_iff us _).2 ⟨h1, joinB_mapOk _ _, ?_⟩
  rw [joinB_yes h2 hw, ← join_assoc (okM h1) (okM h2) (okM hw), h3]

/-- What FnWithin asks. -/
theorem within_law (us vs ws : List Wr) : (withinB us vs = true → withinB vs us = true → sameB us vs = true) ∧ (withinB us vs = true → mapOkB ws = true → withinB us (joinB vs ws) = true) :=
  ⟨fun h h' => (same_iff _ _).2 (within_anti h h'), fun h h' => within_join h h'⟩

end Go.Proofs.Ytojgahcogpediaa

/- The newest of some writes: none comes behind it. -/
namespace Go.Proofs.Ytojgahcogpediaa

theorem new_none (ws : List Wr) : ∀ k, k ≤ ws.length → ∀ j, j < k → cmpW (ws.getD j wz) (newAt ws k) ≤ 0
  | 0, _, j, hj => absurd hj (Nat.not_lt_zero j)
  | k + 1, hk, j, hj => by
    have ih := new_none ws k (by omega)
    rw [newAt_next ws k (by omega)]
    unfold newStep
    split
    · rename_i h
      by_cases e : j = k
      · subst e
        rw [cmpW_self]
        omega
      · have h1 := ih j (by omega)
        have h2 : cmpW (newAt ws k) (ws.getD k wz) < 0 := by rw [cmpW_turn]; omega
        have h3 := cmpW_three (ws.getD j wz) (newAt ws k) (ws.getD k wz)
        rcases h3.on h1 (by omega) with h4 | ⟨h4, -, -⟩ <;> omega
    · rename_i h
      by_cases e : j = k
      · subst e
        omega
      · exact ih j (by omega)

end Go.Proofs.Ytojgahcogpediaa

/- Is a write there: the contract of the laws' has. -/
namespace Go.Proofs.Ytojgahcogpediaa
open Go.ChangeShapes Go.WideShapes Go.ChangeAt Go.RowKit Go.Joins
attribute [local go_sem ↓] Go.wp_at_zero Go.wp_at_succ

def hasL (l : List Wr) (x : Wr) : Bool := l.any fun y => cmpW y x == 0

theorem hasL_hit {ws : List Wr} {x : Wr} {k : Nat} (hk : k < ws.length) (h : cmpW (ws.getD k wz) x = 0) : hasL ws x = true := by
  unfold hasL
  rw [List.any_eq_true]
  exact ⟨_, (by simp [List.getD, hk] : ws.getD k wz ∈ ws), by rw [h]; rfl⟩

theorem hasL_none {ws : List Wr} {x : Wr} (h : ∀ k, k < ws.length → cmpW (ws.getD k wz) x ≠ 0) : hasL ws x = false := by
  unfold hasL
  rw [List.any_eq_false]
  intro y hy
  obtain ⟨k, hk, rfl⟩ := List.mem_iff_getElem.1 hy
  have := h k hk
  simp only [List.getD, hk, List.getElem?_eq_getElem, Option.getD_some] at this
  simpa using this

set_option maxRecDepth 100000 in
set_option maxHeartbeats 4000000 in
theorem lawHas_any (a : Option Addr) (n cap : Nat) (ws : List Wr) (x : Wr) (ad : Option Addr) (cp : Nat) (w : World) (hn : ws.length = n) (hm : n ≤ 1048576) (hx : Few ws) (hxl : x.xs.length ≤ 1048576) (hh : IsWs w a ws) (hd : IsDeps w ad x.xs) :
    Calls Try.prog 29 #[.slice a n cap, wrOf x ad cp] w fun e w' => e = .returned (.bool (hasL ws x)) ∧ Below w.heap.size w w' := by
  obtain ⟨xk, xc, xs', xq, xv, xd, xx⟩ := x
  simp only at hxl hd
  have HH := Lib.hid hh
  have HN := Lib.hid hn
  have HX := Lib.hid hx
  have HA : Hid (Below w.heap.size w (w.alloc (.cells #[.int .i64 xk, .int .i64 xc, .int .i64 xs', .int .i64 xq, .int .i64 xv, .bool xd, .slice ad xx.length cp] 41))) := (Below.refl _ _).alloc (Nat.le_refl _) _
  have HD := Lib.hid hd
  have HBX : Hid ((w.alloc (.cells #[.int .i64 xk, .int .i64 xc, .int .i64 xs', .int .i64 xq, .int .i64 xv, .bool xd, .slice ad xx.length cp] 41)).heap[w.heap.size]? = some (.cells #[.int .i64 xk, .int .i64 xc, .int .i64 xs', .int .i64 xq, .int .i64 xv, .bool xd, .slice ad xx.length cp] 41 (0, 0))) := heap_alloc_new _ _
  have HSZ : Hid ((w.alloc (.cells #[.int .i64 xk, .int .i64 xc, .int .i64 xs', .int .i64 xq, .int .i64 xv, .bool xd, .slice ad xx.length cp] 41)).heap.size = w.heap.size + 1) := by show _ = _; simp
  clear hh hn hx hd
  unfold wrOf
  simp only
  go_enter Try.func29, Try.ntmps29
  go_wp2
  generalize w.alloc (.cells #[.int .i64 xk, .int .i64 xc, .int .i64 xs', .int .i64 xq, .int .i64 xv, .bool xd, .slice ad xx.length cp] 41) = W1 at *
  go_loopw [5] (fun ti wr => ∃ i : Nat, i ≤ n ∧ ti = .int .i64 i ∧ Hid (∀ k, k < i → cmpW (ws.getD k wz) ⟨xk, xc, xs', xq, xv, xd, xx⟩ ≠ 0) ∧ Hid (Below W1.heap.size W1 wr)) (fun ti _ => n - (intOf ti).toNat)
  case atStart => exact ⟨0, Nat.zero_le _, rfl, fun k hk => absurd hk (Nat.not_lt_zero k), Below.refl _ _⟩
  case round =>
    obtain ⟨i, hi, rfl, HL, HB⟩ := hrel
    have HBW : Hid (Below w.heap.size w wr) := below_step HA.out HA.out.size HB.out
    by_cases hi' : i < n
    · have hiw : i < ws.length := by rw [HN.out]; exact hi'
      have i1 : (0 : Int) ≤ (i : Int) := by omega
      have i2 : (i : Int) < (n : Int) := by omega
      have qb := (HB.out.block w.heap.size (by rw [HSZ.out]; omega)).trans HBX.out
      have g0 := cell_of_row wr w.heap.size 0 _ _ _ qb
      have g1 := cell_of_row wr w.heap.size 1 _ _ _ qb
      have g2 := cell_of_row wr w.heap.size 2 _ _ _ qb
      have g3 := cell_of_row wr w.heap.size 3 _ _ _ qb
      have g4 := cell_of_row wr w.heap.size 4 _ _ _ qb
      have g5 := cell_of_row wr w.heap.size 5 _ _ _ qb
      have g6 := cell_of_row wr w.heap.size 6 _ _ _ qb
      simp at g0 g1 g2 g3 g4 g5 g6
      have hlt : w.heap.size < wr.heap.size := by have := HB.out.size; rw [HSZ.out] at this; omega
      clear qb
      obtain ⟨b, o, ad2, cp2, rfl, hz, ⟨e0, e1, e2, e3, e4, e5, e6⟩, hde⟩ := HH.out.at HBW.out HN.out hi'
      have hyl := HX.out i hiw
      have HC : Hid (∀ p : Aft wr.heap.size wr, Calls Try.prog 27 #[wrOf (ws.getD i wz) ad2 cp2, wrV xk xc xs' xq xv xd ad xx.length cp] p.now fun e w' => e = .returned (.int .i64 (cmpW (ws.getD i wz) ⟨xk, xc, xs', xq, xv, xd, xx⟩)) ∧ Below p.now.heap.size p.now w') := fun p =>
        specWriteCmp_gen _ _ _ _ _ _ _ (ws.getD i wz).xs _ _ _ _ _ _ _ _ _ xx _ _ _ rfl rfl hyl hxl (hde.below p.below) (HD.out.below (below_step HBW.out HBW.out.size p.below))
      unfold wrOf at HC
      have HHIT : Hid (cmpW (ws.getD i wz) ⟨xk, xc, xs', xq, xv, xd, xx⟩ = 0 → hasL ws ⟨xk, xc, xs', xq, xv, xd, xx⟩ = true) := fun h => hasL_hit hiw h
      have HNXT : Hid (cmpW (ws.getD i wz) ⟨xk, xc, xs', xq, xv, xd, xx⟩ ≠ 0 → ∀ k, k < i + 1 → cmpW (ws.getD k wz) ⟨xk, xc, xs', xq, xv, xd, xx⟩ ≠ 0) := fun h k hk => by
        by_cases e : k = i
        · rw [e]; exact h
        · exact HL.out k (by omega)
      clear hde
      generalize ws.getD i wz = y at *
      obtain ⟨yk, yc, ys, yq, yv, yd, yy⟩ := y
      simp only at e0 e1 e2 e3 e4 e5 e6 HC hyl
      obtain ⟨z, hz0⟩ : ∃ z, cmpW ⟨yk, yc, ys, yq, yv, yd, yy⟩ ⟨xk, xc, xs', xq, xv, xd, xx⟩ = z := ⟨_, rfl⟩
      rw [hz0] at HHIT HNXT
      have HC' : Hid (∀ p : Aft wr.heap.size wr, Calls Try.prog 27 #[wrV yk yc ys yq yv yd ad2 yy.length cp2, wrV xk xc xs' xq xv xd ad xx.length cp] p.now fun e w' => e = .returned (.int .i64 z) ∧ Below p.now.heap.size p.now w') := by rw [← hz0]; exact HC
      clear HC hz0
      go_wp2_with fail
      have gg0 := aft_cell hlt g0
      have gg1 := aft_cell hlt g1
      have gg2 := aft_cell hlt g2
      have gg3 := aft_cell hlt g3
      have gg4 := aft_cell hlt g4
      have gg5 := aft_cell hlt g5
      have gg6 := aft_cell hlt g6
      have ge0 := aft_cell hz e0
      have ge1 := aft_cell hz e1
      have ge2 := aft_cell hz e2
      have ge3 := aft_cell hz e3
      have ge4 := aft_cell hz e4
      have ge5 := aft_cell hz e5
      have ge6 := aft_cell hz e6
      have ne := aft_some wr
      refine wp_region_aft (by kernel_rfl) (by kernel_rfl) ?_
      repeat (first | go_big_quiet_step (first | (go_at_call 27; exact aft_of (HC'.out _))))
      refine wpQuiet_nil ?_
      intro wq hq
      have HBQ : Hid (Below W1.heap.size W1 wq) := below_step HB.out HB.out.size hq
      have HBF : Hid (Below w.heap.size w wq) := below_step HBW.out HBW.out.size hq
      clear hq gg0 gg1 gg2 gg3 gg4 gg5 gg6 ge0 ge1 ge2 ge3 ge4 ge5 ge6 ne
      by_cases hz0 : z = 0
      · have HT := Lib.hid (HHIT.out hz0)
        subst hz0
        go_wp2
        go_ret
        exact ⟨by rw [HT.out]; rfl, HBF.out⟩
      · have HL2 := Lib.hid (HNXT.out hz0)
        go_wp2
        exact ⟨⟨i + 1, by omega, by go_num, HL2, HBQ⟩, by simp [intOf]; omega⟩
    · have hkk : i = n := by omega
      subst hkk
      have HT : Hid (hasL ws ⟨xk, xc, xs', xq, xv, xd, xx⟩ = false) := hasL_none fun k hk => HL.out k (by rw [← HN.out]; exact hk)
      go_wp2
      go_ret
      exact ⟨by rw [HT.out]; rfl, HBW.out⟩

end Go.Proofs.Ytojgahcogpediaa

/- The contract of DrawTagCmp. -/
namespace Go.Proofs.Ytojgahcogpediaa
open Go.ChangeShapes Go.WideShapes Go.ChangeAt Go.RowKit Go.Joins
attribute [local go_sem ↓] Go.wp_at_zero Go.wp_at_succ

theorem Hole.belowOf {B c : Nat} {w0 w w' : World} (h : Hole B w w') (h0 : Below c w0 w) (hB : c ≤ B) (hc : c ≤ w.heap.size) : Below c w0 w' := Hole.below h0 h hB hc

theorem open_as (a : Option Addr) (len cap B : Nat) (w : World) (hB : w.heap.size = B) (h : Bytes w a len) (hl : len ≤ 1048576) :
    Calls Try.prog 57 #[.slice a len cap] w fun e w' => e = .returned (.pointer (some ⟨B, 0, none⟩)) ∧ Cur w' B a len cap 0 ∧ Below w.heap.size w w' := by
  subst hB
  exact open_any a len cap w h hl

theorem two_tags (w : World) (t : Nat) : TagBox ((w.alloc (.cells #[.int .i64 0, .int .i64 0, .int .i64 0] t)).alloc (.cells #[.int .i64 0, .int .i64 0, .int .i64 0] t)) w.heap.size 0 0 0 ∧ TagBox ((w.alloc (.cells #[.int .i64 0, .int .i64 0, .int .i64 0] t)).alloc (.cells #[.int .i64 0, .int .i64 0, .int .i64 0] t)) (w.heap.size + 1) 0 0 0 := by
  have h := TagBox.start (w.alloc (.cells #[.int .i64 0, .int .i64 0, .int .i64 0] t)) 0 0 0 t
  have e : (w.alloc (.cells #[.int .i64 0, .int .i64 0, .int .i64 0] t)).heap.size = w.heap.size + 1 := by simp
  rw [e] at h
  exact ⟨(TagBox.start w 0 0 0 t).hole (Hole.of_below (B := w.heap.size + 2) ((Below.refl _ _).alloc (Nat.le_refl _) _)) (by omega), h⟩

end Go.Proofs.Ytojgahcogpediaa

/- The contract of DrawWriteCmp. -/
namespace Go.Proofs.Ytojgahcogpediaa
open Go.ChangeShapes Go.WideShapes Go.ChangeAt Go.RowKit Go.Joins
attribute [local go_sem ↓] Go.wp_at_zero Go.wp_at_succ

theorem two_writes (w : World) (t : Nat) : WBox ((w.alloc (.cells #[.int .i64 0, .int .i64 0, .int .i64 0, .int .i64 0, .int .i64 0, .bool false, .slice none 0 0] t)).alloc (.cells #[.int .i64 0, .int .i64 0, .int .i64 0, .int .i64 0, .int .i64 0, .bool false, .slice none 0 0] t)) w.heap.size 0 0 0 0 0 false none 0 0 ∧ WBox ((w.alloc (.cells #[.int .i64 0, .int .i64 0, .int .i64 0, .int .i64 0, .int .i64 0, .bool false, .slice none 0 0] t)).alloc (.cells #[.int .i64 0, .int .i64 0, .int .i64 0, .int .i64 0, .int .i64 0, .bool false, .slice none 0 0] t)) (w.heap.size + 1) 0 0 0 0 0 false none 0 0 := by
  have h := WBox.start (w.alloc (.cells #[.int .i64 0, .int .i64 0, .int .i64 0, .int .i64 0, .int .i64 0, .bool false, .slice none 0 0] t)) 0 0 0 0 0 false none 0 0 t
  have e : (w.alloc (.cells #[.int .i64 0, .int .i64 0, .int .i64 0, .int .i64 0, .int .i64 0, .bool false, .slice none 0 0] t)).heap.size = w.heap.size + 1 := by simp
  rw [e] at h
  exact ⟨(WBox.start w 0 0 0 0 0 false none 0 0 t).hole (Hole.of_below (B := w.heap.size + 2) ((Below.refl _ _).alloc (Nat.le_refl _) _)) (by omega), h⟩

/-- What is carried through the drawing of two writes. -/
structure DW (w W : World) (B bA bB g g' : Nat) (a : Option Addr) (len cap : Nat) (N : Int) (k c s q v : Int) (de : Bool) (ds : List Dp) (cp : Nat) (k' c' s' q' v' : Int) (de' : Bool) (ds' : List Dp) (cp' : Nat) : Prop where
  cur : Cur W B a len cap N
  below : Below w.heap.size w W
  r1 : WBox W w.heap.size 0 0 0 0 0 false none 0 0
  r2 : WBox W (w.heap.size + 1) 0 0 0 0 0 false none 0 0
  ba : WBox W bA k c s q v de (some ⟨g, 0, none⟩) ds.length cp
  bb : WBox W bB k' c' s' q' v' de' (some ⟨g', 0, none⟩) ds'.length cp'
  d1 : HoldsDeps W g 0 ds
  d2 : HoldsDeps W g' 0 ds'
  l1 : g < W.heap.size
  l2 : g' < W.heap.size
  eB : B = w.heap.size + 1 + 1
  g1 : B < g
  g2 : B < g'
  gA : g < bA
  gB : bA < bB
  gn : g' ≠ bB
  n1 : ds.length ≤ 7
  n2 : ds'.length ≤ 7

theorem DW.step {w W W' : World} {B bA bB g g' : Nat} {a : Option Addr} {len cap : Nat} {N M : Int} {k c s q v : Int} {de : Bool} {ds : List Dp} {cp : Nat} {k' c' s' q' v' : Int} {de' : Bool} {ds' : List Dp} {cp' : Nat} (h : DW w W B bA bB g g' a len cap N k c s q v de ds cp k' c' s' q' v' de' ds' cp') (hc : Cur W' B a len cap M) (hh : Hole B W W') : DW w W' B bA bB g g' a len cap M k c s q v de ds cp k' c' s' q' v' de' ds' cp' :=
  ⟨hc, hh.belowOf h.below (by have := h.eB; omega) h.below.size, h.r1.hole hh (by have := h.eB; omega), h.r2.hole hh (by have := h.eB; omega), h.ba.hole hh (by have := h.g1; have := h.gA; omega), h.bb.hole hh (by have := h.g1; have := h.gA; have := h.gB; omega), h.d1.hole hh h.l1 (by have := h.g1; omega), h.d2.hole hh h.l2 (by have := h.g2; omega), Nat.lt_of_lt_of_le h.l1 hh.size, Nat.lt_of_lt_of_le h.l2 hh.size, h.eB, h.g1, h.g2, h.gA, h.gB, h.gn, h.n1, h.n2⟩

theorem DW.set {w W : World} {B bA bB g g' : Nat} {a : Option Addr} {len cap : Nat} {N : Int} {k c s q v : Int} {de : Bool} {ds : List Dp} {cp : Nat} {k' c' s' q' v' x1 x2 x3 x4 x5 : Int} {de' x6 : Bool} {ds' : List Dp} {cp' : Nat} (h : DW w W B bA bB g g' a len cap N k c s q v de ds cp k' c' s' q' v' de' ds' cp') (o : Nat) (y : Value) (hb : WBox (W.setCell ⟨bB, o, none⟩ y) bB x1 x2 x3 x4 x5 x6 (some ⟨g', 0, none⟩) ds'.length cp') : DW w (W.setCell ⟨bB, o, none⟩ y) B bA bB g g' a len cap N k c s q v de ds cp x1 x2 x3 x4 x5 x6 ds' cp' := by
  have := h.eB
  have := h.g1
  have := h.gA
  have := h.gB
  exact ⟨h.cur.setOther (by omega) o y, h.below.setCell (by show w.heap.size ≤ bB; omega) y, h.r1.other (by omega) o y, h.r2.other (by omega) o y, h.ba.other (by omega) o y, hb, h.d1.set (by show bB ≠ g; omega) y, h.d2.set (Ne.symm h.gn) y, by simpa [World.setCell] using h.l1, by simpa [World.setCell] using h.l2, h.eB, h.g1, h.g2, h.gA, h.gB, h.gn, h.n1, h.n2⟩

abbrev put7 (W : World) (R : Nat) (v0 v1 v2 v3 v4 v5 v6 : Value) : World :=
  ((((((W.setCell ⟨R, 0, none⟩ v0).setCell ⟨R, 1, none⟩ v1).setCell ⟨R, 2, none⟩ v2).setCell ⟨R, 3, none⟩ v3).setCell ⟨R, 4, none⟩ v4).setCell ⟨R, 5, none⟩ v5).setCell ⟨R, 6, none⟩ v6

theorem holds_put7 {W : World} {R g : Nat} {ds : List Dp} (h : HoldsDeps W g 0 ds) (hn : R ≠ g) (v0 v1 v2 v3 v4 v5 v6 : Value) : HoldsDeps (put7 W R v0 v1 v2 v3 v4 v5 v6) g 0 ds := by
  have h0 := h.set (a := ⟨R, 0, none⟩) hn v0
  have h1 := h0.set (a := ⟨R, 1, none⟩) hn v1
  have h2 := h1.set (a := ⟨R, 2, none⟩) hn v2
  have h3 := h2.set (a := ⟨R, 3, none⟩) hn v3
  have h4 := h3.set (a := ⟨R, 4, none⟩) hn v4
  have h5 := h4.set (a := ⟨R, 5, none⟩) hn v5
  exact h5.set (a := ⟨R, 6, none⟩) hn v6

theorem below_put7 {w W : World} {R : Nat} (h : Below w.heap.size w W) (hR : w.heap.size ≤ R) (v0 v1 v2 v3 v4 v5 v6 : Value) : Below w.heap.size w (put7 W R v0 v1 v2 v3 v4 v5 v6) := by
  have h0 := h.setCell (p := ⟨R, 0, none⟩) hR v0
  have h1 := h0.setCell (p := ⟨R, 1, none⟩) hR v1
  have h2 := h1.setCell (p := ⟨R, 2, none⟩) hR v2
  have h3 := h2.setCell (p := ⟨R, 3, none⟩) hR v3
  have h4 := h3.setCell (p := ⟨R, 4, none⟩) hR v4
  have h5 := h4.setCell (p := ⟨R, 5, none⟩) hR v5
  exact h5.setCell (p := ⟨R, 6, none⟩) hR v6

theorem holds_drew {W : World} {g : Nat} {ds : List Dp} (h : HoldsDeps W g 0 ds) : HoldsDeps W.drew g 0 ds := h

theorem draw_end {w W : World} {B bA bB g g' : Nat} {a : Option Addr} {len cap : Nat} {N : Int} {k c s q v : Int} {de : Bool} {ds : List Dp} {cp : Nat} {k' c' s' q' v' : Int} {de' : Bool} {ds' : List Dp} {cp' : Nat} (h : DW w W B bA bB g g' a len cap N k c s q v de ds cp k' c' s' q' v' de' ds' cp') (v0 v1 v2 v3 v4 v5 v6 u0 u1 u2 u3 u4 u5 u6 : Value) :
    g < (put7 (put7 W w.heap.size v0 v1 v2 v3 v4 v5 v6) (w.heap.size + 1) u0 u1 u2 u3 u4 u5 u6).drew.heap.size ∧ g' < (put7 (put7 W w.heap.size v0 v1 v2 v3 v4 v5 v6) (w.heap.size + 1) u0 u1 u2 u3 u4 u5 u6).drew.heap.size ∧ HoldsDeps (put7 (put7 W w.heap.size v0 v1 v2 v3 v4 v5 v6) (w.heap.size + 1) u0 u1 u2 u3 u4 u5 u6).drew g 0 ds ∧ HoldsDeps (put7 (put7 W w.heap.size v0 v1 v2 v3 v4 v5 v6) (w.heap.size + 1) u0 u1 u2 u3 u4 u5 u6).drew g' 0 ds' ∧ Below w.heap.size w (put7 (put7 W w.heap.size v0 v1 v2 v3 v4 v5 v6) (w.heap.size + 1) u0 u1 u2 u3 u4 u5 u6).drew := by
  have := h.eB
  have := h.g1
  have := h.g2
  have a1 : w.heap.size ≠ g := by omega
  have a2 : w.heap.size + 1 ≠ g := by omega
  have b1 : w.heap.size ≠ g' := by omega
  have b2 : w.heap.size + 1 ≠ g' := by omega
  exact ⟨by simpa [World.setCell] using h.l1, by simpa [World.setCell] using h.l2, holds_drew (holds_put7 (holds_put7 h.d1 a1 _ _ _ _ _ _ _) a2 _ _ _ _ _ _ _), holds_drew (holds_put7 (holds_put7 h.d2 b1 _ _ _ _ _ _ _) b2 _ _ _ _ _ _ _), (below_put7 (below_put7 h.below (Nat.le_refl _) _ _ _ _ _ _ _) (by omega) _ _ _ _ _ _ _).drew⟩

theorem cur_put7 {W : World} {B R : Nat} {a : Option Addr} {len cap : Nat} {N : Int} (h : Cur W B a len cap N) (hR : B < R) (v0 v1 v2 v3 v4 v5 v6 : Value) : Cur (put7 W R v0 v1 v2 v3 v4 v5 v6) B a len cap N := by
  have h0 := h.setOther hR 0 v0
  have h1 := h0.setOther hR 1 v1
  have h2 := h1.setOther hR 2 v2
  have h3 := h2.setOther hR 3 v3
  have h4 := h3.setOther hR 4 v4
  have h5 := h4.setOther hR 5 v5
  exact h5.setOther hR 6 v6

theorem box_put7 {W : World} {R b : Nat} {k c s q v : Int} {de : Bool} {x : Option Addr} {len cap : Nat} (h : WBox W b k c s q v de x len cap) (hn : R ≠ b) (v0 v1 v2 v3 v4 v5 v6 : Value) : WBox (put7 W R v0 v1 v2 v3 v4 v5 v6) b k c s q v de x len cap := by
  have h0 := h.other hn 0 v0
  have h1 := h0.other hn 1 v1
  have h2 := h1.other hn 2 v2
  have h3 := h2.other hn 3 v3
  have h4 := h3.other hn 4 v4
  have h5 := h4.other hn 5 v5
  exact h5.other hn 6 v6

theorem box_own7 {W : World} {b : Nat} {k0 c0 s0 q0 v0 : Int} {de0 : Bool} {x0 : Option Addr} {len0 cap0 : Nat} (h : WBox W b k0 c0 s0 q0 v0 de0 x0 len0 cap0) (k c s q v : Int) (de : Bool) (x : Option Addr) (len cap : Nat) : WBox (put7 W b (.int .i64 k) (.int .i64 c) (.int .i64 s) (.int .i64 q) (.int .i64 v) (.bool de) (.slice x len cap)) b k c s q v de x len cap := by
  have h0 := h.set0 k
  have h1 := h0.set1 c
  have h2 : WBox ((((W.setCell ⟨b, 0, none⟩ (.int .i64 k)).setCell ⟨b, 1, none⟩ (.int .i64 c)).setCell ⟨b, 2, none⟩ (.int .i64 s))) b k c s q0 v0 de0 x0 len0 cap0 :=
    ⟨by simpa [World.setCell] using h1.lt, cell_set_off h1.c0 (by omega), cell_set_off h1.c1 (by omega), cell_set_same h1.c2, cell_set_off h1.c3 (by omega), cell_set_off h1.c4 (by omega), cell_set_off h1.c5 (by omega), cell_set_off h1.c6 (by omega), fun o => by rw [World.frozen?_setCell]; exact h1.fz o⟩
  have h3 : WBox (((((W.setCell ⟨b, 0, none⟩ (.int .i64 k)).setCell ⟨b, 1, none⟩ (.int .i64 c)).setCell ⟨b, 2, none⟩ (.int .i64 s))).setCell ⟨b, 3, none⟩ (.int .i64 q)) b k c s q v0 de0 x0 len0 cap0 :=
    ⟨by simpa [World.setCell] using h2.lt, cell_set_off h2.c0 (by omega), cell_set_off h2.c1 (by omega), cell_set_off h2.c2 (by omega), cell_set_same h2.c3, cell_set_off h2.c4 (by omega), cell_set_off h2.c5 (by omega), cell_set_off h2.c6 (by omega), fun o => by rw [World.frozen?_setCell]; exact h2.fz o⟩
  have h4 := h3.set4 v
  have h5 := h4.set5 de
  exact h5.set6 x len cap

end Go.Proofs.Ytojgahcogpediaa
