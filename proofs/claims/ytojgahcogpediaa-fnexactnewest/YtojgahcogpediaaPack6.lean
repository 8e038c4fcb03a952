import Derived.Test.YtojgahcogpediaaPack3
import Derived.Test.YtojgahcogpediaaPack4
import Derived.Test.YtojgahcogpediaaPack1
import Derived.Test.YtojgahcogpediaaPack5
import Derived.Test.YtojgahcogpediaaPack2
/- The newest of some writes: plain facts, and a box of a write that is stored to. -/
namespace Go.Proofs.Ytojgahcogpediaa
open Go.ChangeShapes Go.WideShapes Go.ChangeAt Go.RowKit Go.Joins

def newStep (b y : Wr) : Wr := if 0 < cmpW y b then y else b

/-- The newest of the first k. -/
def newAt (ws : List Wr) (k : Nat) : Wr := (ws.take k).foldl newStep (ws.getD 0 wz)

/-- All are of one key. -/
def OneKey (ws : List Wr) : Prop := 0 < ws.length ∧ ∀ j, j < ws.length → (ws.getD j wz).k = (ws.getD 0 wz).k

theorem newAt_zero (ws : List Wr) : newAt ws 0 = ws.getD 0 wz := by simp [newAt]

theorem newAt_next (ws : List Wr) (k : Nat) (h : k < ws.length) : newAt ws (k + 1) = newStep (newAt ws k) (ws.getD k wz) := by
  unfold newAt
  rw [List.take_add_one, List.getElem?_eq_getElem h, Option.toList_some, List.foldl_append]
  simp [List.getD, h]

/-- The newest is one of them. -/
theorem newAt_mem (ws : List Wr) (h : 0 < ws.length) : ∀ k, k ≤ ws.length → ∃ j, j < ws.length ∧ newAt ws k = ws.getD j wz
  | 0, _ => ⟨0, h, newAt_zero ws⟩
  | k + 1, hk => by
    obtain ⟨j, hj, e⟩ := newAt_mem ws h k (by omega)
    rw [newAt_next ws k (by omega)]
    unfold newStep
    split
    · exact ⟨k, by omega, rfl⟩
    · exact ⟨j, hj, e⟩

/-- What is told of a row: the newest, or nothing. -/
def NewIs (ws : List Wr) (x : Wr) (ok : Bool) : Prop := (OneKey ws ∧ x = newAt ws ws.length ∧ ok = true) ∨ (¬ OneKey ws ∧ x = wz ∧ ok = false)

theorem new_same {ws : List Wr} {x y : Wr} {p q : Bool} (h : NewIs ws x p) (h' : NewIs ws y q) : x = y ∧ p = q := by
  rcases h with ⟨h1, h2, h3⟩ | ⟨h1, h2, h3⟩ <;> rcases h' with ⟨g1, g2, g3⟩ | ⟨g1, g2, g3⟩
  · exact ⟨h2.trans g2.symm, h3.trans g3.symm⟩
  · exact absurd h1 g1
  · exact absurd g1 h1
  · exact ⟨h2.trans g2.symm, h3.trans g3.symm⟩

theorem new_len {ws : List Wr} {x : Wr} {p : Bool} (hx : Few ws) (h : NewIs ws x p) : x.xs.length ≤ 1048576 := by
  rcases h with ⟨h1, h2, h3⟩ | ⟨h1, h2, h3⟩
  · obtain ⟨j, hj, e⟩ := newAt_mem ws h1.1 ws.length (Nat.le_refl _)
    rw [h2, e]
    exact hx j hj
  · rw [h2]
    simp [wz]

/-- A write in a block of its own that may be stored to. -/
structure NBox (w : World) (b : Nat) (k c s q v : Int) (de : Bool) (x : Option Addr) (len cap : Nat) : Prop where
  lt : b < w.heap.size
  c0 : w.cell? ⟨b, 0, none⟩ = some (.int .i64 k)
  c1 : w.cell? ⟨b, 1, none⟩ = some (.int .i64 c)
  c2 : w.cell? ⟨b, 2, none⟩ = some (.int .i64 s)
  c3 : w.cell? ⟨b, 3, none⟩ = some (.int .i64 q)
  c4 : w.cell? ⟨b, 4, none⟩ = some (.int .i64 v)
  c5 : w.cell? ⟨b, 5, none⟩ = some (.bool de)
  c6 : w.cell? ⟨b, 6, none⟩ = some (.slice x len cap)
  fz : ∀ o, w.frozen? ⟨b, o, none⟩ = false

theorem NBox.start (w : World) (k c s q v : Int) (de : Bool) (x : Option Addr) (len cap : Nat) (t : Nat) : NBox (w.alloc (.cells #[.int .i64 k, .int .i64 c, .int .i64 s, .int .i64 q, .int .i64 v, .bool de, .slice x len cap] t)) w.heap.size k c s q v de x len cap :=
  ⟨by simp, by simp [go_sem], by simp [go_sem], by simp [go_sem], by simp [go_sem], by simp [go_sem], by simp [go_sem], by simp [go_sem], fun o => by simp [go_sem]⟩

theorem NBox.step {w w1 : World} {b : Nat} {k c s q v : Int} {de : Bool} {x : Option Addr} {len cap : Nat} (h : NBox w b k c s q v de x len cap) (hb : Below w.heap.size w w1) : NBox w1 b k c s q v de x len cap :=
  ⟨Nat.lt_of_lt_of_le h.lt hb.size, held_cell hb h.c0 h.lt, held_cell hb h.c1 h.lt, held_cell hb h.c2 h.lt, held_cell hb h.c3 h.lt, held_cell hb h.c4 h.lt, held_cell hb h.c5 h.lt, held_cell hb h.c6 h.lt, fun o => (hb.frozen (p := ⟨b, o, none⟩) h.lt).trans (h.fz o)⟩

theorem NBox.drew {w : World} {b : Nat} {k c s q v : Int} {de : Bool} {x : Option Addr} {len cap : Nat} (h : NBox w b k c s q v de x len cap) : NBox w.drew b k c s q v de x len cap :=
  h.step (Below.refl _ _).drew

/-- A write stored as a whole. -/
def putN (w : World) (b : Nat) (k c s q v : Int) (de : Bool) (x : Option Addr) (len cap : Nat) : World := ((((((w.setCell ⟨b, 0, none⟩ (.int .i64 k)).setCell ⟨b, 1, none⟩ (.int .i64 c)).setCell ⟨b, 2, none⟩ (.int .i64 s)).setCell ⟨b, 3, none⟩ (.int .i64 q)).setCell ⟨b, 4, none⟩ (.int .i64 v)).setCell ⟨b, 5, none⟩ (.bool de)).setCell ⟨b, 6, none⟩ (.slice x len cap)

theorem NBox.put {w : World} {b : Nat} {k c s q v : Int} {de : Bool} {x : Option Addr} {len cap : Nat} (h : NBox w b k c s q v de x len cap) (k' c' s' q' v' : Int) (de' : Bool) (x' : Option Addr) (len' cap' : Nat) : NBox (putN w b k' c' s' q' v' de' x' len' cap') b k' c' s' q' v' de' x' len' cap' := by
  have a0 : ((w.setCell ⟨b, 0, none⟩ (.int .i64 k'))).cell? ⟨b, 0, none⟩ = some (.int .i64 k') := cell_set_same h.c0
  have h1 := (cell_set_off h.c1 (v := .int .i64 k') (o := 0) (by omega))
  have a1 := cell_set_same (v := .int .i64 c') h1
  have h2 := (cell_set_off (cell_set_off h.c2 (v := .int .i64 k') (o := 0) (by omega)) (v := .int .i64 c') (o := 1) (by omega))
  have a2 := cell_set_same (v := .int .i64 s') h2
  have h3 := (cell_set_off (cell_set_off (cell_set_off h.c3 (v := .int .i64 k') (o := 0) (by omega)) (v := .int .i64 c') (o := 1) (by omega)) (v := .int .i64 s') (o := 2) (by omega))
  have a3 := cell_set_same (v := .int .i64 q') h3
  have h4 := (cell_set_off (cell_set_off (cell_set_off (cell_set_off h.c4 (v := .int .i64 k') (o := 0) (by omega)) (v := .int .i64 c') (o := 1) (by omega)) (v := .int .i64 s') (o := 2) (by omega)) (v := .int .i64 q') (o := 3) (by omega))
  have a4 := cell_set_same (v := .int .i64 v') h4
  have h5 := (cell_set_off (cell_set_off (cell_set_off (cell_set_off (cell_set_off h.c5 (v := .int .i64 k') (o := 0) (by omega)) (v := .int .i64 c') (o := 1) (by omega)) (v := .int .i64 s') (o := 2) (by omega)) (v := .int .i64 q') (o := 3) (by omega)) (v := .int .i64 v') (o := 4) (by omega))
  have a5 := cell_set_same (v := .bool de') h5
  have h6 := (cell_set_off (cell_set_off (cell_set_off (cell_set_off (cell_set_off (cell_set_off h.c6 (v := .int .i64 k') (o := 0) (by omega)) (v := .int .i64 c') (o := 1) (by omega)) (v := .int .i64 s') (o := 2) (by omega)) (v := .int .i64 q') (o := 3) (by omega)) (v := .int .i64 v') (o := 4) (by omega)) (v := .bool de') (o := 5) (by omega))
  have a6 := cell_set_same (v := .slice x' len' cap') h6
  unfold putN
  refine ⟨by simpa [World.setCell] using h.lt, ?_, ?_, ?_, ?_, ?_, ?_, ?_, fun o => by simp only [World.frozen?_setCell]; exact h.fz o⟩
  · exact cell_set_off (cell_set_off (cell_set_off (cell_set_off (cell_set_off (cell_set_off a0 (by omega)) (by omega)) (by omega)) (by omega)) (by omega)) (by omega)
  · exact cell_set_off (cell_set_off (cell_set_off (cell_set_off (cell_set_off a1 (by omega)) (by omega)) (by omega)) (by omega)) (by omega)
  · exact cell_set_off (cell_set_off (cell_set_off (cell_set_off a2 (by omega)) (by omega)) (by omega)) (by omega)
  · exact cell_set_off (cell_set_off (cell_set_off a3 (by omega)) (by omega)) (by omega)
  · exact cell_set_off (cell_set_off a4 (by omega)) (by omega)
  · exact cell_set_off a5 (by omega)
  · exact a6

theorem NBox.off1 {w : World} {b R : Nat} {k c s q v : Int} {de : Bool} {x : Option Addr} {len cap : Nat} (h : NBox w b k c s q v de x len cap) (hn : R ≠ b) (o : Nat) (y : Value) : NBox (w.setCell ⟨R, o, none⟩ y) b k c s q v de x len cap := by
  have hne : ∀ o', (Addr.mk R o none) ≠ ⟨b, o', none⟩ := fun o' e => hn (by injection e)
  exact ⟨by simpa [World.setCell] using h.lt, (World.cell?_setCell_other _ _ _ _ (hne _)).trans h.c0, (World.cell?_setCell_other _ _ _ _ (hne _)).trans h.c1, (World.cell?_setCell_other _ _ _ _ (hne _)).trans h.c2, (World.cell?_setCell_other _ _ _ _ (hne _)).trans h.c3, (World.cell?_setCell_other _ _ _ _ (hne _)).trans h.c4, (World.cell?_setCell_other _ _ _ _ (hne _)).trans h.c5, (World.cell?_setCell_other _ _ _ _ (hne _)).trans h.c6, fun o => by rw [World.frozen?_setCell]; exact h.fz o⟩

theorem NBox.off {w : World} {b R : Nat} {k c s q v : Int} {de : Bool} {x : Option Addr} {len cap : Nat} (h : NBox w b k c s q v de x len cap) (hn : R ≠ b) (k' c' s' q' v' : Int) (de' : Bool) (x' : Option Addr) (len' cap' : Nat) : NBox (putN w R k' c' s' q' v' de' x' len' cap') b k c s q v de x len cap :=
  ((((((h.off1 hn 0 _).off1 hn 1 _).off1 hn 2 _).off1 hn 3 _).off1 hn 4 _).off1 hn 5 _).off1 hn 6 _

theorem below_putN {B : Nat} {w w1 : World} (h : Below B w w1) {b : Nat} (hb : B ≤ b) (k c s q v : Int) (de : Bool) (x : Option Addr) (len cap : Nat) : Below B w (putN w1 b k c s q v de x len cap) :=
  ((((((h.setCell hb _).setCell hb _).setCell hb _).setCell hb _).setCell hb _).setCell hb _).setCell hb _

theorem size_putN (w : World) (b : Nat) (k c s q v : Int) (de : Bool) (x : Option Addr) (len cap : Nat) : (putN w b k c s q v de x len cap).heap.size = w.heap.size := by
  simp [putN, World.setCell]

end Go.Proofs.Ytojgahcogpediaa

/- The newest of some writes, the program's side: the contract of impl.Newest. -/
namespace Go.Proofs.Ytojgahcogpediaa
open Go.ChangeShapes Go.WideShapes Go.ChangeAt Go.RowKit Go.Joins
attribute [local go_sem ↓] Go.wp_at_zero Go.wp_at_succ

/-- What the program tells: the newest, in memory of its own. -/
def NewOut (ws : List Wr) (w : World) (e : Ending) (w' : World) : Prop := ∃ x ok ad g cp, e = .returned (.tuple #[wrOf x ad cp, .bool ok]) ∧ FreshDeps w.heap.size w' ad g x.xs ∧ NewIs ws x ok ∧ Below w.heap.size w w'

set_option maxRecDepth 100000 in
set_option maxHeartbeats 8000000 in
theorem implNewest_any (a : Option Addr) (n cap : Nat) (ws : List Wr) (w : World) (hn : ws.length = n) (hm : n ≤ 1048576) (hx : Few ws) (hh : IsWs w a ws) :
    Calls Try.prog 15 #[.slice a n cap] w fun e w' => NewOut ws w e w' := by
  have HH := Lib.hid hh
  have HN := Lib.hid hn
  have HX := Lib.hid hx
  clear hh hn hx
  have HB0 : Hid (Below w.heap.size w (w.alloc (.cells #[.int .i64 0, .int .i64 0, .int .i64 0, .int .i64 0, .int .i64 0, .bool false, .slice none 0 0] 41))) := (Below.refl _ _).alloc (Nat.le_refl _) _
  go_enter Try.func15, Try.ntmps15
  by_cases h0 : n = 0
  · subst h0
    have HNo : Hid (¬ OneKey ws) := fun h => absurd h.1 (by rw [HN.out]; omega)
    go_wp2
    refine bodyPost_ret (v := .tuple #[wrV 0 0 0 0 0 false none 0 0, .bool false]) (by simp [results, Try.results15, go_sem]) rfl ⟨wz, false, none, 0, 0, rfl, fun hp => absurd hp (by simp [wz]), .inr ⟨HNo.out, rfl, rfl⟩, ?_⟩
    first | exact HB0.out | exact below_putN HB0.out (Nat.le_refl _) _ _ _ _ _ _ _ _ _
  · have hpos : 0 < n := by omega
    have hne : ((n : Int) == 0) = false := by simpa using (by omega : ¬ (n : Int) = 0)
    have hni : (0 : Int) < (n : Int) := by omega
    obtain ⟨b, o, ad, cp, rfl, hall⟩ := HH.out.later HN.out hpos
    obtain ⟨hz, ⟨e0, e1, e2, e3, e4, e5, e6⟩, -⟩ := hall _ HB0.out
    have HD := Lib.hid (hall w (Below.refl _ _)).2.2
    have hxl := HX.out 0 (by rw [HN.out]; exact hpos)
    have HF : Hid (newAt ws 0 = ws.getD 0 wz) := newAt_zero ws
    obtain ⟨key, hkey⟩ : ∃ key, (ws.getD 0 wz).k = key := ⟨_, rfl⟩
    have HONE : Hid ((∀ j, j < n → (ws.getD j wz).k = key) → OneKey ws) := fun h => ⟨by rw [HN.out]; exact hpos, fun j hj => by rw [hkey]; exact h j (by rw [← HN.out]; exact hj)⟩
    have HNOT : Hid (∀ j, j < n → (ws.getD j wz).k ≠ key → ¬ OneKey ws) := fun j hj h h' => h (by rw [← hkey]; exact h'.2 j (by rw [HN.out]; exact hj))
    clear hall
    generalize ws.getD 0 wz = x0 at *
    obtain ⟨xk, xc, xs', xq, xv, xd, xx⟩ := x0
    simp only [Nat.zero_mul, Nat.add_zero] at e0 e1 e2 e3 e4 e5 e6 hxl HD hkey
    subst hkey
    go_wp2
    go_loopw [16] (fun i wr => ∃ (k : Nat) (x : Wr) (ax : Option Addr) (cx : Nat), k ≤ n ∧ i = .int .i64 k ∧ Hid (newAt ws k = x) ∧ Hid (x.k = xk) ∧ Hid (∀ j, j < k → (ws.getD j wz).k = xk) ∧ Hid (NBox wr (w.heap.size + 1) x.k x.c x.s x.q x.v x.de ax x.xs.length cx) ∧ Hid (NBox wr w.heap.size 0 0 0 0 0 false none 0 0) ∧ Hid (IsDeps w ax x.xs) ∧ x.xs.length ≤ 1048576 ∧ Hid (Below w.heap.size w wr)) (fun i _ => n - (intOf i).toNat)
    case atStart =>
      refine ⟨0, _, ad, cp, Nat.zero_le _, rfl, HF, rfl, fun j hj => absurd hj (Nat.not_lt_zero j), ?_, ?_, HD, hxl, ?_⟩
      · have := NBox.start (w.alloc (.cells #[.int .i64 0, .int .i64 0, .int .i64 0, .int .i64 0, .int .i64 0, .bool false, .slice none 0 0] 41)) xk xc xs' xq xv xd ad xx.length cp 41
        simpa [Hid] using this
      · exact (NBox.start w 0 0 0 0 0 false none 0 0 41).step ((Below.refl _ _).alloc (Nat.le_refl _) _)
      · exact HB0.out.alloc HB0.out.size _
    case round =>
      obtain ⟨k, x, ax, cx, hk, rfl, HE, hxk, HK, HX4, HX2, HDX, hxx, HB⟩ := hrel
      by_cases hk' : k < n
      · have i1 : (0 : Int) ≤ (k : Int) := by omega
        have i2 : (k : Int) < (n : Int) := by omega
        obtain ⟨b', o', ad', cp', he, hall⟩ := HH.out.later HN.out hk'
        injection he with he
        injection he with e8 e9
        subst e8 e9
        obtain ⟨hzr, ⟨r0, r1, r2, r3, r4, r5, r6⟩, -⟩ := hall _ HB.out
        have HDY := Lib.hid (hall w (Below.refl _ _)).2.2
        have hyl := HX.out k (by rw [HN.out]; exact hk')
        have HNXT : Hid (newAt ws (k + 1) = newStep x (ws.getD k wz)) := (newAt_next ws k (by rw [HN.out]; exact hk')).trans (by rw [HE.out])
        have HNO : Hid ((ws.getD k wz).k ≠ xk → ¬ OneKey ws) := HNOT.out k hk'
        have HKK : Hid ((ws.getD k wz).k = xk → ∀ j, j < k + 1 → (ws.getD j wz).k = xk) := fun h j hj => by
          by_cases e : j = k
          · rw [e]; exact h
          · exact HK.out j (by omega)
        clear hall e0 e1 e2 e3 e4 e5 e6
        generalize ws.getD k wz = y at *
        obtain ⟨yk, yc, ys, yq, yv, yd, yy⟩ := y
        simp only at r0 r1 r2 r3 r4 r5 r6 hyl HDY HNO HKK
        obtain ⟨xk0, xc0, xs0, xq0, xv0, xd0, xx0⟩ := x
        have hxk := hxk.out
        simp only at hxk HX4 HDX hxx
        subst hxk
        have s0 := HX4.out.c0
        have s1 := HX4.out.c1
        have s2 := HX4.out.c2
        have s3 := HX4.out.c3
        have s4 := HX4.out.c4
        have s5 := HX4.out.c5
        have s6 := HX4.out.c6
        have hl4 := HX4.out.lt
        have hl2 := HX2.out.lt
        by_cases hkey : yk = xk0
        · subst hkey
          obtain ⟨z, hz0⟩ : ∃ z, cmpW ⟨yk, yc, ys, yq, yv, yd, yy⟩ ⟨yk, xc0, xs0, xq0, xv0, xd0, xx0⟩ = z := ⟨_, rfl⟩
          have HKK' := Lib.hid (HKK.out rfl)
          have HBY : Hid (Below wr.heap.size wr (wr.alloc (.cells #[.int .i64 yk, .int .i64 yc, .int .i64 ys, .int .i64 yq, .int .i64 yv, .bool yd, .slice ad' yy.length cp'] 41))) := (Below.refl _ _).alloc (Nat.le_refl _) _
          have HBA : Hid (Below w.heap.size w (wr.alloc (.cells #[.int .i64 yk, .int .i64 yc, .int .i64 ys, .int .i64 yq, .int .i64 yv, .bool yd, .slice ad' yy.length cp'] 41))) := HB.out.alloc HB.out.size _
          go_wp2_with fail
          refine (implWriteCmp_gen yk yc ys yq yv yd ad' yy _ cp' yk xc0 xs0 xq0 xv0 xd0 ax xx0 _ cx _ rfl rfl hyl hxx (HDY.out.below HBA.out) (HDX.out.below HBA.out)).mono ?_
          rintro e w2 ⟨rfl, hb⟩
          have HC : Hid (wcmp yk yc ys yq yv yd yy yk xc0 xs0 xq0 xv0 xd0 xx0 = z) := hz0
          rw [HC.out]
          have HB2 : Hid (Below w.heap.size w w2) := below_step HBA.out HBA.out.size hb
          have HY2 : Hid (NBox w2 wr.heap.size yk yc ys yq yv yd ad' yy.length cp') := (NBox.start wr yk yc ys yq yv yd ad' yy.length cp' _).step hb
          have HX42 := Lib.hid ((HX4.out.step HBY.out).step hb)
          have HX22 := Lib.hid ((HX2.out.step HBY.out).step hb)
          have y0 := HY2.out.c0
          have y1 := HY2.out.c1
          have y2 := HY2.out.c2
          have y3 := HY2.out.c3
          have y4 := HY2.out.c4
          have y5 := HY2.out.c5
          have y6 := HY2.out.c6
          have hy := HY2.out.lt
          clear hb
          by_cases hz1 : 0 < z
          · have HE2 : Hid (newAt ws (k + 1) = ⟨yk, yc, ys, yq, yv, yd, yy⟩) := HNXT.out.trans (by unfold newStep; rw [if_pos (by rw [hz0]; exact hz1)])
            have t0 := HX42.out.c0
            have t1 := HX42.out.c1
            have t2 := HX42.out.c2
            have t3 := HX42.out.c3
            have t4 := HX42.out.c4
            have t5 := HX42.out.c5
            have t6 := HX42.out.c6
            have f4 := HX42.out.fz
            have hl := HX42.out.lt
            have HP4 := Lib.hid (HX42.out.put yk yc ys yq yv yd ad' yy.length cp')
            have HBP := Lib.hid (below_putN HB2.out (b := w.heap.size + 1) (Nat.le_succ _) yk yc ys yq yv yd ad' yy.length cp')
            have HP2 := Lib.hid (HX22.out.off (R := w.heap.size + 1) (by omega) yk yc ys yq yv yd ad' yy.length cp')
            go_wp2
            exact ⟨⟨k + 1, _, ad', cp', by omega, by go_num, HE2, rfl, HKK', HP4, HP2, HDY, hyl, HBP⟩, by simp [intOf]; omega⟩
          · have HE2 : Hid (newAt ws (k + 1) = ⟨yk, xc0, xs0, xq0, xv0, xd0, xx0⟩) := HNXT.out.trans (by unfold newStep; rw [if_neg (by rw [hz0]; exact hz1)])
            go_wp2
            exact ⟨⟨k + 1, _, ax, cx, by omega, by go_num, HE2, rfl, HKK', HX42, HX22, HDX, hxx, HB2⟩, by simp [intOf]; omega⟩
        · have HNo := Lib.hid (HNO.out hkey)
          have z0 := HX2.out.c0
          have z1 := HX2.out.c1
          have z2 := HX2.out.c2
          have z3 := HX2.out.c3
          have z4 := HX2.out.c4
          have z5 := HX2.out.c5
          have z6 := HX2.out.c6
          have f2 := HX2.out.fz
          have HB' : Hid (Below w.heap.size w (wr.alloc (.cells #[.int .i64 yk, .int .i64 yc, .int .i64 ys, .int .i64 yq, .int .i64 yv, .bool yd, .slice ad' yy.length cp'] 41))) := HB.out.alloc HB.out.size _
          go_wp2
          have HQ : Hid (NBox ((putN wr w.heap.size 0 0 0 0 0 false none 0 0).alloc (.cells #[.int .i64 yk, .int .i64 yc, .int .i64 ys, .int .i64 yq, .int .i64 yv, .bool yd, .slice ad' yy.length cp'] 41)) w.heap.size 0 0 0 0 0 false none 0 0) := (HX2.out.put 0 0 0 0 0 false none 0 0).step ((Below.refl _ _).alloc (Nat.le_refl _) _)
          have q0 := HQ.out.c0
          have q1 := HQ.out.c1
          have q2 := HQ.out.c2
          have q3 := HQ.out.c3
          have q4 := HQ.out.c4
          have q5 := HQ.out.c5
          have q6 := HQ.out.c6
          unfold putN at q0 q1 q2 q3 q4 q5 q6
          refine bodyPost_ret (v := .tuple #[wrV 0 0 0 0 0 false none 0 0, .bool false]) (by simp [results, Try.results15, go_sem, q0, q1, q2, q3, q4, q5, q6]) rfl ⟨wz, false, none, 0, 0, rfl, fun hp => absurd hp (by simp [wz]), .inr ⟨HNo.out, rfl, rfl⟩, ?_⟩
          have := below_putN HB.out (Nat.le_refl _) 0 0 0 0 0 false none 0 0
          exact this.alloc this.size _
      · have hkk : k = n := by omega
        subst hkk
        have HO := Lib.hid (HONE.out HK.out)
        obtain ⟨xk0, xc0, xs0, xq0, xv0, xd0, xx0⟩ := x
        simp only at HX4 HDX hxx
        have s0 := HX4.out.c0
        have s1 := HX4.out.c1
        have s2 := HX4.out.c2
        have s3 := HX4.out.c3
        have s4 := HX4.out.c4
        have s5 := HX4.out.c5
        have s6 := HX4.out.c6
        go_wp2_with fail
        refine (icopy_any ⟨xk0, xc0, xs0, xq0, xv0, xd0, xx0⟩ ax cx _ hxx (HDX.out.below HB.out)).mono ?_
        rintro e w2 ⟨a', g, cp2, rfl, hg, hb⟩
        have HB2 : Hid (Below w.heap.size w w2) := below_step HB.out HB.out.size hb
        have HG := Lib.hid (hg.mono HX2.out.lt)
        have HZ := Lib.hid (HX2.out.step hb)
        have z0 := HZ.out.c0
        have z1 := HZ.out.c1
        have z2 := HZ.out.c2
        have z3 := HZ.out.c3
        have z4 := HZ.out.c4
        have z5 := HZ.out.c5
        have z6 := HZ.out.c6
        have f2 := HZ.out.fz
        have hz2 := HZ.out.lt
        clear hb hg s0 s1 s2 s3 s4 s5 s6 e0 e1 e2 e3 e4 e5 e6
        go_wp2
        refine bodyPost_ret (v := .tuple #[wrV xk0 xc0 xs0 xq0 xv0 xd0 a' xx0.length cp2, .bool true]) (by simp [results, Try.results15, go_sem, z0, z1, z2, z3, z4, z5, z6]) rfl ⟨⟨xk0, xc0, xs0, xq0, xv0, xd0, xx0⟩, true, a', g, cp2, rfl, ((fresh_set7 HG.out (Nat.lt_succ_self _) _ _ _ _ _ _ _ _ _ _ _ _ _ _).mono (Nat.le_succ _)), .inl ⟨HO.out, by rw [HN.out]; exact HE.out.symm, rfl⟩, ?_⟩
        exact below_putN HB2.out (Nat.le_refl _) _ _ _ _ _ _ _ _ _

end Go.Proofs.Ytojgahcogpediaa

/- The newest of some writes, the specification's side: the contract of spec.Newest. -/
namespace Go.Proofs.Ytojgahcogpediaa
open Go.ChangeShapes Go.WideShapes Go.ChangeAt Go.RowKit Go.Joins
attribute [local go_sem ↓] Go.wp_at_zero Go.wp_at_succ

/-- What the specification tells: the newest. -/
def NewTell (ws : List Wr) (w : World) (e : Ending) (w' : World) : Prop := ∃ x ok ad cp, e = .returned (.tuple #[wrOf x ad cp, .bool ok]) ∧ IsDeps w' ad x.xs ∧ NewIs ws x ok ∧ Below w.heap.size w w'

set_option maxRecDepth 100000 in
set_option maxHeartbeats 8000000 in
theorem specNewest_any (a : Option Addr) (n cap : Nat) (ws : List Wr) (w : World) (hn : ws.length = n) (hm : n ≤ 1048576) (hx : Few ws) (hh : IsWs w a ws) :
    Calls Try.prog 13 #[.slice a n cap] w fun e w' => NewTell ws w e w' := by
  have HH := Lib.hid hh
  have HN := Lib.hid hn
  have HX := Lib.hid hx
  clear hh hn hx
  have HB0 : Hid (Below w.heap.size w (w.alloc (.cells #[.int .i64 0, .int .i64 0, .int .i64 0, .int .i64 0, .int .i64 0, .bool false, .slice none 0 0] 41))) := (Below.refl _ _).alloc (Nat.le_refl _) _
  go_enter Try.func13, Try.ntmps13
  by_cases h0 : n = 0
  · subst h0
    have HNo : Hid (¬ OneKey ws) := fun h => absurd h.1 (by rw [HN.out]; omega)
    go_wp2
    refine bodyPost_ret (v := .tuple #[wrV 0 0 0 0 0 false none 0 0, .bool false]) (by simp [results, Try.results13, go_sem]) rfl ⟨wz, false, none, 0, rfl, .inl rfl, .inr ⟨HNo.out, rfl, rfl⟩, ?_⟩
    first | exact HB0.out | exact below_putN HB0.out (Nat.le_refl _) _ _ _ _ _ _ _ _ _
  · have hpos : 0 < n := by omega
    have hne : ((n : Int) == 0) = false := by simpa using (by omega : ¬ (n : Int) = 0)
    have hni : (0 : Int) < (n : Int) := by omega
    obtain ⟨b, o, ad, cp, rfl, hall⟩ := HH.out.later HN.out hpos
    obtain ⟨hz, ⟨e0, e1, e2, e3, e4, e5, e6⟩, -⟩ := hall _ HB0.out
    have HD := Lib.hid (hall w (Below.refl _ _)).2.2
    have hxl := HX.out 0 (by rw [HN.out]; exact hpos)
    have HF : Hid (newAt ws 0 = ws.getD 0 wz) := newAt_zero ws
    obtain ⟨key, hkey⟩ : ∃ key, (ws.getD 0 wz).k = key := ⟨_, rfl⟩
    have HONE : Hid ((∀ j, j < n → (ws.getD j wz).k = key) → OneKey ws) := fun h => ⟨by rw [HN.out]; exact hpos, fun j hj => by rw [hkey]; exact h j (by rw [← HN.out]; exact hj)⟩
    have HNOT : Hid (∀ j, j < n → (ws.getD j wz).k ≠ key → ¬ OneKey ws) := fun j hj h h' => h (by rw [← hkey]; exact h'.2 j (by rw [HN.out]; exact hj))
    clear hall
    generalize ws.getD 0 wz = x0 at *
    obtain ⟨xk, xc, xs', xq, xv, xd, xx⟩ := x0
    simp only [Nat.zero_mul, Nat.add_zero] at e0 e1 e2 e3 e4 e5 e6 hxl HD hkey
    subst hkey
    go_wp2
    go_loopw [5] (fun i wr => ∃ (k : Nat) (x : Wr) (ax : Option Addr) (cx : Nat), k ≤ n ∧ i = .int .i64 k ∧ Hid (newAt ws k = x) ∧ Hid (x.k = xk) ∧ Hid (∀ j, j < k → (ws.getD j wz).k = xk) ∧ Hid (NBox wr (w.heap.size + 1) x.k x.c x.s x.q x.v x.de ax x.xs.length cx) ∧ Hid (NBox wr w.heap.size 0 0 0 0 0 false none 0 0) ∧ Hid (IsDeps w ax x.xs) ∧ x.xs.length ≤ 1048576 ∧ Hid (Below w.heap.size w wr)) (fun i _ => n - (intOf i).toNat)
    case atStart =>
      refine ⟨0, _, ad, cp, Nat.zero_le _, rfl, HF, rfl, fun j hj => absurd hj (Nat.not_lt_zero j), ?_, ?_, HD, hxl, ?_⟩
      · have := NBox.start (w.alloc (.cells #[.int .i64 0, .int .i64 0, .int .i64 0, .int .i64 0, .int .i64 0, .bool false, .slice none 0 0] 41)) xk xc xs' xq xv xd ad xx.length cp 41
        simpa [Hid] using this
      · exact (NBox.start w 0 0 0 0 0 false none 0 0 41).step ((Below.refl _ _).alloc (Nat.le_refl _) _)
      · exact HB0.out.alloc HB0.out.size _
    case round =>
      obtain ⟨k, x, ax, cx, hk, rfl, HE, hxk, HK, HX4, HX2, HDX, hxx, HB⟩ := hrel
      by_cases hk' : k < n
      · have i1 : (0 : Int) ≤ (k : Int) := by omega
        have i2 : (k : Int) < (n : Int) := by omega
        obtain ⟨b', o', ad', cp', he, hall⟩ := HH.out.later HN.out hk'
        injection he with he
        injection he with e8 e9
        subst e8 e9
        obtain ⟨hzr, ⟨r0, r1, r2, r3, r4, r5, r6⟩, -⟩ := hall _ HB.out
        have HR : Hid (∀ w', Below w.heap.size w w' → b < w'.heap.size ∧ WrAt w' b (o + k * 7) (ws.getD k wz) ad' cp') := fun w' h => ⟨(hall w' h).1, (hall w' h).2.1⟩
        have HDY := Lib.hid (hall w (Below.refl _ _)).2.2
        have hyl := HX.out k (by rw [HN.out]; exact hk')
        have HNXT : Hid (newAt ws (k + 1) = newStep x (ws.getD k wz)) := (newAt_next ws k (by rw [HN.out]; exact hk')).trans (by rw [HE.out])
        have HNO : Hid ((ws.getD k wz).k ≠ xk → ¬ OneKey ws) := HNOT.out k hk'
        have HKK : Hid ((ws.getD k wz).k = xk → ∀ j, j < k + 1 → (ws.getD j wz).k = xk) := fun h j hj => by
          by_cases e : j = k
          · rw [e]; exact h
          · exact HK.out j (by omega)
        clear hall e0 e1 e2 e3 e4 e5 e6
        generalize ws.getD k wz = y at *
        obtain ⟨yk, yc, ys, yq, yv, yd, yy⟩ := y
        simp only at r0 r1 r2 r3 r4 r5 r6 hyl HDY HNO HKK
        obtain ⟨xk0, xc0, xs0, xq0, xv0, xd0, xx0⟩ := x
        have hxk := hxk.out
        simp only at hxk HX4 HDX hxx
        subst hxk
        have s0 := HX4.out.c0
        have s1 := HX4.out.c1
        have s2 := HX4.out.c2
        have s3 := HX4.out.c3
        have s4 := HX4.out.c4
        have s5 := HX4.out.c5
        have s6 := HX4.out.c6
        have hl4 := HX4.out.lt
        have hl2 := HX2.out.lt
        have gr0 := aft_cell hzr r0
        have gs0 := aft_cell hl4 s0
        have ne := aft_some wr
        go_wp2_with fail
        refine wp_region_aft (by kernel_rfl) (by kernel_rfl) ?_
        repeat (first | go_big_quiet_step (fail))
        refine wpQuiet_nil ?_
        intro wq hq
        have HBQ : Hid (Below w.heap.size w wq) := below_step HB.out HB.out.size hq
        have HX4q := Lib.hid (HX4.out.step hq)
        have HX2q := Lib.hid (HX2.out.step hq)
        obtain ⟨hzq, q0, q1, q2, q3, q4, q5, q6⟩ := HR.out wq HBQ.out
        simp only at q0 q1 q2 q3 q4 q5 q6
        clear hq gr0 gs0 ne r0 r1 r2 r3 r4 r5 r6 s0 s1 s2 s3 s4 s5 s6 hzr hl4 hl2
        have hl2 := HX2q.out.lt
        by_cases hkey : yk = xk0
        · subst hkey
          obtain ⟨z, hz0⟩ : ∃ z, cmpW ⟨yk, yc, ys, yq, yv, yd, yy⟩ ⟨yk, xc0, xs0, xq0, xv0, xd0, xx0⟩ = z := ⟨_, rfl⟩
          have HKK' := Lib.hid (HKK.out rfl)
          have HC : Hid (∀ p : Aft wq.heap.size wq, Calls Try.prog 27 #[wrV yk yc ys yq yv yd ad' yy.length cp', wrV yk xc0 xs0 xq0 xv0 xd0 ax xx0.length cx] p.now fun e w' => e = .returned (.int .i64 z) ∧ Below p.now.heap.size p.now w') := fun p => by
            have := specWriteCmp_gen yk yc ys yq yv yd ad' yy _ cp' yk xc0 xs0 xq0 xv0 xd0 ax xx0 _ cx p.now rfl rfl hyl hxx (HDY.out.below (below_step HBQ.out HBQ.out.size p.below)) (HDX.out.below (below_step HBQ.out HBQ.out.size p.below))
            rw [← hz0]
            exact this
          go_wp2_with fail
          have gr0 := aft_cell hzq q0
          have gr1 := aft_cell hzq q1
          have gr2 := aft_cell hzq q2
          have gr3 := aft_cell hzq q3
          have gr4 := aft_cell hzq q4
          have gr5 := aft_cell hzq q5
          have gr6 := aft_cell hzq q6
          have gs0 := aft_cell HX4q.out.lt HX4q.out.c0
          have gs1 := aft_cell HX4q.out.lt HX4q.out.c1
          have gs2 := aft_cell HX4q.out.lt HX4q.out.c2
          have gs3 := aft_cell HX4q.out.lt HX4q.out.c3
          have gs4 := aft_cell HX4q.out.lt HX4q.out.c4
          have gs5 := aft_cell HX4q.out.lt HX4q.out.c5
          have gs6 := aft_cell HX4q.out.lt HX4q.out.c6
          have ne := aft_some wq
          refine wp_region_aft (by kernel_rfl) (by kernel_rfl) ?_
          repeat (first | go_big_quiet_step (first | (go_at_call 27; exact aft_of (HC.out _))))
          refine wpQuiet_nil ?_
          intro w2 hb
          have HB2 : Hid (Below w.heap.size w w2) := below_step HBQ.out HBQ.out.size hb
          have HX42 := Lib.hid (HX4q.out.step hb)
          have HX22 := Lib.hid (HX2q.out.step hb)
          obtain ⟨hzp, y0, y1, y2, y3, y4, y5, y6⟩ := HR.out w2 HB2.out
          simp only at y0 y1 y2 y3 y4 y5 y6
          clear hb gr0 gr1 gr2 gr3 gr4 gr5 gr6 gs0 gs1 gs2 gs3 gs4 gs5 gs6 ne q0 q1 q2 q3 q4 q5 q6
          by_cases hz1 : 0 < z
          · have HE2 : Hid (newAt ws (k + 1) = ⟨yk, yc, ys, yq, yv, yd, yy⟩) := HNXT.out.trans (by unfold newStep; rw [if_pos (by rw [hz0]; exact hz1)])
            have t0 := HX42.out.c0
            have t1 := HX42.out.c1
            have t2 := HX42.out.c2
            have t3 := HX42.out.c3
            have t4 := HX42.out.c4
            have t5 := HX42.out.c5
            have t6 := HX42.out.c6
            have f4 := HX42.out.fz
            have hl := HX42.out.lt
            have HP4 := Lib.hid (HX42.out.put yk yc ys yq yv yd ad' yy.length cp')
            have HBP := Lib.hid (below_putN HB2.out (b := w.heap.size + 1) (Nat.le_succ _) yk yc ys yq yv yd ad' yy.length cp')
            have HP2 := Lib.hid (HX22.out.off (R := w.heap.size + 1) (by omega) yk yc ys yq yv yd ad' yy.length cp')
            go_wp2
            exact ⟨⟨k + 1, _, ad', cp', by omega, by go_num, HE2, rfl, HKK', HP4, HP2, HDY, hyl, HBP⟩, by simp [intOf]; omega⟩
          · have HE2 : Hid (newAt ws (k + 1) = ⟨yk, xc0, xs0, xq0, xv0, xd0, xx0⟩) := HNXT.out.trans (by unfold newStep; rw [if_neg (by rw [hz0]; exact hz1)])
            go_wp2
            exact ⟨⟨k + 1, _, ax, cx, by omega, by go_num, HE2, rfl, HKK', HX42, HX22, HDX, hxx, HB2⟩, by simp [intOf]; omega⟩
        · have HNo := Lib.hid (HNO.out hkey)
          have z0 := HX2q.out.c0
          have z1 := HX2q.out.c1
          have z2 := HX2q.out.c2
          have z3 := HX2q.out.c3
          have z4 := HX2q.out.c4
          have z5 := HX2q.out.c5
          have z6 := HX2q.out.c6
          have f2 := HX2q.out.fz
          go_wp2
          have HQ := Lib.hid (HX2q.out.put 0 0 0 0 0 false none 0 0)
          have q0 := HQ.out.c0
          have q1 := HQ.out.c1
          have q2 := HQ.out.c2
          have q3 := HQ.out.c3
          have q4 := HQ.out.c4
          have q5 := HQ.out.c5
          have q6 := HQ.out.c6
          unfold putN at q0 q1 q2 q3 q4 q5 q6
          refine bodyPost_ret (v := .tuple #[wrV 0 0 0 0 0 false none 0 0, .bool false]) (by simp [results, Try.results13, go_sem, q0, q1, q2, q3, q4, q5, q6]) rfl ⟨wz, false, none, 0, rfl, .inl rfl, .inr ⟨HNo.out, rfl, rfl⟩, ?_⟩
          exact below_putN HBQ.out (Nat.le_refl _) 0 0 0 0 0 false none 0 0
      · have hkk : k = n := by omega
        subst hkk
        have HO := Lib.hid (HONE.out HK.out)
        obtain ⟨xk0, xc0, xs0, xq0, xv0, xd0, xx0⟩ := x
        simp only at HX4 HDX hxx
        have s0 := HX4.out.c0
        have s1 := HX4.out.c1
        have s2 := HX4.out.c2
        have s3 := HX4.out.c3
        have s4 := HX4.out.c4
        have s5 := HX4.out.c5
        have s6 := HX4.out.c6
        go_wp2_with fail
        refine (copy_any ⟨xk0, xc0, xs0, xq0, xv0, xd0, xx0⟩ ax cx _ hxx (HDX.out.below HB.out)).mono ?_
        rintro e w2 ⟨g, cp2, rfl, hg1, hg2, hg3, hb⟩
        have HB2 : Hid (Below w.heap.size w w2) := below_step HB.out HB.out.size hb
        have HZ := Lib.hid (HX2.out.step hb)
        have hgw : w.heap.size < g := Nat.lt_of_lt_of_le HX2.out.lt hg1
        have HG : Hid (HoldsDeps w2 g 0 xx0) := hg3
        have hgn : w.heap.size ≠ g := by omega
        have z0 := HZ.out.c0
        have z1 := HZ.out.c1
        have z2 := HZ.out.c2
        have z3 := HZ.out.c3
        have z4 := HZ.out.c4
        have z5 := HZ.out.c5
        have z6 := HZ.out.c6
        have f2 := HZ.out.fz
        have hz2 := HZ.out.lt
        clear hb hg3 s0 s1 s2 s3 s4 s5 s6 e0 e1 e2 e3 e4 e5 e6
        go_wp2
        refine bodyPost_ret (v := .tuple #[wrV xk0 xc0 xs0 xq0 xv0 xd0 (some ⟨g, 0, none⟩) xx0.length cp2, .bool true]) (by simp [results, Try.results13, go_sem, z0, z1, z2, z3, z4, z5, z6]) rfl ⟨⟨xk0, xc0, xs0, xq0, xv0, xd0, xx0⟩, true, some ⟨g, 0, none⟩, cp2, rfl, ?_, .inl ⟨HO.out, by rw [HN.out]; exact HE.out.symm, rfl⟩, ?_⟩
        · exact .inr ⟨g, 0, rfl, by simpa [World.setCell] using hg2, ((((((HG.out.set hgn _).set hgn _).set hgn _).set hgn _).set hgn _).set hgn _).set hgn _⟩
        · exact below_putN HB2.out (Nat.le_refl _) _ _ _ _ _ _ _ _ _

end Go.Proofs.Ytojgahcogpediaa

/- Marks: what markDepS writes, heldDepS finds. -/
namespace Go.Proofs.Ytojgahcogpediaa
open Go.ChangeShapes Go.WideShapes Go.ChangeAt Go.RowKit Go.Joins
attribute [local go_sem ↓] Go.wp_at_zero Go.wp_at_succ

/-- Of what was there these blocks alone may have been written; nothing was made. -/
structure Only (S : Nat → Prop) (w w' : World) : Prop where
  os : w'.os = w.os
  tape : w'.tape = w.tape
  output : w'.output = w.output
  size : w'.heap.size = w.heap.size
  block : ∀ b, ¬ S b → w'.heap[b]? = w.heap[b]?
  frozen : ∀ a, w'.frozen? a = w.frozen? a

theorem Only.refl (S : Nat → Prop) (w : World) : Only S w w := ⟨rfl, rfl, rfl, rfl, fun _ _ => rfl, fun _ => rfl⟩

theorem Only.set {S : Nat → Prop} {w w' : World} (h : Only S w w') {b : Nat} (hb : S b) (o : Nat) (v : Value) : Only S w (w'.setCell ⟨b, o, none⟩ v) :=
  ⟨h.os, h.tape, h.output, by simpa using h.size, fun c hc => (Below.heap_setCell _ _ _ _ (fun e => hc (by rw [e]; exact hb))).trans (h.block c hc), fun a => by simpa using h.frozen a⟩

theorem Only.trans {S T : Nat → Prop} {w w' w'' : World} (h : Only S w w') (k : Only T w' w'') (hT : ∀ b, T b → S b) : Only S w w'' :=
  ⟨k.os.trans h.os, k.tape.trans h.tape, k.output.trans h.output, k.size.trans h.size, fun b hb => (k.block b (fun e => hb (hT b e))).trans (h.block b hb), fun a => (k.frozen a).trans (h.frozen a)⟩

theorem Only.below {S : Nat → Prop} {w w' : World} {B : Nat} (h : Only S w w') (hS : ∀ b, S b → B ≤ b) : Below B w w' :=
  ⟨h.os, h.tape, h.output, by rw [h.size]; exact Nat.le_refl _, fun b hb => h.block b (fun e => by have := hS b e; omega)⟩

/-- The first m cells of block b. -/
def CellsAre (w : World) (b m : Nat) (f : Nat → Value) : Prop := ∀ o, o < m → w.cell? ⟨b, o, none⟩ = some (f o)

theorem CellsAre.of_block {w w' : World} {b m : Nat} {f : Nat → Value} (h : CellsAre w b m f) (hb : w'.heap[b]? = w.heap[b]?) : CellsAre w' b m f :=
  fun o ho => (World.cell?_of_block (a := ⟨b, o, none⟩) hb).trans (h o ho)

theorem CellsAre.set {w : World} {b m : Nat} {f : Nat → Value} (h : CellsAre w b m f) {o : Nat} (ho : o < m) (v : Value) : CellsAre (w.setCell ⟨b, o, none⟩ v) b m (fun j => if j = o then v else f j) := by
  intro j hj
  by_cases e : j = o
  · subst e
    simp [World.cell?_setCell_same, h j hj]
  · simp only [if_neg e]
    rw [World.cell?_setCell_other _ _ _ _ (by intro h; injection h with _ h _; exact e h.symm)]
    exact h j hj

theorem CellsAre.set_other {w : World} {b m : Nat} {f : Nat → Value} (h : CellsAre w b m f) {g : Nat} (hg : g ≠ b) (o : Nat) (v : Value) : CellsAre (w.setCell ⟨g, o, none⟩ v) b m f :=
  h.of_block (Below.heap_setCell _ _ _ _ (Ne.symm hg))

theorem CellsAre.congr {w : World} {b m : Nat} {f f' : Nat → Value} (h : CellsAre w b m f) (he : ∀ o, o < m → f o = f' o) : CellsAre w b m f' := fun o ho => by rw [h o ho, he o ho]

def markFn (k : Int) (o : Nat) : Value := .int .i64 (k + o)

theorem mark_step (k : Int) (j o : Nat) (f : Nat → Value) :
    (if o = j * 4 + 1 + 2 then Value.int .i64 (k + 4 * j + 1 + 1 + 1) else if o = j * 4 + 1 + 1 then Value.int .i64 (k + 4 * j + 1 + 1) else if o = j * 4 + 1 then Value.int .i64 (k + 4 * j + 1) else if o = j * 4 then Value.int .i64 (k + 4 * j) else if o < j * 4 then markFn k o else f o) = (if o < (j + 1) * 4 then markFn k o else f o) := by
  unfold markFn
  by_cases h3 : o = j * 4 + 1 + 2
  · rw [if_pos h3, if_pos (by omega), h3]
    congr 1
    omega
  rw [if_neg h3]
  by_cases h2 : o = j * 4 + 1 + 1
  · rw [if_pos h2, if_pos (by omega), h2]
    congr 1
    omega
  rw [if_neg h2]
  by_cases h1 : o = j * 4 + 1
  · rw [if_pos h1, if_pos (by omega), h1]
    congr 1
    omega
  rw [if_neg h1]
  by_cases h0 : o = j * 4
  · rw [if_pos h0, if_pos (by omega), h0]
    congr 1
    omega
  rw [if_neg h0]
  by_cases hl : o < j * 4
  · rw [if_pos hl, if_pos (by omega)]
  · rw [if_neg hl, if_neg (by omega)]

set_option maxHeartbeats 2000000 in
theorem markDepS_any (a : Option Addr) (g n cap : Nat) (k : Int) (f : Nat → Value) (w : World) (hn : n ≤ 1048576) (h0 : 0 ≤ k) (h1 : k ≤ 1099511627776) (ha : 0 < n → a = some ⟨g, 0, none⟩) (hc : CellsAre w g (n * 4) f) (hz : 0 < n → ∀ o, w.frozen? ⟨g, o, none⟩ = false) :
    Calls Try.prog 48 #[.slice a n cap, .int .i64 k] w fun e w' => e = .returned (.int .i64 (k + 4 * n)) ∧ CellsAre w' g (n * 4) (markFn k) ∧ Only (fun b => 0 < n ∧ b = g) w w' := by
  have HA : Hid (0 < n → a = some ⟨g, 0, none⟩) := ha
  have HC : Hid (CellsAre w g (n * 4) f) := hc
  have HZ : Hid (0 < n → ∀ o, w.frozen? ⟨g, o, none⟩ = false) := hz
  clear hc hz ha
  go_enter Try.func48, Try.ntmps48
  go_wp2
  go_loopw [1, 5] (fun l i wr => ∃ (j : Nat), j ≤ n ∧ i = .int .i64 j ∧ l = .int .i64 (k + 4 * j) ∧ Hid (CellsAre wr g (n * 4) (fun o => if o < j * 4 then markFn k o else f o)) ∧ Hid (Only (fun b => 0 < n ∧ b = g) w wr)) (fun _ i _ => n - (intOf i).toNat)
  case atStart => exact ⟨0, Nat.zero_le _, rfl, by simp, HC.out.congr (fun o _ => by simp), Only.refl _ _⟩
  case round =>
    obtain ⟨j, hj, rfl, rfl, HR, HO⟩ := hrel
    by_cases hj' : j < n
    · have hn0 : 0 < n := by omega
      obtain rfl := HA.out hn0
      have c0 := HR.out (j * 4) (by omega)
      have c1 := HR.out (j * 4 + 1) (by omega)
      have c2 := HR.out (j * 4 + 2) (by omega)
      have c3 := HR.out (j * 4 + 3) (by omega)
      have fz : ∀ o, wr.frozen? ⟨g, o, none⟩ = false := fun o => (HO.out.frozen _).trans (HZ.out hn0 o)
      have i1 : (0 : Int) ≤ (j : Int) := by omega
      have i2 : (j : Int) < (n : Int) := by omega
      go_wp2
      exact ⟨⟨j + 1, by omega, by go_num, by congr 1; push_cast; omega, ((((HR.out.set (by omega) _).set (by omega) _).set (by omega) _).set (by omega) _).congr (fun o _ => mark_step k j o f), (((HO.out.set ⟨hn0, rfl⟩ _ _).set ⟨hn0, rfl⟩ _ _).set ⟨hn0, rfl⟩ _ _).set ⟨hn0, rfl⟩ _ _⟩, by simp [intOf]; omega⟩
    · have hjj : j = n := by omega
      subst hjj
      go_wp2
      go_ret
      exact ⟨rfl, HR.out.congr (fun o ho => by rw [if_pos ho]), HO.out⟩

set_option maxHeartbeats 2000000 in
theorem heldDepS_any (a : Option Addr) (g n cap : Nat) (k : Int) (w : World) (hn : n ≤ 1048576) (h0 : 0 ≤ k) (h1 : k ≤ 1099511627776) (ha : 0 < n → a = some ⟨g, 0, none⟩) (hc : CellsAre w g (n * 4) (markFn k)) :
    Calls Try.prog 49 #[.slice a n cap, .int .i64 k] w fun e w' => e = .returned (.int .i64 (k + 4 * n)) ∧ w' = w := by
  have HA : Hid (0 < n → a = some ⟨g, 0, none⟩) := ha
  have HC : Hid (CellsAre w g (n * 4) (markFn k)) := hc
  clear hc ha
  go_enter Try.func49, Try.ntmps49
  go_wp2
  go_loopw [1, 5] (fun l i wr => ∃ (j : Nat), j ≤ n ∧ i = .int .i64 j ∧ l = .int .i64 (k + 4 * j) ∧ wr = w) (fun _ i _ => n - (intOf i).toNat)
  case atStart => exact ⟨0, Nat.zero_le _, rfl, by simp, rfl⟩
  case round =>
    obtain ⟨j, hj, rfl, rfl, rfl⟩ := hrel
    by_cases hj' : j < n
    · obtain rfl := HA.out (by omega)
      have c0 := HC.out (j * 4) (by omega)
      have c1 := HC.out (j * 4 + 1) (by omega)
      have c2 := HC.out (j * 4 + 1 + 1) (by omega)
      have c3 := HC.out (j * 4 + 1 + 2) (by omega)
      simp only [markFn] at c0 c1 c2 c3
      rw [show k + ((j * 4 : Nat) : Int) = k + 4 * j by omega] at c0
      rw [show k + ((j * 4 + 1 : Nat) : Int) = k + 4 * j + 1 by omega] at c1
      rw [show k + ((j * 4 + 1 + 1 : Nat) : Int) = k + 4 * j + 1 + 1 by omega] at c2
      rw [show k + ((j * 4 + 1 + 2 : Nat) : Int) = k + 4 * j + 1 + 1 + 1 by omega] at c3
      have i1 : (0 : Int) ≤ (j : Int) := by omega
      have i2 : (j : Int) < (n : Int) := by omega
      go_wp2
      exact ⟨⟨j + 1, by omega, by go_num, by congr 1; push_cast; omega, trivial⟩, by simp [intOf]; omega⟩
    · have hjj : j = n := by omega
      subst hjj
      go_wp2
      go_ret
      exact ⟨rfl, rfl⟩

set_option maxHeartbeats 1000000 in
theorem markWrite_any (xk xc xs' xq xv : Int) (xd : Bool) (a : Option Addr) (g n cap : Nat) (k : Int) (f : Nat → Value) (w : World) (hn : n ≤ 1048576) (h0 : 0 ≤ k) (h1 : k ≤ 1099511627776) (hlt : 0 < n → g < w.heap.size) (ha : 0 < n → a = some ⟨g, 0, none⟩) (hc : CellsAre w g (n * 4) f) (hz : 0 < n → ∀ o, w.frozen? ⟨g, o, none⟩ = false) :
    Calls Try.prog 19 #[wrV xk xc xs' xq xv xd a n cap, .int .i64 k] w fun e w' => ∃ w1, e = .returned (.int .i64 (k + 4 * n)) ∧ CellsAre w' g (n * 4) (markFn k) ∧ Below w.heap.size w w1 ∧ Only (fun b => 0 < n ∧ b = g) w1 w' := by
  have HC : Hid (CellsAre (w.alloc (.cells #[.int .i64 xk, .int .i64 xc, .int .i64 xs', .int .i64 xq, .int .i64 xv, .bool xd, .slice a n cap] 41)) g (n * 4) f) := by
    by_cases h : 0 < n
    · exact hc.of_block (((Below.refl w.heap.size w).alloc (Nat.le_refl _) _).block _ (hlt h))
    · exact fun o ho => by omega
  have HZ : Hid (0 < n → ∀ o, (w.alloc (.cells #[.int .i64 xk, .int .i64 xc, .int .i64 xs', .int .i64 xq, .int .i64 xv, .bool xd, .slice a n cap] 41)).frozen? ⟨g, o, none⟩ = false) := fun h o => (((Below.refl w.heap.size w).alloc (Nat.le_refl _) _).frozen (p := ⟨g, o, none⟩) (hlt h)).trans (hz h o)
  have HA : Hid (0 < n → a = some ⟨g, 0, none⟩) := ha
  clear hc hz ha hlt
  go_enter Try.func19, Try.ntmps19
  go_wp2_with fail
  refine (markDepS_any _ _ _ _ _ _ _ hn h0 h1 HA.out HC.out HZ.out).mono ?_
  rintro e w2 ⟨rfl, h2, h3⟩
  have H2 := Lib.hid h2
  have H3 := Lib.hid h3
  clear h2 h3
  go_wp2
  go_ret
  exact ⟨_, rfl, H2.out, (Below.refl _ _).alloc (Nat.le_refl _) _, H3.out⟩

set_option maxHeartbeats 1000000 in
theorem heldWrite_any (xk xc xs' xq xv : Int) (xd : Bool) (a : Option Addr) (g n cap : Nat) (k : Int) (w : World) (hn : n ≤ 1048576) (h0 : 0 ≤ k) (h1 : k ≤ 1099511627776) (hlt : 0 < n → g < w.heap.size) (ha : 0 < n → a = some ⟨g, 0, none⟩) (hc : CellsAre w g (n * 4) (markFn k)) :
    Calls Try.prog 20 #[wrV xk xc xs' xq xv xd a n cap, .int .i64 k] w fun e w' => e = .returned (.int .i64 (k + 4 * n)) ∧ Below w.heap.size w w' := by
  have HC : Hid (CellsAre (w.alloc (.cells #[.int .i64 xk, .int .i64 xc, .int .i64 xs', .int .i64 xq, .int .i64 xv, .bool xd, .slice a n cap] 41)) g (n * 4) (markFn k)) := by
    by_cases h : 0 < n
    · exact hc.of_block (((Below.refl w.heap.size w).alloc (Nat.le_refl _) _).block _ (hlt h))
    · exact fun o ho => by omega
  have HA : Hid (0 < n → a = some ⟨g, 0, none⟩) := ha
  clear hc ha hlt
  go_enter Try.func20, Try.ntmps20
  go_wp2_with fail
  refine (heldDepS_any _ _ _ _ _ _ hn h0 h1 HA.out HC.out).mono ?_
  rintro e w2 ⟨rfl, rfl⟩
  go_wp2
  go_ret
  exact ⟨rfl, (Below.refl _ _).alloc (Nat.le_refl _) _⟩

end Go.Proofs.Ytojgahcogpediaa

/- Marks: what markWriteS writes, heldWriteS finds. -/
namespace Go.Proofs.Ytojgahcogpediaa
open Go.ChangeShapes Go.WideShapes Go.ChangeAt Go.RowKit Go.Joins
attribute [local go_sem ↓] Go.wp_at_zero Go.wp_at_succ

/-- The number that write i's marks begin with. -/
def markK (ws : List Wr) (k : Int) (i : Nat) : Int := k + 6 * i + 4 * bulk (ws.take i)

theorem markK_zero (ws : List Wr) (k : Int) : markK ws k 0 = k := by simp [markK, bulk]

theorem markK_next (ws : List Wr) (k : Int) (i : Nat) (h : i < ws.length) : markK ws k (i + 1) = markK ws k i + 6 + 4 * (ws.getD i wz).xs.length := by
  unfold markK
  rw [bulk_take ws i h]
  push_cast
  omega

theorem bulk_take_le (ws : List Wr) (i : Nat) : bulk (ws.take i) ≤ bulk ws := by
  induction ws generalizing i with
  | nil => simp
  | cons x r ih =>
    cases i with
    | zero => simp [bulk]
    | succ i =>
      have := ih i
      simp only [List.take_succ_cons, bulk]
      omega

theorem markK_bounds (ws : List Wr) (k : Int) (i : Nat) (h0 : 0 ≤ k) (h1 : k ≤ 1073741824) (hi : i ≤ 1048576) (hb : bulk ws ≤ 1048576) : 0 ≤ markK ws k i ∧ markK ws k i ≤ 1099511627000 := by
  have := bulk_take_le ws i
  unfold markK
  omega

/-- Cell o of a marked row; f: what was there. -/
def mkCell (ws : List Wr) (k : Int) (f : Nat → Value) (o : Nat) : Value :=
  if o % 7 < 5 then .int .i64 (markK ws k (o / 7) + (o % 7 : Nat)) else if o % 7 = 5 then .bool ((markK ws k (o / 7) + 1 + 1 + 1 + 1 + 1) % 3 == 0) else f o

theorem mkCell_int (ws : List Wr) (k : Int) (f : Nat → Value) (j o c : Nat) (ho : o = j * 7 + c) (hc : c < 5) (z : Int) (hz : z = markK ws k j + c) : Value.int .i64 z = mkCell ws k f o := by
  subst ho
  unfold mkCell
  have e1 : (j * 7 + c) % 7 = c := by omega
  have e2 : (j * 7 + c) / 7 = j := by omega
  rw [e1, e2, if_pos hc, hz]

theorem mk_step (ws : List Wr) (k : Int) (f : Nat → Value) (j o : Nat) :
    (if o = j * 7 + 5 then Value.bool ((markK ws k j + 1 + 1 + 1 + 1 + 1) % 3 == 0) else if o = j * 7 + 4 then Value.int .i64 (markK ws k j + 1 + 1 + 1 + 1) else if o = j * 7 + 1 + 2 then Value.int .i64 (markK ws k j + 1 + 1 + 1) else if o = j * 7 + 1 + 1 then Value.int .i64 (markK ws k j + 1 + 1) else if o = j * 7 + 1 then Value.int .i64 (markK ws k j + 1) else if o = j * 7 then Value.int .i64 (markK ws k j) else if o < j * 7 then mkCell ws k f o else f o) = (if o < (j + 1) * 7 then mkCell ws k f o else f o) := by
  by_cases h5 : o = j * 7 + 5
  · rw [if_pos h5, if_pos (by omega), h5]
    unfold mkCell
    rw [if_neg (by omega), if_pos (by omega), show (j * 7 + 5) / 7 = j by omega]
  rw [if_neg h5]
  by_cases h4 : o = j * 7 + 4
  · rw [if_pos h4, if_pos (by omega)]
    exact mkCell_int ws k f j o 4 h4 (by omega) _ (by omega)
  rw [if_neg h4]
  by_cases h3 : o = j * 7 + 1 + 2
  · rw [if_pos h3, if_pos (by omega)]
    exact mkCell_int ws k f j o 3 (by omega) (by omega) _ (by omega)
  rw [if_neg h3]
  by_cases h2 : o = j * 7 + 1 + 1
  · rw [if_pos h2, if_pos (by omega)]
    exact mkCell_int ws k f j o 2 (by omega) (by omega) _ (by omega)
  rw [if_neg h2]
  by_cases h1 : o = j * 7 + 1
  · rw [if_pos h1, if_pos (by omega)]
    exact mkCell_int ws k f j o 1 (by omega) (by omega) _ (by omega)
  rw [if_neg h1]
  by_cases h0 : o = j * 7
  · rw [if_pos h0, if_pos (by omega)]
    exact mkCell_int ws k f j o 0 (by omega) (by omega) _ (by omega)
  rw [if_neg h0]
  by_cases hl : o < j * 7
  · rw [if_pos hl, if_pos (by omega)]
  · rw [if_neg hl]
    by_cases h6 : o < (j + 1) * 7
    · rw [if_pos h6]
      unfold mkCell
      rw [if_neg (by omega), if_neg (by omega)]
    · rw [if_neg h6]

abbrev mark6 (w : World) (b o : Nat) (m : Int) : World :=
  (((((w.setCell ⟨b, o, none⟩ (.int .i64 m)).setCell ⟨b, o + 1, none⟩ (.int .i64 (m + 1))).setCell ⟨b, o + 1 + 1, none⟩ (.int .i64 (m + 1 + 1))).setCell ⟨b, o + 1 + 2, none⟩ (.int .i64 (m + 1 + 1 + 1))).setCell ⟨b, o + 4, none⟩ (.int .i64 (m + 1 + 1 + 1 + 1))).setCell ⟨b, o + 5, none⟩ (.bool ((m + 1 + 1 + 1 + 1 + 1) % 3 == 0))

theorem mark6_block (w : World) (b o : Nat) (m : Int) {g : Nat} (hg : g ≠ b) : (mark6 w b o m).heap[g]? = w.heap[g]? := by
  unfold mark6
  simp only [Below.heap_setCell _ _ _ _ (show g ≠ (⟨b, _, none⟩ : Addr).block from hg)]

/-- Writes of one's own, from block number base on: the row's block and, where there are some, those of the dependencies, all apart, none of them shut. -/
structure OwnG (w : World) (base b : Nat) (ws : List Wr) (γ : Nat → Nat) : Prop where
  lt : b < w.heap.size
  le : base ≤ b
  open_ : ∀ o, w.frozen? ⟨b, o, none⟩ = false
  at_ : ∀ i, i < ws.length → ∃ a cap, WrAt w b (i * 7) (ws.getD i wz) a cap ∧ (0 < (ws.getD i wz).xs.length → a = some ⟨γ i, 0, none⟩)
  deps : ∀ i, i < ws.length → 0 < (ws.getD i wz).xs.length → base ≤ γ i ∧ γ i < w.heap.size ∧ γ i ≠ b ∧ HoldsDeps w (γ i) 0 (ws.getD i wz).xs ∧ ∀ o, w.frozen? ⟨γ i, o, none⟩ = false
  inj : ∀ i j, i < ws.length → j < ws.length → 0 < (ws.getD i wz).xs.length → 0 < (ws.getD j wz).xs.length → γ i = γ j → i = j

theorem OwnWs.gen {w : World} {base b : Nat} {ws : List Wr} {γ : Nat → Nat} (h : OwnWs w base b ws γ) : OwnG w base b ws γ where
  lt := h.holds.1
  le := h.le
  open_ := h.open_
  at_ := fun i hi => by
    obtain ⟨⟨cap, h1⟩, _, _⟩ := h.holds.2 i hi
    exact ⟨_, cap, h1, fun _ => rfl⟩
  deps := fun i hi _ => ⟨(h.deps i hi).1, (h.holds.2 i hi).2.1, (h.deps i hi).2.1, (h.holds.2 i hi).2.2, (h.deps i hi).2.2⟩
  inj := fun i j hi hj _ _ e => h.inj i j hi hj e

theorem OwnG.below {w w' : World} {base b : Nat} {ws : List Wr} {γ : Nat → Nat} (h : OwnG w base b ws γ) (hb : Below w.heap.size w w') : OwnG w' base b ws γ where
  lt := Nat.lt_of_lt_of_le h.lt hb.size
  le := h.le
  open_ := fun o => (hb.frozen (p := ⟨b, o, none⟩) h.lt).trans (h.open_ o)
  at_ := fun i hi => by
    obtain ⟨a, cap, h1, h2⟩ := h.at_ i hi
    exact ⟨a, cap, h1.of_block (hb.block _ h.lt), h2⟩
  deps := fun i hi hp => by
    obtain ⟨h1, h2, h3, h4, h5⟩ := h.deps i hi hp
    exact ⟨h1, Nat.lt_of_lt_of_le h2 hb.size, h3, h4.below hb h2, fun o => (hb.frozen (p := ⟨γ i, o, none⟩) h2).trans (h5 o)⟩
  inj := h.inj

theorem OwnG.isWs {w : World} {base b : Nat} {ws : List Wr} {γ : Nat → Nat} (h : OwnG w base b ws γ) (hx : Few ws) : IsWs w (some ⟨b, 0, none⟩) ws := by
  refine .inr ⟨b, 0, rfl, h.lt, fun i hi => ?_⟩
  obtain ⟨a, cap, h1, h2⟩ := h.at_ i hi
  refine ⟨a, cap, by rw [Nat.zero_add]; exact h1, by have := hx i hi; unfold maxLen; omega, ?_⟩
  by_cases hp : 0 < (ws.getD i wz).xs.length
  · exact .inr ⟨_, _, h2 hp, (h.deps i hi hp).2.1, (h.deps i hi hp).2.2.2.1⟩
  · exact .inl (List.length_eq_zero_iff.1 (by omega))

/-- The blocks that a row of writes takes up. -/
def TakenUp (b : Nat) (ws : List Wr) (γ : Nat → Nat) (x : Nat) : Prop := x = b ∨ ∃ i, i < ws.length ∧ 0 < (ws.getD i wz).xs.length ∧ x = γ i

/-- While a row is being marked: of its writes the first j are. -/
structure MarkInv (w wr : World) (b : Nat) (ws : List Wr) (γ : Nat → Nat) (k : Int) (f : Nat → Value) (j : Nat) : Prop where
  row : CellsAre wr b (ws.length * 7) (fun o => if o < j * 7 then mkCell ws k f o else f o)
  deps : ∀ i, i < ws.length → 0 < (ws.getD i wz).xs.length → CellsAre wr (γ i) ((ws.getD i wz).xs.length * 4) (fun o => if i < j then markFn (markK ws k i + 1 + 1 + 1 + 1 + 1 + 1) o else .int .i64 (depCell (ws.getD i wz).xs o))
  only : Only (TakenUp b ws γ) w wr

theorem markInv_round {w wr w2 : World} {base b : Nat} {ws : List Wr} {γ : Nat → Nat} {k : Int} {f : Nat → Value} {j : Nat} (hO : OwnG w base b ws γ) (hj : j < ws.length) (h : MarkInv w wr b ws γ k f j)
    (h2 : CellsAre w2 (γ j) ((ws.getD j wz).xs.length * 4) (markFn (markK ws k j + 1 + 1 + 1 + 1 + 1 + 1))) (h3 : Only (fun x => 0 < (ws.getD j wz).xs.length ∧ x = γ j) (mark6 wr b (j * 7) (markK ws k j)) w2) : MarkInv w w2 b ws γ k f (j + 1) where
  row := by
    have h6 : CellsAre (mark6 wr b (j * 7) (markK ws k j)) b (ws.length * 7) (fun o => if o < (j + 1) * 7 then mkCell ws k f o else f o) :=
      ((((((h.row.set (by omega) _).set (by omega) _).set (by omega) _).set (by omega) _).set (by omega) _).set (by omega) _).congr (fun o _ => mk_step ws k f j o)
    exact h6.of_block (h3.block b (fun e => (hO.deps j hj e.1).2.2.1 e.2.symm))
  deps := by
    intro i hi hp
    by_cases hij : i = j
    · subst hij
      exact h2.congr (fun o _ => by rw [if_pos (by omega)])
    · have e : ¬ (0 < (ws.getD j wz).xs.length ∧ γ i = γ j) := fun e => hij (hO.inj i j hi hj hp e.1 e.2)
      refine ((h.deps i hi hp).of_block ((h3.block (γ i) e).trans (mark6_block _ _ _ _ (hO.deps i hi hp).2.2.1))).congr (fun o _ => ?_)
      by_cases hl : i < j
      · rw [if_pos hl, if_pos (by omega)]
      · rw [if_neg hl, if_neg (by omega)]
  only := by
    refine Only.trans ((((((h.only.set (.inl rfl) _ _).set (.inl rfl) _ _).set (.inl rfl) _ _).set (.inl rfl) _ _).set (.inl rfl) _ _).set (.inl rfl) _ _) h3 fun x hx => .inr ⟨j, hj, hx.1, hx.2⟩

theorem markInv_start {w : World} {base b : Nat} {ws : List Wr} {γ : Nat → Nat} (k : Int) (hO : OwnG w base b ws γ) : MarkInv w w b ws γ k (fun o => (w.cell? ⟨b, o, none⟩).getD undef) 0 where
  row := by
    intro o ho
    dsimp only
    rw [if_neg (by omega)]
    obtain ⟨a, cap, ⟨h0, h1, h2, h3, h4, h5, h6⟩, _⟩ := hO.at_ (o / 7) (by omega)
    have h7 : o % 7 = 0 ∨ o % 7 = 1 ∨ o % 7 = 2 ∨ o % 7 = 3 ∨ o % 7 = 4 ∨ o % 7 = 5 ∨ o % 7 = 6 := by omega
    have hx : ∃ v, w.cell? ⟨b, o, none⟩ = some v := by
      rcases h7 with e | e | e | e | e | e | e
      · exact ⟨_, by rw [show o = o / 7 * 7 by omega]; exact h0⟩
      · exact ⟨_, by rw [show o = o / 7 * 7 + 1 by omega]; exact h1⟩
      · exact ⟨_, by rw [show o = o / 7 * 7 + 2 by omega]; exact h2⟩
      · exact ⟨_, by rw [show o = o / 7 * 7 + 3 by omega]; exact h3⟩
      · exact ⟨_, by rw [show o = o / 7 * 7 + 4 by omega]; exact h4⟩
      · exact ⟨_, by rw [show o = o / 7 * 7 + 5 by omega]; exact h5⟩
      · exact ⟨_, by rw [show o = o / 7 * 7 + 6 by omega]; exact h6⟩
    obtain ⟨v, hv⟩ := hx
    simp [hv]
  deps := by
    intro i hi hp o ho
    dsimp only
    rw [if_neg (by omega)]
    have := holds_cells (hO.deps i hi hp).2.2.2.1 ho
    rwa [Nat.zero_add] at this
  only := Only.refl _ _

theorem markInv_slice {w wr : World} {base b : Nat} {ws : List Wr} {γ : Nat → Nat} {k : Int} {j i : Nat} (hO : OwnG w base b ws γ) (h : MarkInv w wr b ws γ k (fun o => (w.cell? ⟨b, o, none⟩).getD undef) j) (hi : i < ws.length) :
    ∃ a cp, wr.cell? ⟨b, i * 7 + 6, none⟩ = some (.slice a (ws.getD i wz).xs.length cp) ∧ (0 < (ws.getD i wz).xs.length → a = some ⟨γ i, 0, none⟩) := by
  obtain ⟨a, cap, ⟨_, _, _, _, _, _, h6⟩, ha⟩ := hO.at_ i hi
  refine ⟨a, cap, ?_, ha⟩
  rw [h.row (i * 7 + 6) (by omega)]
  have e : mkCell ws k (fun o => (w.cell? ⟨b, o, none⟩).getD undef) (i * 7 + 6) = (w.cell? ⟨b, i * 7 + 6, none⟩).getD undef := by
    unfold mkCell
    rw [if_neg (by omega), if_neg (by omega)]
  simp only [e, ite_self, h6]
  rfl

/-- A row of writes that is marked, from k on. -/
def MarkedWs (w : World) (b : Nat) (ws : List Wr) (γ : Nat → Nat) (k : Int) : Prop :=
  ∀ i, i < ws.length → (w.cell? ⟨b, i * 7, none⟩ = some (.int .i64 (markK ws k i)) ∧ w.cell? ⟨b, i * 7 + 1, none⟩ = some (.int .i64 (markK ws k i + 1)) ∧ w.cell? ⟨b, i * 7 + 1 + 1, none⟩ = some (.int .i64 (markK ws k i + 1 + 1)) ∧ w.cell? ⟨b, i * 7 + 1 + 2, none⟩ = some (.int .i64 (markK ws k i + 1 + 1 + 1)) ∧
    w.cell? ⟨b, i * 7 + 4, none⟩ = some (.int .i64 (markK ws k i + 1 + 1 + 1 + 1)) ∧ w.cell? ⟨b, i * 7 + 5, none⟩ = some (.bool ((markK ws k i + 1 + 1 + 1 + 1 + 1) % 3 == 0)) ∧ ∃ a cp, w.cell? ⟨b, i * 7 + 6, none⟩ = some (.slice a (ws.getD i wz).xs.length cp) ∧ (0 < (ws.getD i wz).xs.length → a = some ⟨γ i, 0, none⟩)) ∧
    (0 < (ws.getD i wz).xs.length → CellsAre w (γ i) ((ws.getD i wz).xs.length * 4) (markFn (markK ws k i + 1 + 1 + 1 + 1 + 1 + 1)))

theorem MarkedWs.below {w w' : World} {b : Nat} {ws : List Wr} {γ : Nat → Nat} {k : Int} {B : Nat} (h : MarkedWs w b ws γ k) (hb : Below B w w') (h1 : b < B) (h2 : ∀ i, i < ws.length → 0 < (ws.getD i wz).xs.length → γ i < B) : MarkedWs w' b ws γ k := by
  intro i hi
  obtain ⟨⟨e0, e1, e2, e3, e4, e5, a, cp, e6, e7⟩, hd⟩ := h i hi
  have c : ∀ o, w'.cell? ⟨b, o, none⟩ = w.cell? ⟨b, o, none⟩ := fun o => hb.cell (p := ⟨b, o, none⟩) h1
  exact ⟨⟨(c _).trans e0, (c _).trans e1, (c _).trans e2, (c _).trans e3, (c _).trans e4, (c _).trans e5, a, cp, (c _).trans e6, e7⟩, fun hp => (hd hp).of_block (hb.block _ (h2 i hi hp))⟩

theorem markInv_end {w wr : World} {base b : Nat} {ws : List Wr} {γ : Nat → Nat} {k : Int} (hO : OwnG w base b ws γ) (h : MarkInv w wr b ws γ k (fun o => (w.cell? ⟨b, o, none⟩).getD undef) ws.length) : MarkedWs wr b ws γ k := by
  intro i hi
  have r : ∀ c, c < 7 → wr.cell? ⟨b, i * 7 + c, none⟩ = some (mkCell ws k (fun o => (w.cell? ⟨b, o, none⟩).getD undef) (i * 7 + c)) := fun c hc => by
    rw [h.row _ (by omega)]
    dsimp only
    rw [if_pos (by omega)]
  refine ⟨⟨?_, ?_, ?_, ?_, ?_, ?_, markInv_slice hO h hi⟩, fun hp => (h.deps i hi hp).congr (fun o _ => by rw [if_pos hi])⟩
  · rw [show i * 7 = i * 7 + 0 from rfl, r 0 (by omega), mkCell_int ws k _ i (i * 7 + 0) 0 rfl (by omega) (markK ws k i) (by omega)]
  · rw [r 1 (by omega), mkCell_int ws k _ i (i * 7 + 1) 1 rfl (by omega) (markK ws k i + 1) (by omega)]
  · rw [show i * 7 + 1 + 1 = i * 7 + 2 from rfl, r 2 (by omega), mkCell_int ws k _ i (i * 7 + 2) 2 rfl (by omega) (markK ws k i + 1 + 1) (by omega)]
  · rw [show i * 7 + 1 + 2 = i * 7 + 3 from rfl, r 3 (by omega), mkCell_int ws k _ i (i * 7 + 3) 3 rfl (by omega) (markK ws k i + 1 + 1 + 1) (by omega)]
  · rw [r 4 (by omega), mkCell_int ws k _ i (i * 7 + 4) 4 rfl (by omega) (markK ws k i + 1 + 1 + 1 + 1) (by omega)]
  · rw [r 5 (by omega)]
    unfold mkCell
    rw [if_neg (by omega), if_pos (by omega), show (i * 7 + 5) / 7 = i by omega]

set_option maxHeartbeats 4000000 in
theorem markWriteS_any (base b n cap : Nat) (k : Int) (ws : List Wr) (γ : Nat → Nat) (w : World) (hn : ws.length = n) (hm : n ≤ 1048576) (hbk : bulk ws ≤ 1048576) (h0 : 0 ≤ k) (h1 : k ≤ 1073741824) (ho : OwnG w base b ws γ) :
    Calls Try.prog 18 #[.slice (some ⟨b, 0, none⟩) n cap, .int .i64 k] w fun e w' => e = .returned (.int .i64 (markK ws k n)) ∧ MarkedWs w' b ws γ k ∧ Only (TakenUp b ws γ) w w' := by
  have HO : Hid (OwnG w base b ws γ) := ho
  have HN : Hid (ws.length = n) := hn
  clear ho hn
  have HB : Hid (∀ i, i ≤ n → 0 ≤ markK ws k i ∧ markK ws k i ≤ 1099511627000) := fun i hi => markK_bounds ws k i h0 h1 (by omega) hbk
  go_enter Try.func18, Try.ntmps18
  go_wp2
  go_loopw [1, 5] (fun l i wr => ∃ (j : Nat), j ≤ n ∧ i = .int .i64 j ∧ l = .int .i64 (markK ws k j) ∧ Hid (MarkInv w wr b ws γ k (fun o => (w.cell? ⟨b, o, none⟩).getD undef) j)) (fun _ i _ => n - (intOf i).toNat)
  case atStart => exact ⟨0, Nat.zero_le _, rfl, by rw [markK_zero], markInv_start k HO.out⟩
  case round =>
    obtain ⟨j, hj, rfl, rfl, HI⟩ := hrel
    by_cases hj' : j < n
    · have hjw : j < ws.length := by rw [HN.out]; exact hj'
      have c0 := HI.out.row (j * 7) (by omega)
      have c1 := HI.out.row (j * 7 + 1) (by omega)
      have c2 := HI.out.row (j * 7 + 1 + 1) (by omega)
      have c3 := HI.out.row (j * 7 + 1 + 2) (by omega)
      have c4 := HI.out.row (j * 7 + 4) (by omega)
      have c5 := HI.out.row (j * 7 + 5) (by omega)
      obtain ⟨aj, cp, c6, haj⟩ := markInv_slice HO.out HI.out hjw
      have HAJ := Lib.hid haj
      clear haj
      have fz : ∀ o, wr.frozen? ⟨b, o, none⟩ = false := fun o => (HI.out.only.frozen _).trans (HO.out.open_ o)
      have i1 : (0 : Int) ≤ (j : Int) := by omega
      have i2 : (j : Int) < (n : Int) := by omega
      obtain ⟨m0, m1⟩ := HB.out j hj
      have HS : Hid (∀ w2, CellsAre w2 (γ j) ((ws.getD j wz).xs.length * 4) (markFn (markK ws k j + 1 + 1 + 1 + 1 + 1 + 1)) → Only (fun x => 0 < (ws.getD j wz).xs.length ∧ x = γ j) (mark6 wr b (j * 7) (markK ws k j)) w2 → MarkInv w w2 b ws γ k (fun o => (w.cell? ⟨b, o, none⟩).getD undef) (j + 1)) := fun w2 h2 h3 => markInv_round HO.out hjw HI.out h2 h3
      have HD : Hid (CellsAre (mark6 wr b (j * 7) (markK ws k j)) (γ j) ((ws.getD j wz).xs.length * 4) (fun o => .int .i64 (depCell (ws.getD j wz).xs o))) := by
        by_cases hp : 0 < (ws.getD j wz).xs.length
        · exact ((HI.out.deps j hjw hp).of_block (mark6_block _ _ _ _ (HO.out.deps j hjw hp).2.2.1)).congr (fun o _ => by rw [if_neg (Nat.lt_irrefl j)])
        · exact fun o ho => by omega
      have HZ : Hid (0 < (ws.getD j wz).xs.length → ∀ o, (mark6 wr b (j * 7) (markK ws k j)).frozen? ⟨γ j, o, none⟩ = false) := fun hp o => by
        simp only [World.frozen?_setCell]
        exact (HI.out.only.frozen _).trans ((HO.out.deps j hjw hp).2.2.2.2 o)
      have HK : Hid (markK ws k (j + 1) = markK ws k j + 6 + 4 * (ws.getD j wz).xs.length) := markK_next ws k j hjw
      have hln : (ws.getD j wz).xs.length ≤ 1048576 := Nat.le_trans (bulk_one ws j hjw) hbk
      clear HI
      generalize markK ws k j = m at *
      generalize (ws.getD j wz).xs = ys at *
      generalize γ j = gj at *
      go_wp2_with fail
      refine (markDepS_any _ _ _ _ _ _ _ hln (by omega) (by omega) HAJ.out HD.out HZ.out).mono ?_
      rintro e w2 ⟨rfl, h2, h3⟩
      have HI2 := Lib.hid (HS.out w2 h2 h3)
      clear h2 h3 HS HD HZ
      go_wp2
      exact ⟨⟨j + 1, by omega, by go_num, by rw [HK.out]; congr 1; omega, HI2⟩, by simp [intOf]; omega⟩
    · have hjj : j = n := by omega
      subst hjj
      go_wp2
      go_ret
      refine ⟨rfl, markInv_end HO.out ?_, HI.out.only⟩
      rw [HN.out]
      exact HI.out

set_option maxHeartbeats 4000000 in
theorem heldWriteS_any (b n cap : Nat) (k : Int) (ws : List Wr) (γ : Nat → Nat) (w : World) (hn : ws.length = n) (hm : n ≤ 1048576) (hbk : bulk ws ≤ 1048576) (h0 : 0 ≤ k) (h1 : k ≤ 1073741824) (ho : MarkedWs w b ws γ k) :
    Calls Try.prog 24 #[.slice (some ⟨b, 0, none⟩) n cap, .int .i64 k] w fun e w' => e = .returned (.int .i64 (markK ws k n)) ∧ w' = w := by
  have HO : Hid (MarkedWs w b ws γ k) := ho
  have HN : Hid (ws.length = n) := hn
  clear ho hn
  have HB : Hid (∀ i, i ≤ n → 0 ≤ markK ws k i ∧ markK ws k i ≤ 1099511627000) := fun i hi => markK_bounds ws k i h0 h1 (by omega) hbk
  go_enter Try.func24, Try.ntmps24
  go_wp2
  go_loopw [1, 5] (fun l i wr => ∃ (j : Nat), j ≤ n ∧ i = .int .i64 j ∧ l = .int .i64 (markK ws k j) ∧ wr = w) (fun _ i _ => n - (intOf i).toNat)
  case atStart => exact ⟨0, Nat.zero_le _, rfl, by rw [markK_zero], rfl⟩
  case round =>
    obtain ⟨j, hj, rfl, rfl, rfl⟩ := hrel
    by_cases hj' : j < n
    · have hjw : j < ws.length := by rw [HN.out]; exact hj'
      obtain ⟨⟨c0, c1, c2, c3, c4, c5, aj, cp, c6, haj⟩, hd⟩ := HO.out j hjw
      have HAJ := Lib.hid haj
      have HD : Hid (CellsAre wr (γ j) ((ws.getD j wz).xs.length * 4) (markFn (markK ws k j + 1 + 1 + 1 + 1 + 1 + 1))) := by
        by_cases hp : 0 < (ws.getD j wz).xs.length
        · exact hd hp
        · exact fun o ho => by omega
      clear hd haj
      have i1 : (0 : Int) ≤ (j : Int) := by omega
      have i2 : (j : Int) < (n : Int) := by omega
      obtain ⟨m0, m1⟩ := HB.out j hj
      have HK : Hid (markK ws k (j + 1) = markK ws k j + 6 + 4 * (ws.getD j wz).xs.length) := markK_next ws k j hjw
      have hln : (ws.getD j wz).xs.length ≤ 1048576 := Nat.le_trans (bulk_one ws j hjw) hbk
      generalize markK ws k j = m at *
      generalize (ws.getD j wz).xs.length = ln at *
      generalize γ j = gj at *
      go_wp2_with fail
      refine (heldDepS_any _ _ _ _ _ _ hln (by omega) (by omega) HAJ.out HD.out).mono ?_
      rintro e w2 ⟨rfl, rfl⟩
      go_wp2
      exact ⟨⟨j + 1, by omega, by go_num, by rw [HK.out]; congr 1; omega, trivial⟩, by simp [intOf]; omega⟩
    · have hjj : j = n := by omega
      subst hjj
      go_wp2
      go_ret
      exact ⟨rfl, rfl⟩

end Go.Proofs.Ytojgahcogpediaa
