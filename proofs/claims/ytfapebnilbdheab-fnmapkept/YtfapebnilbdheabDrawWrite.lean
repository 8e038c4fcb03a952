/- The contract of DrawWriteCmp. -/
import Derived.Test.YtfapebnilbdheabDrawTag
namespace Go.Proofs.Ytfapebnilbdheab
open Go.ChangeShapes Go.WideShapes Go.ChangeAt Go.RowKit Go.Joins
attribute [local go_sem ↓] Go.wp_at_zero Go.wp_at_succ

theorem two_writes (w : World) (t : Nat) : WBox ((w.alloc (.cells #[.int .i64 0, .int .i64 0, .int .i64 0, .int .i64 0, .int .i64 0, .bool false, .slice none 0 0] t)).alloc (.cells #[.int .i64 0, .int .i64 0, .int .i64 0, .int .i64 0, .int .i64 0, .bool false, .slice none 0 0] t)) w.heap.size 0 0 0 0 0 false none 0 0 ∧ WBox ((w.alloc (.cells #[.int .i64 0, .int .i64 0, .int .i64 0, .int .i64 0, .int .i64 0, .bool false, .slice none 0 0] t)).alloc (.cells #[.int .i64 0, .int .i64 0, .int .i64 0, .int .i64 0, .int .i64 0, .bool false, .slice none 0 0] t)) (w.heap.size + 1) 0 0 0 0 0 false none 0 0 := by
  have h := WBox.start (w.alloc (.cells #[.int .i64 0, .int .i64 0, .int .i64 0, .int .i64 0, .int .i64 0, .bool false, .slice none 0 0] t)) 0 0 0 0 0 false none 0 0 t
  have e : (w.alloc (.cells #[.int .i64 0, .int .i64 0, .int .i64 0, .int .i64 0, .int .i64 0, .bool false, .slice none 0 0] t)).heap.size = w.heap.size + 1 := by simp
  rw [e] at h
  exact ⟨(WBox.start w 0 0 0 0 0 false none 0 0 t).hole (Hole.of_below (B := w.heap.size + 2) ((Below.refl _ _).alloc (Nat.le_refl _) _)) (by omega), h⟩

/-- What is carried through the drawing of two writes. -/
structure DW (w W : World) (B bA bB g g' : Nat) (a : Option Addr) (len cap : Nat) (N : Int) (k c s q v : Int) (de : Bool) (ds : List Dp) (cp : Nat) (k' c' s' q' v' : Int) (de' : Bool) (ds' : List Dp) (cp' : Nat) : Prop where
  cur : Cur W B a len cap N
  below : Below w.heap.size w W
  r1 : WBox W w.heap.size 0 0 0 0 0 false none 0 0
  r2 : WBox W (w.heap.size + 1) 0 0 0 0 0 false none 0 0
  ba : WBox W bA k c s q v de (some ⟨g, 0, none⟩) ds.length cp
  bb : WBox W bB k' c' s' q' v' de' (some ⟨g', 0, none⟩) ds'.length cp'
  d1 : HoldsDeps W g 0 ds
  d2 : HoldsDeps W g' 0 ds'
  l1 : g < W.heap.size
  l2 : g' < W.heap.size
  eB : B = w.heap.size + 1 + 1
  g1 : B < g
  g2 : B < g'
  gA : g < bA
  gB : bA < bB
  gn : g' ≠ bB
  n1 : ds.length ≤ 7
  n2 : ds'.length ≤ 7

theorem DW.step {w W W' : World} {B bA bB g g' : Nat} {a : Option Addr} {len cap : Nat} {N M : Int} {k c s q v : Int} {de : Bool} {ds : List Dp} {cp : Nat} {k' c' s' q' v' : Int} {de' : Bool} {ds' : List Dp} {cp' : Nat} (h : DW w W B bA bB g g' a len cap N k c s q v de ds cp k' c' s' q' v' de' ds' cp') (hc : Cur W' B a len cap M) (hh : Hole B W W') : DW w W' B bA bB g g' a len cap M k c s q v de ds cp k' c' s' q' v' de' ds' cp' :=
  ⟨hc, hh.belowOf h.below (by have := h.eB; omega) h.below.size, h.r1.hole hh (by have := h.eB; omega), h.r2.hole hh (by have := h.eB; omega), h.ba.hole hh (by have := h.g1; have := h.gA; omega), h.bb.hole hh (by have := h.g1; have := h.gA; have := h.gB; omega), h.d1.hole hh h.l1 (by have := h.g1; omega), h.d2.hole hh h.l2 (by have := h.g2; omega), Nat.lt_of_lt_of_le h.l1 hh.size, Nat.lt_of_lt_of_le h.l2 hh.size, h.eB, h.g1, h.g2, h.gA, h.gB, h.gn, h.n1, h.n2⟩

theorem DW.set {w W : World} {B bA bB g g' : Nat} {a : Option Addr} {len cap : Nat} {N : Int} {k c s q v : Int} {de : Bool} {ds : List Dp} {cp : Nat} {k' c' s' q' v' x1 x2 x3 x4 x5 : Int} {de' x6 : Bool} {ds' : List Dp} {cp' : Nat} (h : DW w W B bA bB g g' a len cap N k c s q v de ds cp k' c' s' q' v' de' ds' cp') (o : Nat) (y : Value) (hb : WBox (W.setCell ⟨bB, o, none⟩ y) bB x1 x2 x3 x4 x5 x6 (some ⟨g', 0, none⟩) ds'.length cp') : DW w (W.setCell ⟨bB, o, none⟩ y) B bA bB g g' a len cap N k c s q v de ds cp x1 x2 x3 x4 x5 x6 ds' cp' := by
  have := h.eB
  have := h.g1
  have := h.gA
  have := h.gB
  exact ⟨h.cur.setOther (by omega) o y, h.below.setCell (by show w.heap.size ≤ bB; omega) y, h.r1.other (by omega) o y, h.r2.other (by omega) o y, h.ba.other (by omega) o y, hb, h.d1.set (by show bB ≠ g; omega) y, h.d2.set (Ne.symm h.gn) y, by simpa [World.setCell] using h.l1, by simpa [World.setCell] using h.l2, h.eB, h.g1, h.g2, h.gA, h.gB, h.gn, h.n1, h.n2⟩

abbrev put7 (W : World) (R : Nat) (v0 v1 v2 v3 v4 v5 v6 : Value) : World :=
  ((((((W.setCell ⟨R, 0, none⟩ v0).setCell ⟨R, 1, none⟩ v1).setCell ⟨R, 2, none⟩ v2).setCell ⟨R, 3, none⟩ v3).setCell ⟨R, 4, none⟩ v4).setCell ⟨R, 5, none⟩ v5).setCell ⟨R, 6, none⟩ v6

theorem holds_put7 {W : World} {R g : Nat} {ds : List Dp} (h : HoldsDeps W g 0 ds) (hn : R ≠ g) (v0 v1 v2 v3 v4 v5 v6 : Value) : HoldsDeps (put7 W R v0 v1 v2 v3 v4 v5 v6) g 0 ds := by
  have h0 := h.set (a := ⟨R, 0, none⟩) hn v0
  have h1 := h0.set (a := ⟨R, 1, none⟩) hn v1
  have h2 := h1.set (a := ⟨R, 2, none⟩) hn v2
  have h3 := h2.set (a := ⟨R, 3, none⟩) hn v3
  have h4 := h3.set (a := ⟨R, 4, none⟩) hn v4
  have h5 := h4.set (a := ⟨R, 5, none⟩) hn v5
  exact h5.set (a := ⟨R, 6, none⟩) hn v6

theorem below_put7 {w W : World} {R : Nat} (h : Below w.heap.size w W) (hR : w.heap.size ≤ R) (v0 v1 v2 v3 v4 v5 v6 : Value) : Below w.heap.size w (put7 W R v0 v1 v2 v3 v4 v5 v6) := by
  have h0 := h.setCell (p := ⟨R, 0, none⟩) hR v0
  have h1 := h0.setCell (p := ⟨R, 1, none⟩) hR v1
  have h2 := h1.setCell (p := ⟨R, 2, none⟩) hR v2
  have h3 := h2.setCell (p := ⟨R, 3, none⟩) hR v3
  have h4 := h3.setCell (p := ⟨R, 4, none⟩) hR v4
  have h5 := h4.setCell (p := ⟨R, 5, none⟩) hR v5
  exact h5.setCell (p := ⟨R, 6, none⟩) hR v6

theorem holds_drew {W : World} {g : Nat} {ds : List Dp} (h : HoldsDeps W g 0 ds) : HoldsDeps W.drew g 0 ds := h

theorem draw_end {w W : World} {B bA bB g g' : Nat} {a : Option Addr} {len cap : Nat} {N : Int} {k c s q v : Int} {de : Bool} {ds : List Dp} {cp : Nat} {k' c' s' q' v' : Int} {de' : Bool} {ds' : List Dp} {cp' : Nat} (h : DW w W B bA bB g g' a len cap N k c s q v de ds cp k' c' s' q' v' de' ds' cp') (v0 v1 v2 v3 v4 v5 v6 u0 u1 u2 u3 u4 u5 u6 : Value) :
    g < (put7 (put7 W w.heap.size v0 v1 v2 v3 v4 v5 v6) (w.heap.size + 1) u0 u1 u2 u3 u4 u5 u6).drew.heap.size ∧ g' < (put7 (put7 W w.heap.size v0 v1 v2 v3 v4 v5 v6) (w.heap.size + 1) u0 u1 u2 u3 u4 u5 u6).drew.heap.size ∧ HoldsDeps (put7 (put7 W w.heap.size v0 v1 v2 v3 v4 v5 v6) (w.heap.size + 1) u0 u1 u2 u3 u4 u5 u6).drew g 0 ds ∧ HoldsDeps (put7 (put7 W w.heap.size v0 v1 v2 v3 v4 v5 v6) (w.heap.size + 1) u0 u1 u2 u3 u4 u5 u6).drew g' 0 ds' ∧ Below w.heap.size w (put7 (put7 W w.heap.size v0 v1 v2 v3 v4 v5 v6) (w.heap.size + 1) u0 u1 u2 u3 u4 u5 u6).drew := by
  have := h.eB
  have := h.g1
  have := h.g2
  have a1 : w.heap.size ≠ g := by omega
  have a2 : w.heap.size + 1 ≠ g := by omega
  have b1 : w.heap.size ≠ g' := by omega
  have b2 : w.heap.size + 1 ≠ g' := by omega
  exact ⟨by simpa [World.setCell] using h.l1, by simpa [World.setCell] using h.l2, holds_drew (holds_put7 (holds_put7 h.d1 a1 _ _ _ _ _ _ _) a2 _ _ _ _ _ _ _), holds_drew (holds_put7 (holds_put7 h.d2 b1 _ _ _ _ _ _ _) b2 _ _ _ _ _ _ _), (below_put7 (below_put7 h.below (Nat.le_refl _) _ _ _ _ _ _ _) (by omega) _ _ _ _ _ _ _).drew⟩

theorem cur_put7 {W : World} {B R : Nat} {a : Option Addr} {len cap : Nat} {N : Int} (h : Cur W B a len cap N) (hR : B < R) (v0 v1 v2 v3 v4 v5 v6 : Value) : Cur (put7 W R v0 v1 v2 v3 v4 v5 v6) B a len cap N := by
  have h0 := h.setOther hR 0 v0
  have h1 := h0.setOther hR 1 v1
  have h2 := h1.setOther hR 2 v2
  have h3 := h2.setOther hR 3 v3
  have h4 := h3.setOther hR 4 v4
  have h5 := h4.setOther hR 5 v5
  exact h5.setOther hR 6 v6

theorem box_put7 {W : World} {R b : Nat} {k c s q v : Int} {de : Bool} {x : Option Addr} {len cap : Nat} (h : WBox W b k c s q v de x len cap) (hn : R ≠ b) (v0 v1 v2 v3 v4 v5 v6 : Value) : WBox (put7 W R v0 v1 v2 v3 v4 v5 v6) b k c s q v de x len cap := by
  have h0 := h.other hn 0 v0
  have h1 := h0.other hn 1 v1
  have h2 := h1.other hn 2 v2
  have h3 := h2.other hn 3 v3
  have h4 := h3.other hn 4 v4
  have h5 := h4.other hn 5 v5
  exact h5.other hn 6 v6

theorem box_own7 {W : World} {b : Nat} {k0 c0 s0 q0 v0 : Int} {de0 : Bool} {x0 : Option Addr} {len0 cap0 : Nat} (h : WBox W b k0 c0 s0 q0 v0 de0 x0 len0 cap0) (k c s q v : Int) (de : Bool) (x : Option Addr) (len cap : Nat) : WBox (put7 W b (.int .i64 k) (.int .i64 c) (.int .i64 s) (.int .i64 q) (.int .i64 v) (.bool de) (.slice x len cap)) b k c s q v de x len cap := by
  have h0 := h.set0 k
  have h1 := h0.set1 c
  have h2 : WBox ((((W.setCell ⟨b, 0, none⟩ (.int .i64 k)).setCell ⟨b, 1, none⟩ (.int .i64 c)).setCell ⟨b, 2, none⟩ (.int .i64 s))) b k c s q0 v0 de0 x0 len0 cap0 :=
    ⟨by simpa [World.setCell] using h1.lt, cell_set_off h1.c0 (by omega), cell_set_off h1.c1 (by omega), cell_set_same h1.c2, cell_set_off h1.c3 (by omega), cell_set_off h1.c4 (by omega), cell_set_off h1.c5 (by omega), cell_set_off h1.c6 (by omega), fun o => by rw [World.frozen?_setCell]; exact h1.fz o⟩
  have h3 : WBox (((((W.setCell ⟨b, 0, none⟩ (.int .i64 k)).setCell ⟨b, 1, none⟩ (.int .i64 c)).setCell ⟨b, 2, none⟩ (.int .i64 s))).setCell ⟨b, 3, none⟩ (.int .i64 q)) b k c s q v0 de0 x0 len0 cap0 :=
    ⟨by simpa [World.setCell] using h2.lt, cell_set_off h2.c0 (by omega), cell_set_off h2.c1 (by omega), cell_set_off h2.c2 (by omega), cell_set_same h2.c3, cell_set_off h2.c4 (by omega), cell_set_off h2.c5 (by omega), cell_set_off h2.c6 (by omega), fun o => by rw [World.frozen?_setCell]; exact h2.fz o⟩
  have h4 := h3.set4 v
  have h5 := h4.set5 de
  exact h5.set6 x len cap

set_option maxRecDepth 100000 in
set_option maxHeartbeats 8000000 in
theorem drawWriteCmp_any (a : Option Addr) (len cap : Nat) (w : World) (h : Bytes w a len) (hl : len ≤ 1048576) :
    Calls Try.prog 11 #[.slice a len cap] w fun e w' => ∃ (k c s q v : Int) (de : Bool) (g cp : Nat) (ds : List Dp) (k' c' s' q' v' : Int) (de' : Bool) (g' cp' : Nat) (ds' : List Dp), e = .returned (.tuple #[wrV k c s q v de (some ⟨g, 0, none⟩) ds.length cp, wrV k' c' s' q' v' de' (some ⟨g', 0, none⟩) ds'.length cp']) ∧ ds.length ≤ 7 ∧ ds'.length ≤ 7 ∧ g < w'.heap.size ∧ g' < w'.heap.size ∧ HoldsDeps w' g 0 ds ∧ HoldsDeps w' g' 0 ds' ∧ Below w.heap.size w w' := by
  have HY : Hid (Bytes w a len) := h
  clear h
  go_enter Try.func11, Try.ntmps11
  go_wp2_with fail
  have HA : Hid (Below w.heap.size w ((w.alloc (.cells #[.int .i64 0, .int .i64 0, .int .i64 0, .int .i64 0, .int .i64 0, .bool false, .slice none 0 0] 31)).alloc (.cells #[.int .i64 0, .int .i64 0, .int .i64 0, .int .i64 0, .int .i64 0, .bool false, .slice none 0 0] 31))) := ((Below.refl _ _).alloc (Nat.le_refl _) _).alloc (by simp) _
  have HXY : Hid (WBox ((w.alloc (.cells #[.int .i64 0, .int .i64 0, .int .i64 0, .int .i64 0, .int .i64 0, .bool false, .slice none 0 0] 31)).alloc (.cells #[.int .i64 0, .int .i64 0, .int .i64 0, .int .i64 0, .int .i64 0, .bool false, .slice none 0 0] 31)) w.heap.size 0 0 0 0 0 false none 0 0 ∧ WBox ((w.alloc (.cells #[.int .i64 0, .int .i64 0, .int .i64 0, .int .i64 0, .int .i64 0, .bool false, .slice none 0 0] 31)).alloc (.cells #[.int .i64 0, .int .i64 0, .int .i64 0, .int .i64 0, .int .i64 0, .bool false, .slice none 0 0] 31)) (w.heap.size + 1) 0 0 0 0 0 false none 0 0) := two_writes w _
  refine (open_as _ _ _ (w.heap.size + 1 + 1) _ (by simp) (HY.out.below HA.out) hl).mono ?_
  rintro e w1 ⟨rfl, hc1, hb1⟩
  have HC1 : Hid (Cur w1 (w.heap.size + 1 + 1) a len cap 0) := hc1
  have HX1 : Hid (WBox w1 w.heap.size 0 0 0 0 0 false none 0 0) := HXY.out.1.hole (Hole.of_below (B := w.heap.size + 1 + 1) hb1) (by omega)
  have HY1 : Hid (WBox w1 (w.heap.size + 1) 0 0 0 0 0 false none 0 0) := HXY.out.2.hole (Hole.of_below (B := w.heap.size + 1 + 1) hb1) (by omega)
  have HB1 : Hid (Below w.heap.size w w1) := below_step HA.out HA.out.size hb1
  have hz1 := HC1.out.lt
  clear hc1 hb1 HXY HA
  go_wp2_with fail
  refine (write_any _ a len cap 0 _ (by omega) HC1.out).mono ?_
  rintro e w2 ⟨k, c, s, q, v, de, g, cp, ds, rfl, hds, hg1, hg2, hD, hc2, hh2⟩
  have HC2 : Hid (Cur w2 (w.heap.size + 1 + 1) a len cap 80) := hc2
  have HX2 : Hid (WBox w2 w.heap.size 0 0 0 0 0 false none 0 0) := HX1.out.hole hh2 (by omega)
  have HY2 : Hid (WBox w2 (w.heap.size + 1) 0 0 0 0 0 false none 0 0) := HY1.out.hole hh2 (by omega)
  have HB2 : Hid (Below w.heap.size w w2) := hh2.belowOf HB1.out (by omega) HB1.out.size
  have HD2 : Hid (HoldsDeps w2 g 0 ds) := hD
  clear hc2 hh2 HC1 HX1 HY1 HB1 hD
  have hz2 := HY2.out.lt
  have hzc := HC2.out.lt
  go_wp2_with fail
  have H2 : Hid (DW w ((w2.alloc (.cells #[.int .i64 k, .int .i64 c, .int .i64 s, .int .i64 q, .int .i64 v, .bool de, .slice (some ⟨g, 0, none⟩) ds.length cp] 31)).alloc (.cells #[.int .i64 k, .int .i64 c, .int .i64 s, .int .i64 q, .int .i64 v, .bool de, .slice (some ⟨g, 0, none⟩) ds.length cp] 31)) (w.heap.size + 1 + 1) w2.heap.size (w2.heap.size + 1) g g a len cap 80 k c s q v de ds cp k c s q v de ds cp) := by
    have hA : Below w2.heap.size w2 ((w2.alloc (.cells #[.int .i64 k, .int .i64 c, .int .i64 s, .int .i64 q, .int .i64 v, .bool de, .slice (some ⟨g, 0, none⟩) ds.length cp] 31)).alloc (.cells #[.int .i64 k, .int .i64 c, .int .i64 s, .int .i64 q, .int .i64 v, .bool de, .slice (some ⟨g, 0, none⟩) ds.length cp] 31)) := ((Below.refl _ _).alloc (Nat.le_refl _) _).alloc (by simp) _
    have h1 := WBox.start w2 k c s q v de (some ⟨g, 0, none⟩) ds.length cp 31
    have h2 := WBox.start (w2.alloc (.cells #[.int .i64 k, .int .i64 c, .int .i64 s, .int .i64 q, .int .i64 v, .bool de, .slice (some ⟨g, 0, none⟩) ds.length cp] 31)) k c s q v de (some ⟨g, 0, none⟩) ds.length cp 31
    have e : (w2.alloc (.cells #[.int .i64 k, .int .i64 c, .int .i64 s, .int .i64 q, .int .i64 v, .bool de, .slice (some ⟨g, 0, none⟩) ds.length cp] 31)).heap.size = w2.heap.size + 1 := by simp
    rw [e] at h2
    exact ⟨HC2.out.below hA, below_step HB2.out HB2.out.size hA, HX2.out.hole (Hole.of_below (B := w.heap.size + 1 + 1) hA) (by omega), HY2.out.hole (Hole.of_below (B := w.heap.size + 1 + 1) hA) (by omega), h1.hole (Hole.of_below (B := w.heap.size + 1 + 1) ((Below.refl _ _).alloc (Nat.le_refl _) _)) (by omega), h2, HD2.out.below hA hg2, HD2.out.below hA hg2, Nat.lt_of_lt_of_le hg2 hA.size, Nat.lt_of_lt_of_le hg2 hA.size, rfl, by omega, by omega, by omega, by omega, by omega, hds, hds⟩
  refine (pick_any _ a len cap 80 5 _ (by omega) (by omega) (by omega) H2.out.cur).mono ?_
  rintro e w3 ⟨r3, rfl, q30, q31, hc3, hh3⟩
  have H3 : Hid (DW w w3 (w.heap.size + 1 + 1) w2.heap.size (w2.heap.size + 1) g g a len cap 81 k c s q v de ds cp k c s q v de ds cp) := (H2.out.step hc3 hh3 : _)
  clear hc3 hh3 H2 HC2 HX2 HY2 HB2 HD2
  have x0 := H3.out.r1.c0
  have x1 := H3.out.r1.c1
  have x2 := H3.out.r1.c2
  have x3 := H3.out.r1.c3
  have x4 := H3.out.r1.c4
  have x5 := H3.out.r1.c5
  have x6 := H3.out.r1.c6
  have y0 := H3.out.r2.c0
  have y1 := H3.out.r2.c1
  have y2 := H3.out.r2.c2
  have y3 := H3.out.r2.c3
  have y4 := H3.out.r2.c4
  have y5 := H3.out.r2.c5
  have y6 := H3.out.r2.c6
  have z0 := H3.out.ba.c0
  have z1 := H3.out.ba.c1
  have z2 := H3.out.ba.c2
  have z3 := H3.out.ba.c3
  have z4 := H3.out.ba.c4
  have z5 := H3.out.ba.c5
  have z6 := H3.out.ba.c6
  have t0 := H3.out.bb.c0
  have t1 := H3.out.bb.c1
  have t2 := H3.out.bb.c2
  have t3 := H3.out.bb.c3
  have t4 := H3.out.bb.c4
  have t5 := H3.out.bb.c5
  have t6 := H3.out.bb.c6
  have xf := H3.out.r1.fz
  have yf := H3.out.r2.fz
  have tf := H3.out.bb.fz
  have b0 : w.heap.size ≠ w.heap.size + 1 := by omega
  by_cases k0 : r3 = 0
  · subst k0
    go_wp2_with fail
    go_region
    go_wp2
    obtain ⟨p1, p2, p3, p4, p5⟩ := draw_end H3.out (.int .i64 k) (.int .i64 c) (.int .i64 s) (.int .i64 q) (.int .i64 v) (.bool de) (.slice (some ⟨g, 0, none⟩) ds.length cp) (.int .i64 k) (.int .i64 c) (.int .i64 s) (.int .i64 q) (.int .i64 v) (.bool de) (.slice (some ⟨g, 0, none⟩) ds.length cp)
    exact bodyPost_ret (v := .tuple #[wrV k c s q v de (some ⟨g, 0, none⟩) ds.length cp, wrV k c s q v de (some ⟨g, 0, none⟩) ds.length cp]) (by simp [results, Try.results11, go_sem, x0, x1, x2, x3, x4, x5, x6, y0, y1, y2, y3, y4, y5, y6]) rfl ⟨k, c, s, q, v, de, g, cp, ds, k, c, s, q, v, de, g, cp, ds, rfl, hds, hds, p1, p2, p3, p4, p5⟩
  · by_cases k1 : r3 = 1
    · subst k1
      have H4 : Hid (DW w (w3.setCell ⟨w2.heap.size + 1, 4, none⟩ (.int .i64 (wrap64 (v + 1)))) (w.heap.size + 1 + 1) w2.heap.size (w2.heap.size + 1) g g a len cap 81 k c s q v de ds cp k c s q (wrap64 (v + 1)) de ds cp) := H3.out.set 4 _ (H3.out.bb.set4 _)
      go_wp2_with fail
      clear x0 x1 x2 x3 x4 x5 x6 y0 y1 y2 y3 y4 y5 y6 z0 z1 z2 z3 z4 z5 z6 t0 t1 t2 t3 t4 t5 t6 xf yf tf
      clear H3
      generalize (w3.setCell ⟨w2.heap.size + 1, 4, none⟩ (.int .i64 (wrap64 (v + 1)))) = W at *
      generalize wrap64 (v + 1) = v2 at *
      have x0 := H4.out.r1.c0
      have x1 := H4.out.r1.c1
      have x2 := H4.out.r1.c2
      have x3 := H4.out.r1.c3
      have x4 := H4.out.r1.c4
      have x5 := H4.out.r1.c5
      have x6 := H4.out.r1.c6
      have y0 := H4.out.r2.c0
      have y1 := H4.out.r2.c1
      have y2 := H4.out.r2.c2
      have y3 := H4.out.r2.c3
      have y4 := H4.out.r2.c4
      have y5 := H4.out.r2.c5
      have y6 := H4.out.r2.c6
      have z0 := H4.out.ba.c0
      have z1 := H4.out.ba.c1
      have z2 := H4.out.ba.c2
      have z3 := H4.out.ba.c3
      have z4 := H4.out.ba.c4
      have z5 := H4.out.ba.c5
      have z6 := H4.out.ba.c6
      have t0 := H4.out.bb.c0
      have t1 := H4.out.bb.c1
      have t2 := H4.out.bb.c2
      have t3 := H4.out.bb.c3
      have t4 := H4.out.bb.c4
      have t5 := H4.out.bb.c5
      have t6 := H4.out.bb.c6
      have xf := H4.out.r1.fz
      have yf := H4.out.r2.fz
      have tf := H4.out.bb.fz
      go_region
      go_wp2
      obtain ⟨p1, p2, p3, p4, p5⟩ := draw_end H4.out (.int .i64 k) (.int .i64 c) (.int .i64 s) (.int .i64 q) (.int .i64 v) (.bool de) (.slice (some ⟨g, 0, none⟩) ds.length cp) (.int .i64 k) (.int .i64 c) (.int .i64 s) (.int .i64 q) (.int .i64 v2) (.bool de) (.slice (some ⟨g, 0, none⟩) ds.length cp)
      exact bodyPost_ret (v := .tuple #[wrV k c s q v de (some ⟨g, 0, none⟩) ds.length cp, wrV k c s q v2 de (some ⟨g, 0, none⟩) ds.length cp]) (by simp [results, Try.results11, go_sem, x0, x1, x2, x3, x4, x5, x6, y0, y1, y2, y3, y4, y5, y6]) rfl ⟨k, c, s, q, v, de, g, cp, ds, k, c, s, q, v2, de, g, cp, ds, rfl, hds, hds, p1, p2, p3, p4, p5⟩
    · have k0' : (r3 == 0) = false := by simp [k0]
      have k1' : (r3 == 1) = false := by simp [k1]
      by_cases k2 : r3 = 2
      · subst k2
        go_wp2_with fail
        refine (deps_any _ a len cap 81 _ (by omega) H3.out.cur).mono ?_
        rintro e w4 ⟨g', cp', ds', rfl, hds2, hO, hc4, hh4⟩
        have hbB := H3.out.bb.lt
        have hle := hO.le
        have hlt4 := hO.lt
        have HS := H3.out.step hc4 hh4
        have H4 : Hid (DW w (w4.setCell ⟨w2.heap.size + 1, 6, none⟩ (.slice (some ⟨g', 0, none⟩) ds'.length cp')) (w.heap.size + 1 + 1) w2.heap.size (w2.heap.size + 1) g g' a len cap (81 + 40) k c s q v de ds cp k c s q v de ds' cp') :=
          ⟨HS.cur.setOther (by omega) _ _, HS.below.setCell (by simp; omega) _, HS.r1.other (by omega) _ _, HS.r2.other (by omega) _ _, HS.ba.other (by omega) _ _, HS.bb.set6 _ _ _, HS.d1.set (by simp; omega) _, hO.holds.set (by simp; omega) _, by simpa [World.setCell] using HS.l1, by simpa [World.setCell] using hlt4, rfl, HS.g1, by omega, HS.gA, HS.gB, by omega, hds, hds2⟩
        clear x0 x1 x2 x3 x4 x5 x6 y0 y1 y2 y3 y4 y5 y6 z0 z1 z2 z3 z4 z5 z6 t0 t1 t2 t3 t4 t5 t6 xf yf tf
        have t6 := HS.bb.c6
        have tf := HS.bb.fz
        clear H3 HS hO hc4 hh4
        go_wp2_with fail
        clear t6 tf
        generalize (w4.setCell ⟨w2.heap.size + 1, 6, none⟩ (.slice (some ⟨g', 0, none⟩) ds'.length cp')) = W at *
        have x0 := H4.out.r1.c0
        have x1 := H4.out.r1.c1
        have x2 := H4.out.r1.c2
        have x3 := H4.out.r1.c3
        have x4 := H4.out.r1.c4
        have x5 := H4.out.r1.c5
        have x6 := H4.out.r1.c6
        have y0 := H4.out.r2.c0
        have y1 := H4.out.r2.c1
        have y2 := H4.out.r2.c2
        have y3 := H4.out.r2.c3
        have y4 := H4.out.r2.c4
        have y5 := H4.out.r2.c5
        have y6 := H4.out.r2.c6
        have z0 := H4.out.ba.c0
        have z1 := H4.out.ba.c1
        have z2 := H4.out.ba.c2
        have z3 := H4.out.ba.c3
        have z4 := H4.out.ba.c4
        have z5 := H4.out.ba.c5
        have z6 := H4.out.ba.c6
        have t0 := H4.out.bb.c0
        have t1 := H4.out.bb.c1
        have t2 := H4.out.bb.c2
        have t3 := H4.out.bb.c3
        have t4 := H4.out.bb.c4
        have t5 := H4.out.bb.c5
        have t6 := H4.out.bb.c6
        have xf := H4.out.r1.fz
        have yf := H4.out.r2.fz
        have tf := H4.out.bb.fz
        go_region
        go_wp2
        obtain ⟨p1, p2, p3, p4, p5⟩ := draw_end H4.out (.int .i64 k) (.int .i64 c) (.int .i64 s) (.int .i64 q) (.int .i64 v) (.bool de) (.slice (some ⟨g, 0, none⟩) ds.length cp) (.int .i64 k) (.int .i64 c) (.int .i64 s) (.int .i64 q) (.int .i64 v) (.bool de) (.slice (some ⟨g', 0, none⟩) ds'.length cp')
        exact bodyPost_ret (v := .tuple #[wrV k c s q v de (some ⟨g, 0, none⟩) ds.length cp, wrV k c s q v de (some ⟨g', 0, none⟩) ds'.length cp']) (by simp [results, Try.results11, go_sem, x0, x1, x2, x3, x4, x5, x6, y0, y1, y2, y3, y4, y5, y6]) rfl ⟨k, c, s, q, v, de, g, cp, ds, k, c, s, q, v, de, g', cp', ds', rfl, hds, hds2, p1, p2, p3, p4, p5⟩
      · have k2' : (r3 == 2) = false := by simp [k2]
        by_cases k3 : r3 = 3
        · subst k3
          have H4 : Hid (DW w (w3.setCell ⟨w2.heap.size + 1, 5, none⟩ (.bool (!de))) (w.heap.size + 1 + 1) w2.heap.size (w2.heap.size + 1) g g a len cap 81 k c s q v de ds cp k c s q v (!de) ds cp) := H3.out.set 5 _ (H3.out.bb.set5 _)
          go_wp2_with fail
          clear x0 x1 x2 x3 x4 x5 x6 y0 y1 y2 y3 y4 y5 y6 z0 z1 z2 z3 z4 z5 z6 t0 t1 t2 t3 t4 t5 t6 xf yf tf
          clear H3
          generalize (w3.setCell ⟨w2.heap.size + 1, 5, none⟩ (.bool (!de))) = W at *
          generalize (!de) = de2 at *
          have x0 := H4.out.r1.c0
          have x1 := H4.out.r1.c1
          have x2 := H4.out.r1.c2
          have x3 := H4.out.r1.c3
          have x4 := H4.out.r1.c4
          have x5 := H4.out.r1.c5
          have x6 := H4.out.r1.c6
          have y0 := H4.out.r2.c0
          have y1 := H4.out.r2.c1
          have y2 := H4.out.r2.c2
          have y3 := H4.out.r2.c3
          have y4 := H4.out.r2.c4
          have y5 := H4.out.r2.c5
          have y6 := H4.out.r2.c6
          have z0 := H4.out.ba.c0
          have z1 := H4.out.ba.c1
          have z2 := H4.out.ba.c2
          have z3 := H4.out.ba.c3
          have z4 := H4.out.ba.c4
          have z5 := H4.out.ba.c5
          have z6 := H4.out.ba.c6
          have t0 := H4.out.bb.c0
          have t1 := H4.out.bb.c1
          have t2 := H4.out.bb.c2
          have t3 := H4.out.bb.c3
          have t4 := H4.out.bb.c4
          have t5 := H4.out.bb.c5
          have t6 := H4.out.bb.c6
          have xf := H4.out.r1.fz
          have yf := H4.out.r2.fz
          have tf := H4.out.bb.fz
          go_region
          go_wp2
          obtain ⟨p1, p2, p3, p4, p5⟩ := draw_end H4.out (.int .i64 k) (.int .i64 c) (.int .i64 s) (.int .i64 q) (.int .i64 v) (.bool de) (.slice (some ⟨g, 0, none⟩) ds.length cp) (.int .i64 k) (.int .i64 c) (.int .i64 s) (.int .i64 q) (.int .i64 v) (.bool de2) (.slice (some ⟨g, 0, none⟩) ds.length cp)
          exact bodyPost_ret (v := .tuple #[wrV k c s q v de (some ⟨g, 0, none⟩) ds.length cp, wrV k c s q v de2 (some ⟨g, 0, none⟩) ds.length cp]) (by simp [results, Try.results11, go_sem, x0, x1, x2, x3, x4, x5, x6, y0, y1, y2, y3, y4, y5, y6]) rfl ⟨k, c, s, q, v, de, g, cp, ds, k, c, s, q, v, de2, g, cp, ds, rfl, hds, hds, p1, p2, p3, p4, p5⟩
        · have k3' : (r3 == 3) = false := by simp [k3]
          clear k0 k1 k2 k3
          go_wp2_with fail
          refine (write_any _ a len cap 81 _ (by omega) H3.out.cur).mono ?_
          rintro e w4 ⟨k', c', s', q', v', de', g', cp', ds', rfl, hds2, hle, hlt4, hD4, hc4, hh4⟩
          have hbB := H3.out.bb.lt
          have HS := H3.out.step hc4 hh4
          have H4 : Hid (DW w (((((((w4.setCell ⟨w2.heap.size + 1, 0, none⟩ (.int .i64 k')).setCell ⟨w2.heap.size + 1, 1, none⟩ (.int .i64 c')).setCell ⟨w2.heap.size + 1, 2, none⟩ (.int .i64 s')).setCell ⟨w2.heap.size + 1, 3, none⟩ (.int .i64 q')).setCell ⟨w2.heap.size + 1, 4, none⟩ (.int .i64 v')).setCell ⟨w2.heap.size + 1, 5, none⟩ (.bool de')).setCell ⟨w2.heap.size + 1, 6, none⟩ (.slice (some ⟨g', 0, none⟩) ds'.length cp')) (w.heap.size + 1 + 1) w2.heap.size (w2.heap.size + 1) g g' a len cap (81 + 80) k c s q v de ds cp k' c' s' q' v' de' ds' cp') :=
            ⟨cur_put7 HS.cur (by omega) _ _ _ _ _ _ _, below_put7 HS.below (by omega) _ _ _ _ _ _ _, box_put7 HS.r1 (by omega) _ _ _ _ _ _ _, box_put7 HS.r2 (by omega) _ _ _ _ _ _ _, box_put7 HS.ba (by omega) _ _ _ _ _ _ _, box_own7 HS.bb _ _ _ _ _ _ _ _ _, holds_put7 HS.d1 (by omega) _ _ _ _ _ _ _, holds_put7 hD4 (by omega) _ _ _ _ _ _ _, by simpa [World.setCell] using HS.l1, by simpa [World.setCell] using hlt4, rfl, HS.g1, by omega, HS.gA, HS.gB, by omega, hds, hds2⟩
          clear x0 x1 x2 x3 x4 x5 x6 y0 y1 y2 y3 y4 y5 y6 z0 z1 z2 z3 z4 z5 z6 t0 t1 t2 t3 t4 t5 t6 xf yf tf
          have t0 := HS.bb.c0
          have t1 := HS.bb.c1
          have t2 := HS.bb.c2
          have t3 := HS.bb.c3
          have t4 := HS.bb.c4
          have t5 := HS.bb.c5
          have t6 := HS.bb.c6
          have tf := HS.bb.fz
          clear H3 HS hc4 hh4 hD4
          go_wp2_with fail
          clear t0 t1 t2 t3 t4 t5 t6 tf
          generalize (((((((w4.setCell ⟨w2.heap.size + 1, 0, none⟩ (.int .i64 k')).setCell ⟨w2.heap.size + 1, 1, none⟩ (.int .i64 c')).setCell ⟨w2.heap.size + 1, 2, none⟩ (.int .i64 s')).setCell ⟨w2.heap.size + 1, 3, none⟩ (.int .i64 q')).setCell ⟨w2.heap.size + 1, 4, none⟩ (.int .i64 v')).setCell ⟨w2.heap.size + 1, 5, none⟩ (.bool de')).setCell ⟨w2.heap.size + 1, 6, none⟩ (.slice (some ⟨g', 0, none⟩) ds'.length cp')) = W at *
          have x0 := H4.out.r1.c0
          have x1 := H4.out.r1.c1
          have x2 := H4.out.r1.c2
          have x3 := H4.out.r1.c3
          have x4 := H4.out.r1.c4
          have x5 := H4.out.r1.c5
          have x6 := H4.out.r1.c6
          have y0 := H4.out.r2.c0
          have y1 := H4.out.r2.c1
          have y2 := H4.out.r2.c2
          have y3 := H4.out.r2.c3
          have y4 := H4.out.r2.c4
          have y5 := H4.out.r2.c5
          have y6 := H4.out.r2.c6
          have z0 := H4.out.ba.c0
          have z1 := H4.out.ba.c1
          have z2 := H4.out.ba.c2
          have z3 := H4.out.ba.c3
          have z4 := H4.out.ba.c4
          have z5 := H4.out.ba.c5
          have z6 := H4.out.ba.c6
          have t0 := H4.out.bb.c0
          have t1 := H4.out.bb.c1
          have t2 := H4.out.bb.c2
          have t3 := H4.out.bb.c3
          have t4 := H4.out.bb.c4
          have t5 := H4.out.bb.c5
          have t6 := H4.out.bb.c6
          have xf := H4.out.r1.fz
          have yf := H4.out.r2.fz
          have tf := H4.out.bb.fz
          go_region
          go_wp2
          obtain ⟨p1, p2, p3, p4, p5⟩ := draw_end H4.out (.int .i64 k) (.int .i64 c) (.int .i64 s) (.int .i64 q) (.int .i64 v) (.bool de) (.slice (some ⟨g, 0, none⟩) ds.length cp) (.int .i64 k') (.int .i64 c') (.int .i64 s') (.int .i64 q') (.int .i64 v') (.bool de') (.slice (some ⟨g', 0, none⟩) ds'.length cp')
          exact bodyPost_ret (v := .tuple #[wrV k c s q v de (some ⟨g, 0, none⟩) ds.length cp, wrV k' c' s' q' v' de' (some ⟨g', 0, none⟩) ds'.length cp']) (by simp [results, Try.results11, go_sem, x0, x1, x2, x3, x4, x5, x6, y0, y1, y2, y3, y4, y5, y6]) rfl ⟨k, c, s, q, v, de, g, cp, ds, k', c', s', q', v', de', g', cp', ds', rfl, hds, hds2, p1, p2, p3, p4, p5⟩

end Go.Proofs.Ytfapebnilbdheab
