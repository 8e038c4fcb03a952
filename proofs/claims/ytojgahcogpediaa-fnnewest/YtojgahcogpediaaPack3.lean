import Derived.Test.YtojgahcogpediaaPack1
import Derived.Test.YtojgahcogpediaaPack2
import Derived.Lib.Hide
/- The contract of the cursor's write. -/
namespace Go.Proofs.Ytojgahcogpediaa
open Go.ChangeShapes Go.WideShapes Go.ChangeAt Go.RowKit Go.Joins

/-- A write in a block of its own. -/
structure WBox (w : World) (b : Nat) (k c s q v : Int) (de : Bool) (x : Option Addr) (len cap : Nat) : Prop where
  lt : b < w.heap.size
  c0 : w.cell? ⟨b, 0, none⟩ = some (.int .i64 k)
  c1 : w.cell? ⟨b, 1, none⟩ = some (.int .i64 c)
  c2 : w.cell? ⟨b, 2, none⟩ = some (.int .i64 s)
  c3 : w.cell? ⟨b, 3, none⟩ = some (.int .i64 q)
  c4 : w.cell? ⟨b, 4, none⟩ = some (.int .i64 v)
  c5 : w.cell? ⟨b, 5, none⟩ = some (.bool de)
  c6 : w.cell? ⟨b, 6, none⟩ = some (.slice x len cap)
  fz : ∀ o, w.frozen? ⟨b, o, none⟩ = false

theorem WBox.start (w : World) (k c s q v : Int) (de : Bool) (x : Option Addr) (len cap : Nat) (t : Nat) : WBox (w.alloc (.cells #[.int .i64 k, .int .i64 c, .int .i64 s, .int .i64 q, .int .i64 v, .bool de, .slice x len cap] t)) w.heap.size k c s q v de x len cap :=
  ⟨by simp, by simp [go_sem], by simp [go_sem], by simp [go_sem], by simp [go_sem], by simp [go_sem], by simp [go_sem], by simp [go_sem], fun o => by simp [go_sem]⟩

theorem WBox.hole {w w' : World} {B b : Nat} {k c s q v : Int} {de : Bool} {x : Option Addr} {len cap : Nat} (h : WBox w b k c s q v de x len cap) (hh : Hole B w w') (hn : b ≠ B) : WBox w' b k c s q v de x len cap :=
  ⟨Nat.lt_of_lt_of_le h.lt hh.size, (hh.cell h.lt hn).trans h.c0, (hh.cell h.lt hn).trans h.c1, (hh.cell h.lt hn).trans h.c2, (hh.cell h.lt hn).trans h.c3, (hh.cell h.lt hn).trans h.c4, (hh.cell h.lt hn).trans h.c5, (hh.cell h.lt hn).trans h.c6, fun o => (hh.frozen h.lt hn).trans (h.fz o)⟩

theorem WBox.other {w : World} {R b : Nat} {k c s q v : Int} {de : Bool} {x : Option Addr} {len cap : Nat} (h : WBox w b k c s q v de x len cap) (hn : R ≠ b) (o : Nat) (y : Value) : WBox (w.setCell ⟨R, o, none⟩ y) b k c s q v de x len cap := by
  have hne : ∀ o', (Addr.mk R o none) ≠ ⟨b, o', none⟩ := fun o' e => hn (by injection e)
  exact ⟨by simpa [World.setCell] using h.lt, (World.cell?_setCell_other _ _ _ _ (hne _)).trans h.c0, (World.cell?_setCell_other _ _ _ _ (hne _)).trans h.c1, (World.cell?_setCell_other _ _ _ _ (hne _)).trans h.c2, (World.cell?_setCell_other _ _ _ _ (hne _)).trans h.c3, (World.cell?_setCell_other _ _ _ _ (hne _)).trans h.c4, (World.cell?_setCell_other _ _ _ _ (hne _)).trans h.c5, (World.cell?_setCell_other _ _ _ _ (hne _)).trans h.c6, fun o => by rw [World.frozen?_setCell]; exact h.fz o⟩

theorem WBox.set0 {w : World} {b : Nat} {k c s q v : Int} {de : Bool} {x : Option Addr} {len cap : Nat} (h : WBox w b k c s q v de x len cap) (y : Int) : WBox (w.setCell ⟨b, 0, none⟩ (.int .i64 y)) b y c s q v de x len cap :=
  ⟨by simpa [World.setCell] using h.lt, cell_set_same h.c0, cell_set_off h.c1 (by omega), cell_set_off h.c2 (by omega), cell_set_off h.c3 (by omega), cell_set_off h.c4 (by omega), cell_set_off h.c5 (by omega), cell_set_off h.c6 (by omega), fun o => by rw [World.frozen?_setCell]; exact h.fz o⟩

theorem WBox.set1 {w : World} {b : Nat} {k c s q v : Int} {de : Bool} {x : Option Addr} {len cap : Nat} (h : WBox w b k c s q v de x len cap) (y : Int) : WBox (w.setCell ⟨b, 1, none⟩ (.int .i64 y)) b k y s q v de x len cap :=
  ⟨by simpa [World.setCell] using h.lt, cell_set_off h.c0 (by omega), cell_set_same h.c1, cell_set_off h.c2 (by omega), cell_set_off h.c3 (by omega), cell_set_off h.c4 (by omega), cell_set_off h.c5 (by omega), cell_set_off h.c6 (by omega), fun o => by rw [World.frozen?_setCell]; exact h.fz o⟩

theorem WBox.set4 {w : World} {b : Nat} {k c s q v : Int} {de : Bool} {x : Option Addr} {len cap : Nat} (h : WBox w b k c s q v de x len cap) (y : Int) : WBox (w.setCell ⟨b, 4, none⟩ (.int .i64 y)) b k c s q y de x len cap :=
  ⟨by simpa [World.setCell] using h.lt, cell_set_off h.c0 (by omega), cell_set_off h.c1 (by omega), cell_set_off h.c2 (by omega), cell_set_off h.c3 (by omega), cell_set_same h.c4, cell_set_off h.c5 (by omega), cell_set_off h.c6 (by omega), fun o => by rw [World.frozen?_setCell]; exact h.fz o⟩

theorem WBox.set5 {w : World} {b : Nat} {k c s q v : Int} {de : Bool} {x : Option Addr} {len cap : Nat} (h : WBox w b k c s q v de x len cap) (y : Bool) : WBox (w.setCell ⟨b, 5, none⟩ (.bool y)) b k c s q v y x len cap :=
  ⟨by simpa [World.setCell] using h.lt, cell_set_off h.c0 (by omega), cell_set_off h.c1 (by omega), cell_set_off h.c2 (by omega), cell_set_off h.c3 (by omega), cell_set_off h.c4 (by omega), cell_set_same h.c5, cell_set_off h.c6 (by omega), fun o => by rw [World.frozen?_setCell]; exact h.fz o⟩

theorem WBox.set6 {w : World} {b : Nat} {k c s q v : Int} {de : Bool} {x : Option Addr} {len cap : Nat} (h : WBox w b k c s q v de x len cap) (y : Option Addr) (l' c' : Nat) : WBox (w.setCell ⟨b, 6, none⟩ (.slice y l' c')) b k c s q v de y l' c' :=
  ⟨by simpa [World.setCell] using h.lt, cell_set_off h.c0 (by omega), cell_set_off h.c1 (by omega), cell_set_off h.c2 (by omega), cell_set_off h.c3 (by omega), cell_set_off h.c4 (by omega), cell_set_off h.c5 (by omega), cell_set_same h.c6, fun o => by rw [World.frozen?_setCell]; exact h.fz o⟩

theorem HoldsDeps.hole {w w' : World} {B g : Nat} {ds : List Dp} (h : HoldsDeps w g 0 ds) (hh : Hole B w w') (hg : g < w.heap.size) (hn : g ≠ B) : HoldsDeps w' g 0 ds := by
  intro i hi
  obtain ⟨h0, h1, h2, h3⟩ := h i hi
  exact ⟨(hh.cell hg hn).trans h0, (hh.cell hg hn).trans h1, (hh.cell hg hn).trans h2, (hh.cell hg hn).trans h3⟩

/-- What is carried through the drawing of a write: the cursor, what was there, the two boxes, the dependencies. -/
structure Draw (w W : World) (B R T g : Nat) (a : Option Addr) (len cap : Nat) (N : Int) (k c s q v : Int) (de : Bool) (ds : List Dp) (cp : Nat) : Prop where
  cur : Cur W B a len cap N
  hole : Hole B w W
  box : WBox W T k c s q v de (some ⟨g, 0, none⟩) ds.length cp
  res : WBox W R 0 0 0 0 0 false none 0 0
  deps : HoldsDeps W g 0 ds
  glt : g < W.heap.size

theorem Draw.step {w W W' : World} {B R T g : Nat} {a : Option Addr} {len cap : Nat} {N M : Int} {k c s q v : Int} {de : Bool} {ds : List Dp} {cp : Nat} (h : Draw w W B R T g a len cap N k c s q v de ds cp) (hc : Cur W' B a len cap M) (hh : Hole B W W') (hT : T ≠ B) (hR : R ≠ B) (hg : g ≠ B) : Draw w W' B R T g a len cap M k c s q v de ds cp :=
  ⟨hc, h.hole.trans hh, h.box.hole hh hT, h.res.hole hh hR, h.deps.hole hh h.glt hg, Nat.lt_of_lt_of_le h.glt hh.size⟩

theorem Draw.set {w W : World} {B R T g : Nat} {a : Option Addr} {len cap : Nat} {N : Int} {k c s q v k' c' s' q' v' : Int} {de de' : Bool} {ds : List Dp} {cp : Nat} (h : Draw w W B R T g a len cap N k c s q v de ds cp) (o : Nat) (y : Value) (hb : WBox (W.setCell ⟨T, o, none⟩ y) T k' c' s' q' v' de' (some ⟨g, 0, none⟩) ds.length cp) (hT : B < T) (hw : w.heap.size ≤ T) (hR : T ≠ R) (hg : T ≠ g) : Draw w (W.setCell ⟨T, o, none⟩ y) B R T g a len cap N k' c' s' q' v' de' ds cp :=
  ⟨h.cur.setOther hT o y, h.hole.setNew hw o y, hb, h.res.other hR o y, h.deps.set hg y, by simpa [World.setCell] using h.glt⟩

theorem write_end {w W : World} {B R T g : Nat} {a : Option Addr} {len cap : Nat} {N M : Int} {k c s q v : Int} {de : Bool} {ds : List Dp} {cp : Nat} (h : Draw w W B R T g a len cap N k c s q v de ds cp) (hR : w.heap.size ≤ R) (hB : B < w.heap.size) (hg : R ≠ g) (hM : N ≤ M) :
    let W' := ((((((W.setCell ⟨R, 0, none⟩ (.int .i64 k)).setCell ⟨R, 1, none⟩ (.int .i64 c)).setCell ⟨R, 2, none⟩ (.int .i64 s)).setCell ⟨R, 3, none⟩ (.int .i64 q)).setCell ⟨R, 4, none⟩ (.int .i64 v)).setCell ⟨R, 5, none⟩ (.bool de)).setCell ⟨R, 6, none⟩ (.slice (some ⟨g, 0, none⟩) ds.length cp)
    g < W'.heap.size ∧ HoldsDeps W' g 0 ds ∧ Cur W' B a len cap M ∧ Hole B w W' :=
  ⟨by simpa [World.setCell] using h.glt, ((((((h.deps.set hg _).set hg _).set hg _).set hg _).set hg _).set hg _).set hg _,
    (((((((h.cur.setOther (by omega) _ _).setOther (by omega) _ _).setOther (by omega) _ _).setOther (by omega) _ _).setOther (by omega) _ _).setOther (by omega) _ _).setOther (by omega) _ _).more hM,
    ((((((h.hole.setNew hR _ _).setNew hR _ _).setNew hR _ _).setNew hR _ _).setNew hR _ _).setNew hR _ _).setNew hR _ _⟩

set_option maxRecDepth 100000 in
set_option maxHeartbeats 8000000 in
theorem write_any (B : Nat) (a : Option Addr) (len cap : Nat) (N : Int) (w : World) (hN : N ≤ 2000) (h : Cur w B a len cap N) :
    Calls Try.prog 91 #[.pointer (some ⟨B, 0, none⟩)] w fun e w' => ∃ (k c s q v : Int) (de : Bool) (g cp : Nat) (ds : List Dp), e = .returned (wrV k c s q v de (some ⟨g, 0, none⟩) ds.length cp) ∧ ds.length ≤ 7 ∧ w.heap.size ≤ g ∧ g < w'.heap.size ∧ HoldsDeps w' g 0 ds ∧ Cur w' B a len cap (N + 80) ∧ Hole B w w' := by
  have HC : Hid (Cur w B a len cap N) := h
  have hB := h.lt
  clear h
  go_enter Try.func91, Try.ntmps91
  go_wp2_with fail
  have HA : Hid (Below w.heap.size w (w.alloc (.cells #[.int .i64 0, .int .i64 0, .int .i64 0, .int .i64 0, .int .i64 0, .bool false, .slice none 0 0] 41))) := (Below.refl _ _).alloc (Nat.le_refl _) _
  have HR0 : Hid (WBox (w.alloc (.cells #[.int .i64 0, .int .i64 0, .int .i64 0, .int .i64 0, .int .i64 0, .bool false, .slice none 0 0] 41)) w.heap.size 0 0 0 0 0 false none 0 0) := WBox.start _ _ _ _ _ _ _ _ _ _ _
  refine (pick_any B a len cap N 6 _ (by omega) (by omega) (by omega) (HC.out.below HA.out)).mono ?_
  rintro e w1 ⟨k, rfl, q10, q11, hc1, hh1⟩
  have HC1 : Hid (Cur w1 B a len cap (N + 1)) := hc1
  have HR1 : Hid (WBox w1 w.heap.size 0 0 0 0 0 false none 0 0) := HR0.out.hole hh1 (by omega)
  have HH1 : Hid (Hole B w w1) := (Hole.of_below HA.out).trans hh1
  clear hc1 hh1 HR0 HA HC
  go_wp2_with fail
  refine (tag_any B a len cap (N + 1) _ (by omega) HC1.out).mono ?_
  rintro e w2 ⟨c0, s, q, rfl, hc2, hh2⟩
  have HC2 : Hid (Cur w2 B a len cap (N + 10)) := hc2.more (by omega)
  have HR2 : Hid (WBox w2 w.heap.size 0 0 0 0 0 false none 0 0) := HR1.out.hole hh2 (by omega)
  have HH2 : Hid (Hole B w w2) := HH1.out.trans hh2
  clear hc2 hh2 HR1 HH1 HC1
  go_wp2_with fail
  refine (pick_any B a len cap (N + 10) 9 _ (by omega) (by omega) (by omega) HC2.out).mono ?_
  rintro e w3 ⟨r3, rfl, q30, q31, hc3, hh3⟩
  have HC3 : Hid (Cur w3 B a len cap (N + 11)) := hc3.more (by omega)
  have HR3 : Hid (WBox w3 w.heap.size 0 0 0 0 0 false none 0 0) := HR2.out.hole hh3 (by omega)
  have HH3 : Hid (Hole B w w3) := HH2.out.trans hh3
  clear hc3 hh3 HR2 HH2 HC2
  have hz3 := HR3.out.lt
  go_wp2_with fail
  have HA : Hid (Below w3.heap.size w3 (w3.alloc (.cells #[.int .i64 k, .int .i64 (wrap64 (c0 + 4)), .int .i64 s, .int .i64 q, .int .i64 (r3 - 2), .bool false, .slice none 0 0] 41))) := (Below.refl _ _).alloc (Nat.le_refl _) _
  have HT0 : Hid (WBox (w3.alloc (.cells #[.int .i64 k, .int .i64 (wrap64 (c0 + 4)), .int .i64 s, .int .i64 q, .int .i64 (r3 - 2), .bool false, .slice none 0 0] 41)) w3.heap.size k (wrap64 (c0 + 4)) s q (r3 - 2) false none 0 0) := WBox.start _ _ _ _ _ _ _ _ _ _ _
  refine (deps_any B a len cap (N + 11) _ (by omega) (HC3.out.below HA.out)).mono ?_
  rintro e w5 ⟨g, cp, ds, rfl, hds, hO, hc5, hh5⟩
  have hle := hO.le
  have hglt := hO.lt
  have hgT : w3.heap.size < g := by simp at hle; omega
  have HD5 : Hid (HoldsDeps w5 g 0 ds) := hO.holds
  have HC5 : Hid (Cur w5 B a len cap (N + 51)) := hc5.more (by omega)
  have HT5 : Hid (WBox w5 w3.heap.size k (wrap64 (c0 + 4)) s q (r3 - 2) false none 0 0) := HT0.out.hole hh5 (by omega)
  have HR5 : Hid (WBox w5 w.heap.size 0 0 0 0 0 false none 0 0) := (HR3.out.hole (Hole.of_below (B := B) HA.out) (by omega)).hole hh5 (by omega)
  have HH5 : Hid (Hole B w w5) := (HH3.out.trans (Hole.of_below HA.out)).trans hh5
  clear hO hc5 hh5 HA HT0 HC3 HR3 HH3 hle
  generalize wrap64 (c0 + 4) = c at *
  generalize r3 - 2 = v at *
  have H5 : Hid (Draw w (w5.setCell ⟨w3.heap.size, 6, none⟩ (.slice (some ⟨g, 0, none⟩) ds.length cp)) B w.heap.size w3.heap.size g a len cap (N + 51) k c s q v false ds cp) :=
    ⟨HC5.out.setOther (by omega) _ _, HH5.out.setNew (by omega) _ _, HT5.out.set6 _ _ _, HR5.out.other (by omega) _ _, HD5.out.set (by show w3.heap.size ≠ g; omega) _, by simpa [World.setCell] using hglt⟩
  have y6 := HT5.out.c6
  have yf := HT5.out.fz
  go_wp2_with fail
  refine (pick_any B a len cap (N + 51) 5 _ (by omega) (by omega) (by omega) H5.out.cur).mono ?_
  rintro e w6 ⟨r6, rfl, q60, q61, hc6, hh6⟩
  have H6 : Hid (Draw w w6 B w.heap.size w3.heap.size g a len cap (N + 51 + 1) k c s q v false ds cp) := H5.out.step hc6 hh6 (by omega) (by omega) (by omega)
  clear hc6 hh6 H5 HC5 HT5 HR5 HH5 HD5 y6 yf
  by_cases j0 : r6 = 0
  · subst j0
    have y4 := H6.out.box.c4
    have y5 := H6.out.box.c5
    have yf := H6.out.box.fz
    have H7 : Hid (Draw w ((w6.setCell ⟨w3.heap.size, 5, none⟩ (.bool true)).setCell ⟨w3.heap.size, 4, none⟩ (.int .i64 0)) B w.heap.size w3.heap.size g a len cap (N + 51 + 1) k c s q 0 true ds cp) := (H6.out.set 5 (.bool true) (H6.out.box.set5 true) (by omega) (by omega) (by omega) (by omega)).set 4 (.int .i64 0) ((H6.out.box.set5 true).set4 0) (by omega) (by omega) (by omega) (by omega)
    clear H6
    go_wp2_with fail
    refine (once_any B a len cap (N + 51 + 1) 14 _ (by omega) (by omega) (by omega) H7.out.cur).mono ?_
    rintro e w7 ⟨b7, rfl, hc7, hh7⟩
    have H7' : Hid (Draw w w7 B w.heap.size w3.heap.size g a len cap (N + 51 + 1 + 1) k c s q 0 true ds cp) := H7.out.step hc7 hh7 (by omega) (by omega) (by omega)
    clear hc7 hh7 H7 y4 y5 yf
    cases b7
    · have x0 := H7'.out.res.c0
      have x1 := H7'.out.res.c1
      have x2 := H7'.out.res.c2
      have x3 := H7'.out.res.c3
      have x4 := H7'.out.res.c4
      have x5 := H7'.out.res.c5
      have x6 := H7'.out.res.c6
      have xf := H7'.out.res.fz
      have y0 := H7'.out.box.c0
      have y1 := H7'.out.box.c1
      have y2 := H7'.out.box.c2
      have y3 := H7'.out.box.c3
      have y4 := H7'.out.box.c4
      have y5 := H7'.out.box.c5
      have y6 := H7'.out.box.c6
      have yf := H7'.out.box.fz
      go_wp2
      obtain ⟨z1, z2, z3, z4⟩ := write_end (M := N + 80) H7'.out (Nat.le_refl _) hB (by omega) (by omega)
      exact bodyPost_ret (v := wrV k c s q 0 true (some ⟨g, 0, none⟩) ds.length cp) (by simp [results, Try.results91, go_sem, x0, x1, x2, x3, x4, x5, x6]) rfl ⟨k, c, s, q, 0, true, g, cp, ds, rfl, hds, by omega, z1, z2, z3, z4⟩
    · go_wp2_with fail
      refine (pick_any B a len cap (N + 51 + 1 + 1) 3 _ (by omega) (by omega) (by omega) H7'.out.cur).mono ?_
      rintro e w8 ⟨r8, rfl, q80, q81, hc8, hh8⟩
      have H8 : Hid (Draw w w8 B w.heap.size w3.heap.size g a len cap (N + 51 + 1 + 1 + 1) k c s q 0 true ds cp) := H7'.out.step hc8 hh8 (by omega) (by omega) (by omega)
      clear hc8 hh8 H7'
      by_cases k0 : r8 = 0
      · subst k0
        go_wp2_with fail
        refine (raw_any B a len cap (N + 51 + 1 + 1 + 1) _ (by omega) H8.out.cur).mono ?_
        rintro e w9 ⟨u, rfl, hc9, hh9⟩
        have H9 : Hid (Draw w w9 B w.heap.size w3.heap.size g a len cap (N + 51 + 1 + 1 + 1 + 2) k c s q 0 true ds cp) := H8.out.step hc9 hh9 (by omega) (by omega) (by omega)
        clear hc9 hh9 H8
        have x0 := H9.out.res.c0
        have x1 := H9.out.res.c1
        have x2 := H9.out.res.c2
        have x3 := H9.out.res.c3
        have x4 := H9.out.res.c4
        have x5 := H9.out.res.c5
        have x6 := H9.out.res.c6
        have xf := H9.out.res.fz
        have y0 := H9.out.box.c0
        have y1 := H9.out.box.c1
        have y2 := H9.out.box.c2
        have y3 := H9.out.box.c3
        have y4 := H9.out.box.c4
        have y5 := H9.out.box.c5
        have y6 := H9.out.box.c6
        have yf := H9.out.box.fz
        go_wp2
        obtain ⟨z1, z2, z3, z4⟩ := write_end (M := N + 80) (H9.out.set 0 (.int .i64 u) (H9.out.box.set0 u) (by omega) (by omega) (by omega) (by omega)) (Nat.le_refl _) hB (by omega) (by omega)
        exact bodyPost_ret (v := wrV u c s q 0 true (some ⟨g, 0, none⟩) ds.length cp) (by simp [results, Try.results91, go_sem, x0, x1, x2, x3, x4, x5, x6]) rfl ⟨u, c, s, q, 0, true, g, cp, ds, rfl, hds, by omega, z1, z2, z3, z4⟩
      · by_cases k1 : r8 = 1
        · subst k1
          go_wp2_with fail
          refine (raw_any B a len cap (N + 51 + 1 + 1 + 1) _ (by omega) H8.out.cur).mono ?_
          rintro e w9 ⟨u, rfl, hc9, hh9⟩
          have H9 : Hid (Draw w w9 B w.heap.size w3.heap.size g a len cap (N + 51 + 1 + 1 + 1 + 2) k c s q 0 true ds cp) := H8.out.step hc9 hh9 (by omega) (by omega) (by omega)
          clear hc9 hh9 H8
          have hB9 := H9.out.cur.lt
          go_wp2_with fail
          have HA : Hid (Below w9.heap.size w9 (w9.alloc (.cells ((([u, 1000000, 1000001] : List Int).map (Value.int .i64)).toArray) 3))) := (Below.refl _ _).alloc (Nat.le_refl _) _
          refine (pick_any B a len cap (N + 51 + 1 + 1 + 1 + 2) 3 _ (by omega) (by omega) (by omega) (H9.out.cur.below HA.out)).mono ?_
          rintro e w10 ⟨r10, rfl, q100, q101, hc10, hh10⟩
          have hcell : w10.cell? ⟨w9.heap.size, r10.toNat, none⟩ = some (.int .i64 _) := (hh10.cell (by simp) (by omega)).trans (ints_cell w9 [u, 1000000, 1000001] _ r10.toNat (by simp; omega))
          generalize List.getD [u, 1000000, 1000001] r10.toNat 0 = y at hcell
          have H10 : Hid (Draw w w10 B w.heap.size w3.heap.size g a len cap (N + 51 + 1 + 1 + 1 + 2 + 1) k c s q 0 true ds cp) := H9.out.step hc10 ((Hole.of_below HA.out).trans hh10) (by omega) (by omega) (by omega)
          clear hc10 hh10 H9 HA
          have x0 := H10.out.res.c0
          have x1 := H10.out.res.c1
          have x2 := H10.out.res.c2
          have x3 := H10.out.res.c3
          have x4 := H10.out.res.c4
          have x5 := H10.out.res.c5
          have x6 := H10.out.res.c6
          have xf := H10.out.res.fz
          have y0 := H10.out.box.c0
          have y1 := H10.out.box.c1
          have y2 := H10.out.box.c2
          have y3 := H10.out.box.c3
          have y4 := H10.out.box.c4
          have y5 := H10.out.box.c5
          have y6 := H10.out.box.c6
          have yf := H10.out.box.fz
          go_wp2
          obtain ⟨z1, z2, z3, z4⟩ := write_end (M := N + 80) (H10.out.set 4 (.int .i64 y) (H10.out.box.set4 y) (by omega) (by omega) (by omega) (by omega)) (Nat.le_refl _) hB (by omega) (by omega)
          exact bodyPost_ret (v := wrV k c s q y true (some ⟨g, 0, none⟩) ds.length cp) (by simp [results, Try.results91, go_sem, x0, x1, x2, x3, x4, x5, x6]) rfl ⟨k, c, s, q, y, true, g, cp, ds, rfl, hds, by omega, z1, z2, z3, z4⟩
        · have k0' : (r8 == 0) = false := by simp [k0]
          have k1' : (r8 == 1) = false := by simp [k1]
          clear k0 k1
          have x0 := H8.out.res.c0
          have x1 := H8.out.res.c1
          have x2 := H8.out.res.c2
          have x3 := H8.out.res.c3
          have x4 := H8.out.res.c4
          have x5 := H8.out.res.c5
          have x6 := H8.out.res.c6
          have xf := H8.out.res.fz
          have y0 := H8.out.box.c0
          have y1 := H8.out.box.c1
          have y2 := H8.out.box.c2
          have y3 := H8.out.box.c3
          have y4 := H8.out.box.c4
          have y5 := H8.out.box.c5
          have y6 := H8.out.box.c6
          have yf := H8.out.box.fz
          go_wp2
          obtain ⟨z1, z2, z3, z4⟩ := write_end (M := N + 80) (H8.out.set 5 (.bool (!true)) (H8.out.box.set5 (!true)) (by omega) (by omega) (by omega) (by omega)) (Nat.le_refl _) hB (by omega) (by omega)
          exact bodyPost_ret (v := wrV k c s q 0 (!true) (some ⟨g, 0, none⟩) ds.length cp) (by simp [results, Try.results91, go_sem, x0, x1, x2, x3, x4, x5, x6]) rfl ⟨k, c, s, q, 0, (!true), g, cp, ds, rfl, hds, by omega, z1, z2, z3, z4⟩
  · have j0' : (r6 == 0) = false := by simp [j0]
    clear j0
    go_wp2_with fail
    refine (once_any B a len cap (N + 51 + 1) 14 _ (by omega) (by omega) (by omega) H6.out.cur).mono ?_
    rintro e w7 ⟨b7, rfl, hc7, hh7⟩
    have H7 : Hid (Draw w w7 B w.heap.size w3.heap.size g a len cap (N + 51 + 1 + 1) k c s q v false ds cp) := H6.out.step hc7 hh7 (by omega) (by omega) (by omega)
    clear hc7 hh7 H6
    cases b7
    · have x0 := H7.out.res.c0
      have x1 := H7.out.res.c1
      have x2 := H7.out.res.c2
      have x3 := H7.out.res.c3
      have x4 := H7.out.res.c4
      have x5 := H7.out.res.c5
      have x6 := H7.out.res.c6
      have xf := H7.out.res.fz
      have y0 := H7.out.box.c0
      have y1 := H7.out.box.c1
      have y2 := H7.out.box.c2
      have y3 := H7.out.box.c3
      have y4 := H7.out.box.c4
      have y5 := H7.out.box.c5
      have y6 := H7.out.box.c6
      have yf := H7.out.box.fz
      go_wp2
      obtain ⟨z1, z2, z3, z4⟩ := write_end (M := N + 80) H7.out (Nat.le_refl _) hB (by omega) (by omega)
      exact bodyPost_ret (v := wrV k c s q v false (some ⟨g, 0, none⟩) ds.length cp) (by simp [results, Try.results91, go_sem, x0, x1, x2, x3, x4, x5, x6]) rfl ⟨k, c, s, q, v, false, g, cp, ds, rfl, hds, by omega, z1, z2, z3, z4⟩
    · go_wp2_with fail
      refine (pick_any B a len cap (N + 51 + 1 + 1) 3 _ (by omega) (by omega) (by omega) H7.out.cur).mono ?_
      rintro e w8 ⟨r8, rfl, q80, q81, hc8, hh8⟩
      have H8 : Hid (Draw w w8 B w.heap.size w3.heap.size g a len cap (N + 51 + 1 + 1 + 1) k c s q v false ds cp) := H7.out.step hc8 hh8 (by omega) (by omega) (by omega)
      clear hc8 hh8 H7
      by_cases k0 : r8 = 0
      · subst k0
        go_wp2_with fail
        refine (raw_any B a len cap (N + 51 + 1 + 1 + 1) _ (by omega) H8.out.cur).mono ?_
        rintro e w9 ⟨u, rfl, hc9, hh9⟩
        have H9 : Hid (Draw w w9 B w.heap.size w3.heap.size g a len cap (N + 51 + 1 + 1 + 1 + 2) k c s q v false ds cp) := H8.out.step hc9 hh9 (by omega) (by omega) (by omega)
        clear hc9 hh9 H8
        have x0 := H9.out.res.c0
        have x1 := H9.out.res.c1
        have x2 := H9.out.res.c2
        have x3 := H9.out.res.c3
        have x4 := H9.out.res.c4
        have x5 := H9.out.res.c5
        have x6 := H9.out.res.c6
        have xf := H9.out.res.fz
        have y0 := H9.out.box.c0
        have y1 := H9.out.box.c1
        have y2 := H9.out.box.c2
        have y3 := H9.out.box.c3
        have y4 := H9.out.box.c4
        have y5 := H9.out.box.c5
        have y6 := H9.out.box.c6
        have yf := H9.out.box.fz
        go_wp2
        obtain ⟨z1, z2, z3, z4⟩ := write_end (M := N + 80) (H9.out.set 0 (.int .i64 u) (H9.out.box.set0 u) (by omega) (by omega) (by omega) (by omega)) (Nat.le_refl _) hB (by omega) (by omega)
        exact bodyPost_ret (v := wrV u c s q v false (some ⟨g, 0, none⟩) ds.length cp) (by simp [results, Try.results91, go_sem, x0, x1, x2, x3, x4, x5, x6]) rfl ⟨u, c, s, q, v, false, g, cp, ds, rfl, hds, by omega, z1, z2, z3, z4⟩
      · by_cases k1 : r8 = 1
        · subst k1
          go_wp2_with fail
          refine (raw_any B a len cap (N + 51 + 1 + 1 + 1) _ (by omega) H8.out.cur).mono ?_
          rintro e w9 ⟨u, rfl, hc9, hh9⟩
          have H9 : Hid (Draw w w9 B w.heap.size w3.heap.size g a len cap (N + 51 + 1 + 1 + 1 + 2) k c s q v false ds cp) := H8.out.step hc9 hh9 (by omega) (by omega) (by omega)
          clear hc9 hh9 H8
          have hB9 := H9.out.cur.lt
          go_wp2_with fail
          have HA : Hid (Below w9.heap.size w9 (w9.alloc (.cells ((([u, 1000000, 1000001] : List Int).map (Value.int .i64)).toArray) 3))) := (Below.refl _ _).alloc (Nat.le_refl _) _
          refine (pick_any B a len cap (N + 51 + 1 + 1 + 1 + 2) 3 _ (by omega) (by omega) (by omega) (H9.out.cur.below HA.out)).mono ?_
          rintro e w10 ⟨r10, rfl, q100, q101, hc10, hh10⟩
          have hcell : w10.cell? ⟨w9.heap.size, r10.toNat, none⟩ = some (.int .i64 _) := (hh10.cell (by simp) (by omega)).trans (ints_cell w9 [u, 1000000, 1000001] _ r10.toNat (by simp; omega))
          generalize List.getD [u, 1000000, 1000001] r10.toNat 0 = y at hcell
          have H10 : Hid (Draw w w10 B w.heap.size w3.heap.size g a len cap (N + 51 + 1 + 1 + 1 + 2 + 1) k c s q v false ds cp) := H9.out.step hc10 ((Hole.of_below HA.out).trans hh10) (by omega) (by omega) (by omega)
          clear hc10 hh10 H9 HA
          have x0 := H10.out.res.c0
          have x1 := H10.out.res.c1
          have x2 := H10.out.res.c2
          have x3 := H10.out.res.c3
          have x4 := H10.out.res.c4
          have x5 := H10.out.res.c5
          have x6 := H10.out.res.c6
          have xf := H10.out.res.fz
          have y0 := H10.out.box.c0
          have y1 := H10.out.box.c1
          have y2 := H10.out.box.c2
          have y3 := H10.out.box.c3
          have y4 := H10.out.box.c4
          have y5 := H10.out.box.c5
          have y6 := H10.out.box.c6
          have yf := H10.out.box.fz
          go_wp2
          obtain ⟨z1, z2, z3, z4⟩ := write_end (M := N + 80) (H10.out.set 4 (.int .i64 y) (H10.out.box.set4 y) (by omega) (by omega) (by omega) (by omega)) (Nat.le_refl _) hB (by omega) (by omega)
          exact bodyPost_ret (v := wrV k c s q y false (some ⟨g, 0, none⟩) ds.length cp) (by simp [results, Try.results91, go_sem, x0, x1, x2, x3, x4, x5, x6]) rfl ⟨k, c, s, q, y, false, g, cp, ds, rfl, hds, by omega, z1, z2, z3, z4⟩
        · have k0' : (r8 == 0) = false := by simp [k0]
          have k1' : (r8 == 1) = false := by simp [k1]
          clear k0 k1
          have x0 := H8.out.res.c0
          have x1 := H8.out.res.c1
          have x2 := H8.out.res.c2
          have x3 := H8.out.res.c3
          have x4 := H8.out.res.c4
          have x5 := H8.out.res.c5
          have x6 := H8.out.res.c6
          have xf := H8.out.res.fz
          have y0 := H8.out.box.c0
          have y1 := H8.out.box.c1
          have y2 := H8.out.box.c2
          have y3 := H8.out.box.c3
          have y4 := H8.out.box.c4
          have y5 := H8.out.box.c5
          have y6 := H8.out.box.c6
          have yf := H8.out.box.fz
          go_wp2
          obtain ⟨z1, z2, z3, z4⟩ := write_end (M := N + 80) (H8.out.set 5 (.bool (!false)) (H8.out.box.set5 (!false)) (by omega) (by omega) (by omega) (by omega)) (Nat.le_refl _) hB (by omega) (by omega)
          exact bodyPost_ret (v := wrV k c s q v (!false) (some ⟨g, 0, none⟩) ds.length cp) (by simp [results, Try.results91, go_sem, x0, x1, x2, x3, x4, x5, x6]) rfl ⟨k, c, s, q, v, (!false), g, cp, ds, rfl, hds, by omega, z1, z2, z3, z4⟩

end Go.Proofs.Ytojgahcogpediaa

/- The contract of the cursor's size. -/
namespace Go.Proofs.Ytojgahcogpediaa
open Go.ChangeShapes Go.WideShapes Go.ChangeAt Go.RowKit Go.Joins

set_option maxHeartbeats 1000000 in
theorem size_any (B : Nat) (a : Option Addr) (len cap : Nat) (N n : Int) (w : World) (hN : N ≤ 1000000) (hn : 1 ≤ n) (hn' : n ≤ 1000) (h : Cur w B a len cap N) :
    Calls Try.prog 89 #[.pointer (some ⟨B, 0, none⟩), .int .i64 n] w fun e w' => ∃ r : Int, e = .returned (.int .i64 r) ∧ 0 ≤ r ∧ r ≤ n ∧ Cur w' B a len cap (N + 1) ∧ Hole B w w' := by
  have HC : Hid (Cur w B a len cap N) := h
  obtain ⟨at_, seed, hc, _, _, hl⟩ := h
  have c0 := hc.c0
  clear hc
  go_enter Try.func89, Try.ntmps89
  by_cases hb : n < 1 + ((len / 8 : Nat) : Int)
  · go_wp2_with fail
    refine (pick_any B a len cap N (n + 1) _ hN (by omega) (by omega) HC.out).mono ?_
    rintro e w1 ⟨r, rfl, r0, r1, hc1, hh1⟩
    have HC1 := Lib.hid hc1
    have HH1 := Lib.hid hh1
    clear hc1 hh1
    go_wp2
    go_ret
    exact ⟨r, rfl, r0, by omega, HC1.out, HH1.out⟩
  · go_wp2_with fail
    refine (pick_any B a len cap N _ _ hN (by omega) (by omega) HC.out).mono ?_
    rintro e w1 ⟨r, rfl, r0, r1, hc1, hh1⟩
    have HC1 := Lib.hid hc1
    have HH1 := Lib.hid hh1
    clear hc1 hh1
    go_wp2
    go_ret
    exact ⟨r, rfl, r0, by omega, HC1.out, HH1.out⟩

end Go.Proofs.Ytojgahcogpediaa

/- Contracts of spec.WriteOk and impl.WriteOk. -/
namespace Go.Proofs.Ytojgahcogpediaa
open Go.ChangeShapes Go.WideShapes Go.ChangeAt Go.RowKit Go.Joins

def ahead (xs : List Dp) (c s q : Int) (i : Nat) : Bool := decide (tcmp (xs.getD i dz).c (xs.getD i dz).s (xs.getD i dz).q c s q < 0)

def aheadAll (xs : List Dp) (c s q : Int) : Bool := (List.range xs.length).all (ahead xs c s q)

def writeOkB (k c s q v : Int) (de : Bool) (xs : List Dp) : Bool := btw k 0 5 && (tagOkB c s q && (valOkB v de && (depsOkB xs && aheadAll xs c s q)))

theorem ahead_true {xs : List Dp} {c s q : Int} (h : ∀ i, i < xs.length → ahead xs c s q i = true) : aheadAll xs c s q = true := by
  unfold aheadAll
  rw [List.all_eq_true]
  intro i hi
  exact h i (List.mem_range.1 hi)

theorem ahead_false {xs : List Dp} {c s q : Int} {i : Nat} (hi : i < xs.length) (h : ahead xs c s q i = false) : aheadAll xs c s q = false := by
  unfold aheadAll
  rw [List.all_eq_false]
  exact ⟨i, List.mem_range.2 hi, by simp [h]⟩

theorem depsOk_tag {xs : List Dp} (h : depsOkB xs = true) {i : Nat} (hi : i < xs.length) : tagOkB (xs.getD i dz).c (xs.getD i dz).s (xs.getD i dz).q = true := by
  unfold depsOkB at h
  rw [List.all_eq_true] at h
  have h1 := h i (List.mem_range.2 hi)
  unfold depGood at h1
  simp only [Bool.and_eq_true] at h1
  exact h1.2.1

theorem wok_key {k c s q v : Int} {de : Bool} {xs : List Dp} (h : btw k 0 5 = false) : writeOkB k c s q v de xs = false := by
  unfold writeOkB
  rw [h, Bool.false_and]

theorem wok_tag {k c s q v : Int} {de : Bool} {xs : List Dp} (h : tagOkB c s q = false) : writeOkB k c s q v de xs = false := by
  unfold writeOkB
  rw [h, Bool.false_and, Bool.and_false]

theorem wok_val {k c s q v : Int} {de : Bool} {xs : List Dp} (h : valOkB v de = false) : writeOkB k c s q v de xs = false := by
  unfold writeOkB
  rw [h, Bool.false_and, Bool.and_false, Bool.and_false]

theorem wok_deps {k c s q v : Int} {de : Bool} {xs : List Dp} (h : depsOkB xs = false) : writeOkB k c s q v de xs = false := by
  unfold writeOkB
  rw [h, Bool.false_and, Bool.and_false, Bool.and_false, Bool.and_false]

theorem wok_rest {k c s q v : Int} {de : Bool} {xs : List Dp} (h1 : btw k 0 5 = true) (h2 : tagOkB c s q = true) (h3 : valOkB v de = true) (h4 : depsOkB xs = true) : writeOkB k c s q v de xs = aheadAll xs c s q := by
  unfold writeOkB
  rw [h1, h2, h3, h4, Bool.true_and, Bool.true_and, Bool.true_and, Bool.true_and]

theorem val_dead {v : Int} (h : valOkB v true = true) : v = 0 := by
  unfold valOkB at h
  simpa using h

theorem val_btw {v : Int} {de : Bool} (h : valOkB v de = true) : btw v (-1000000) 1000000 = true := by
  cases de
  · exact h
  · rw [val_dead h]
    rfl

theorem valOk_is (v : Int) (de r : Bool) (h : valOkB v de = r) (w : World) :
    Calls Try.prog 79 #[.int .i64 v, .bool de] w fun e w' => e = .returned (.bool r) ∧ w' = w := by
  subst h
  exact valOk_any v de w

theorem between_is (v lo hi : Int) (r : Bool) (h : btw v lo hi = r) (w : World) :
    Calls Try.prog 32 #[.int .i64 v, .int .i64 lo, .int .i64 hi] w fun e w' => e = .returned (.bool r) ∧ w' = w := by
  subst h
  exact between_any v lo hi w

theorem specDepsOk_is (r : Bool) (a : Option Addr) (xs : List Dp) (h : depsOkB xs = r) (cap : Nat) (w : World) (hn : xs.length ≤ 1048576) (hh : IsDeps w a xs) :
    Calls Try.prog 74 #[.slice a xs.length cap] w fun e w' => e = .returned (.bool r) ∧ Below w.heap.size w w' := by
  subst h
  exact specDepsOk_gen a xs cap w hn hh

theorem implDepsOk_is (r : Bool) (a : Option Addr) (xs : List Dp) (h : depsOkB xs = r) (cap : Nat) (w : World) (hn : xs.length ≤ 1048576) (hh : IsDeps w a xs) :
    Calls Try.prog 80 #[.slice a xs.length cap] w fun e w' => e = .returned (.bool r) ∧ Below w.heap.size w w' := by
  subst h
  exact implDepsOk_gen a xs cap w hn hh

/-- What the box of a write holds, in every later world. -/
theorem box_cells {w w1 : World} {vs : Array Value} {t : Nat} (hb : Below (w.alloc (.cells vs t)).heap.size (w.alloc (.cells vs t)) w1) (i : Nat) (hi : i < vs.size) : w1.cell? ⟨w.heap.size, i, none⟩ = some vs[i] := by
  rw [hb.cell (p := ⟨w.heap.size, i, none⟩) (by simp)]
  simp [go_sem, hi]

/-- A world that holds what was there, and the box of a write behind it. -/
structure BoxIn (w0 w : World) (k c s q v : Int) (de : Bool) (a : Option Addr) (len cap : Nat) : Prop where
  lt : w0.heap.size < w.heap.size
  below : Below w0.heap.size w0 w
  c0 : w.cell? ⟨w0.heap.size, 0, none⟩ = some (.int .i64 k)
  c1 : w.cell? ⟨w0.heap.size, 1, none⟩ = some (.int .i64 c)
  c2 : w.cell? ⟨w0.heap.size, 2, none⟩ = some (.int .i64 s)
  c3 : w.cell? ⟨w0.heap.size, 3, none⟩ = some (.int .i64 q)
  c4 : w.cell? ⟨w0.heap.size, 4, none⟩ = some (.int .i64 v)
  c5 : w.cell? ⟨w0.heap.size, 5, none⟩ = some (.bool de)
  c6 : w.cell? ⟨w0.heap.size, 6, none⟩ = some (.slice a len cap)

theorem BoxIn.start {w w1 : World} {k c s q v : Int} {de : Bool} {a : Option Addr} {len cap t : Nat} (hb : Below (w.alloc (.cells #[.int .i64 k, .int .i64 c, .int .i64 s, .int .i64 q, .int .i64 v, .bool de, .slice a len cap] t)).heap.size (w.alloc (.cells #[.int .i64 k, .int .i64 c, .int .i64 s, .int .i64 q, .int .i64 v, .bool de, .slice a len cap] t)) w1) : BoxIn w w1 k c s q v de a len cap where
  lt := by have := hb.size; simp at this; omega
  below := below_step ((Below.refl _ _).alloc (Nat.le_refl _) _) (by simp) hb
  c0 := box_cells hb 0 (by simp)
  c1 := box_cells hb 1 (by simp)
  c2 := box_cells hb 2 (by simp)
  c3 := box_cells hb 3 (by simp)
  c4 := box_cells hb 4 (by simp)
  c5 := box_cells hb 5 (by simp)
  c6 := box_cells hb 6 (by simp)

theorem BoxIn.step {w0 w w1 : World} {k c s q v : Int} {de : Bool} {a : Option Addr} {len cap : Nat} (h : BoxIn w0 w k c s q v de a len cap) (hb : Below w.heap.size w w1) : BoxIn w0 w1 k c s q v de a len cap where
  lt := Nat.lt_of_lt_of_le h.lt hb.size
  below := below_step h.below h.below.size hb
  c0 := held_cell hb h.c0 h.lt
  c1 := held_cell hb h.c1 h.lt
  c2 := held_cell hb h.c2 h.lt
  c3 := held_cell hb h.c3 h.lt
  c4 := held_cell hb h.c4 h.lt
  c5 := held_cell hb h.c5 h.lt
  c6 := held_cell hb h.c6 h.lt

theorem BoxIn.other {w0 w w1 : World} {k c s q v : Int} {de : Bool} {a : Option Addr} {len cap : Nat} (h : BoxIn w0 w k c s q v de a len cap) (hs : w.heap.size ≤ w1.heap.size) (hB : Below w0.heap.size w0 w1) (hc : w1.heap[w0.heap.size]? = w.heap[w0.heap.size]?) : BoxIn w0 w1 k c s q v de a len cap where
  lt := Nat.lt_of_lt_of_le h.lt hs
  below := hB
  c0 := (World.cell?_of_block (w := w) (a := ⟨w0.heap.size, 0, none⟩) hc).trans h.c0
  c1 := (World.cell?_of_block (w := w) (a := ⟨w0.heap.size, 1, none⟩) hc).trans h.c1
  c2 := (World.cell?_of_block (w := w) (a := ⟨w0.heap.size, 2, none⟩) hc).trans h.c2
  c3 := (World.cell?_of_block (w := w) (a := ⟨w0.heap.size, 3, none⟩) hc).trans h.c3
  c4 := (World.cell?_of_block (w := w) (a := ⟨w0.heap.size, 4, none⟩) hc).trans h.c4
  c5 := (World.cell?_of_block (w := w) (a := ⟨w0.heap.size, 5, none⟩) hc).trans h.c5
  c6 := (World.cell?_of_block (w := w) (a := ⟨w0.heap.size, 6, none⟩) hc).trans h.c6

set_option maxHeartbeats 1000000 in
theorem specWriteOk_ends (k c s q v : Int) (de : Bool) (a : Option Addr) (xs : List Dp) (cap : Nat) (w : World)
    (hbad : btw k 0 5 = false ∨ tagOkB c s q = false ∨ valOkB v de = false) :
    Calls Try.prog 34 #[wrV k c s q v de a xs.length cap] w fun e w' => e = .returned (.bool (writeOkB k c s q v de xs)) ∧ Below w.heap.size w w' := by
  cases h1 : btw k 0 5
  · rw [wok_key h1]
    clear hbad
    go_enter Try.func34, Try.ntmps34
    go_wp2_with (go_at_call 72; refine (key_is _ false h1 _).mono ?_; rintro e w' ⟨rfl, rfl⟩)
    go_ret
    exact ⟨rfl, (Below.refl _ _).alloc (Nat.le_refl _) _⟩
  cases h2 : tagOkB c s q
  · rw [wok_tag h2]
    clear hbad
    go_enter Try.func34, Try.ntmps34
    go_wp2_with (first | (go_at_call 72; refine (key_is _ true h1 _).mono ?_; rintro e w' ⟨rfl, rfl⟩) | (go_at_call 73; refine (specTagOk_is _ _ _ false h2 _).mono ?_; rintro e w' ⟨rfl, hb⟩))
    go_ret
    exact ⟨rfl, below_step ((Below.refl _ _).alloc (Nat.le_refl _) _) (by simp) hb⟩
  have h3 : valOkB v de = false := by
    rcases hbad with h | h | h
    · rw [h1] at h; cases h
    · rw [h2] at h; cases h
    · exact h
  rw [wok_val h3]
  clear hbad
  cases h4 : btw v (-1000000) 1000000
  · go_enter Try.func34, Try.ntmps34
    go_wp2_with fail
    refine (key_is _ true h1 _).mono ?_
    rintro e w1 ⟨rfl, rfl⟩
    go_wp2_with fail
    refine (specTagOk_is _ _ _ true h2 _).mono ?_
    rintro e w2 ⟨rfl, hb⟩
    have HB : Hid (Below w.heap.size w w2) := below_step ((Below.refl _ _).alloc (Nat.le_refl _) _) (by simp) hb
    have b4 : w2.cell? ⟨w.heap.size, 4, none⟩ = some (.int .i64 v) := box_cells hb 4 (by simp)
    clear hb
    go_wp2_with (go_at_call 32; refine (between_is _ _ _ false h4 _).mono ?_; rintro e w' ⟨rfl, rfl⟩)
    go_ret
    exact ⟨rfl, HB.out⟩
  · have hde : de = true := by
      cases de
      · have e : valOkB v false = btw v (-1000000) 1000000 := rfl
        rw [e, h4] at h3
        cases h3
      · rfl
    subst hde
    have hv : (v != 0) = true := by
      rw [bne_iff_ne]
      intro e
      rw [e] at h3
      cases h3
    clear h3
    go_enter Try.func34, Try.ntmps34
    go_wp2_with fail
    refine (key_is _ true h1 _).mono ?_
    rintro e w1 ⟨rfl, rfl⟩
    go_wp2_with fail
    refine (specTagOk_is _ _ _ true h2 _).mono ?_
    rintro e w2 ⟨rfl, hb⟩
    have HB : Hid (Below w.heap.size w w2) := below_step ((Below.refl _ _).alloc (Nat.le_refl _) _) (by simp) hb
    have b4 : w2.cell? ⟨w.heap.size, 4, none⟩ = some (.int .i64 v) := box_cells hb 4 (by simp)
    have b5 : w2.cell? ⟨w.heap.size, 5, none⟩ = some (.bool true) := box_cells hb 5 (by simp)
    clear hb
    go_wp2_with (go_at_call 32; refine (between_is _ _ _ true h4 _).mono ?_; rintro e w' ⟨rfl, rfl⟩)
    go_ret
    exact ⟨rfl, HB.out⟩

set_option maxHeartbeats 1000000 in
theorem specWriteOk_deps_false (k c s q v : Int) (a : Option Addr) (xs : List Dp) (cap : Nat) (w : World) (hn : xs.length ≤ 1048576) (hh : IsDeps w a xs)
    (h1 : btw k 0 5 = true) (h2 : tagOkB c s q = true) (h3 : valOkB v false = true) (h4 : depsOkB xs = false) :
    Calls Try.prog 34 #[wrV k c s q v false a xs.length cap] w fun e w' => e = .returned (.bool (writeOkB k c s q v false xs)) ∧ Below w.heap.size w w' := by
  rw [wok_deps h4]
  have h5 := val_btw h3
  have HH : Hid (IsDeps w a xs) := hh
  clear hh h3
  go_enter Try.func34, Try.ntmps34
  go_wp2_with fail
  refine (key_is _ true h1 _).mono ?_
  rintro e w1 ⟨rfl, rfl⟩
  go_wp2_with fail
  refine (specTagOk_is _ _ _ true h2 _).mono ?_
  rintro e w2 ⟨rfl, hb⟩
  have HX := BoxIn.start hb
  have b4 := HX.c4
  have b5 := HX.c5
  have b6 := HX.c6
  clear hb
  go_wp2_with fail
  refine (between_is _ _ _ true h5 _).mono ?_
  rintro e w3 ⟨rfl, rfl⟩
  go_wp2_with fail
  refine (specDepsOk_is false _ xs h4 _ _ hn (HH.out.below HX.below)).mono ?_
  rintro e w4 ⟨rfl, hb4⟩
  have HB : Hid (Below w.heap.size w w4) := below_step HX.below HX.below.size hb4
  clear hb4
  go_wp2
  go_ret
  exact ⟨rfl, HB.out⟩

set_option maxHeartbeats 1000000 in
theorem specWriteOk_deps_true (k c s q v : Int) (a : Option Addr) (xs : List Dp) (cap : Nat) (w : World) (hn : xs.length ≤ 1048576) (hh : IsDeps w a xs)
    (h1 : btw k 0 5 = true) (h2 : tagOkB c s q = true) (h3 : valOkB v true = true) (h4 : depsOkB xs = false) :
    Calls Try.prog 34 #[wrV k c s q v true a xs.length cap] w fun e w' => e = .returned (.bool (writeOkB k c s q v true xs)) ∧ Below w.heap.size w w' := by
  rw [wok_deps h4]
  have h5 := val_btw h3
  have hv : (v != 0) = false := by
    rw [val_dead h3]
    rfl
  have HH : Hid (IsDeps w a xs) := hh
  clear hh h3
  go_enter Try.func34, Try.ntmps34
  go_wp2_with fail
  refine (key_is _ true h1 _).mono ?_
  rintro e w1 ⟨rfl, rfl⟩
  go_wp2_with fail
  refine (specTagOk_is _ _ _ true h2 _).mono ?_
  rintro e w2 ⟨rfl, hb⟩
  have HX := BoxIn.start hb
  have b4 := HX.c4
  have b5 := HX.c5
  have b6 := HX.c6
  clear hb
  go_wp2_with fail
  refine (between_is _ _ _ true h5 _).mono ?_
  rintro e w3 ⟨rfl, rfl⟩
  go_wp2_with fail
  refine (specDepsOk_is false _ xs h4 _ _ hn (HH.out.below HX.below)).mono ?_
  rintro e w4 ⟨rfl, hb4⟩
  have HB : Hid (Below w.heap.size w w4) := below_step HX.below HX.below.size hb4
  clear hb4
  go_wp2
  go_ret
  exact ⟨rfl, HB.out⟩

set_option maxHeartbeats 2000000 in
theorem specWriteOk_rest_false (k c s q v : Int) (a : Option Addr) (xs : List Dp) (cap : Nat) (w : World) (hn : xs.length ≤ 1048576) (hh : IsDeps w a xs)
    (h1 : btw k 0 5 = true) (h2 : tagOkB c s q = true) (h3 : valOkB v false = true) (h4 : depsOkB xs = true) :
    Calls Try.prog 34 #[wrV k c s q v false a xs.length cap] w fun e w' => e = .returned (.bool (writeOkB k c s q v false xs)) ∧ Below w.heap.size w w' := by
  rw [wok_rest h1 h2 h3 h4]
  have h5 := val_btw h3
  have HH : Hid (IsDeps w a xs) := hh
  clear hh h3
  go_enter Try.func34, Try.ntmps34
  go_wp2_with fail
  refine (key_is _ true h1 _).mono ?_
  rintro e w1 ⟨rfl, rfl⟩
  go_wp2_with fail
  refine (specTagOk_is _ _ _ true h2 _).mono ?_
  rintro e w2 ⟨rfl, hb⟩
  have HX := BoxIn.start hb
  have b4 := HX.c4
  have b5 := HX.c5
  have b6 := HX.c6
  clear hb
  go_wp2_with fail
  refine (between_is _ _ _ true h5 _).mono ?_
  rintro e w3 ⟨rfl, rfl⟩
  go_wp2_with fail
  refine (specDepsOk_is true _ xs h4 _ _ hn (HH.out.below HX.below)).mono ?_
  rintro e w4 ⟨rfl, hb4⟩
  have HX4 : Hid (BoxIn w w4 k c s q v false a xs.length cap) := HX.step hb4
  clear hb4 HX b4 b5 b6 h4
  go_wp2
  go_loopw [3] (fun i wr => ∃ j : Nat, j ≤ xs.length ∧ i = .int .i64 j ∧ Hid (∀ l, l < j → ahead xs c s q l = true) ∧ Hid (BoxIn w wr k c s q v false a xs.length cap)) (fun i _ => xs.length - (intOf i).toNat)
  case atStart => exact ⟨0, Nat.zero_le _, rfl, fun l hl => by omega, HX4⟩
  case round =>
    clear HX4
    obtain ⟨j, hj, rfl, HG, HX⟩ := hrel
    have b1 := HX.out.c1
    have b2 := HX.out.c2
    have b3 := HX.out.c3
    have b6 := HX.out.c6
    have hzb := HX.out.lt
    by_cases hj' : j < xs.length
    · obtain ⟨g, o, rfl, hz, e0, e1, e2, e3⟩ := HH.out.at HX.out.below hj'
      have HA : Hid (ahead xs c s q j = decide (tcmp (xs.getD j dz).c (xs.getD j dz).s (xs.getD j dz).q c s q < 0)) := rfl
      have i1 : (0 : Int) ≤ (j : Int) := by omega
      have i2 : (j : Int) < (xs.length : Int) := by omega
      generalize (xs.getD j dz).k = x0 at *
      generalize (xs.getD j dz).c = x1 at *
      generalize (xs.getD j dz).s = x2 at *
      generalize (xs.getD j dz).q = x3 at *
      by_cases hs : tcmp x1 x2 x3 c s q < 0
      · have HG' : Hid (∀ l, l < j + 1 → ahead xs c s q l = true) := fun l hl => by
          by_cases h : l < j
          · exact HG.out l h
          · have : l = j := by omega
            rw [this, HA.out]
            exact decide_eq_true hs
        clear HA
        go_wp2_with fail
        have ge1 := aft_cell hz e1
        have ge2 := aft_cell hz e2
        have ge3 := aft_cell hz e3
        have gb1 := aft_cell hzb b1
        have gb2 := aft_cell hzb b2
        have gb3 := aft_cell hzb b3
        have gb6 := aft_cell hzb b6
        have ne := aft_some wr
        refine wp_region_aft (by kernel_rfl) (by kernel_rfl) ?_
        repeat (first | go_big_quiet_step (first | (go_at_call 61; exact aft_of (specTagCmp_any _ _ _ _ _ _ _))))
        refine wpQuiet_nil ?_
        intro wq hq
        go_wp2
        exact ⟨⟨j + 1, by omega, by go_num, HG', HX.out.step hq⟩, by simp [intOf]; omega⟩
      · have HF : Hid (aheadAll xs c s q = false) := ahead_false hj' (by rw [HA.out]; exact decide_eq_false hs)
        clear HA
        go_wp2_with fail
        have ge1 := aft_cell hz e1
        have ge2 := aft_cell hz e2
        have ge3 := aft_cell hz e3
        have gb1 := aft_cell hzb b1
        have gb2 := aft_cell hzb b2
        have gb3 := aft_cell hzb b3
        have gb6 := aft_cell hzb b6
        have ne := aft_some wr
        refine wp_region_aft (by kernel_rfl) (by kernel_rfl) ?_
        repeat (first | go_big_quiet_step (first | (go_at_call 61; exact aft_of (specTagCmp_any _ _ _ _ _ _ _))))
        refine wpQuiet_nil ?_
        intro wq hq
        go_wp2
        go_ret
        exact ⟨ret_bool HF.out.symm, (HX.out.step hq).below⟩
    · go_wp2
      go_ret
      exact ⟨ret_bool (ahead_true fun i hi => HG.out i (by omega)).symm, HX.out.below⟩

set_option maxHeartbeats 2000000 in
theorem specWriteOk_rest_true (k c s q v : Int) (a : Option Addr) (xs : List Dp) (cap : Nat) (w : World) (hn : xs.length ≤ 1048576) (hh : IsDeps w a xs)
    (h1 : btw k 0 5 = true) (h2 : tagOkB c s q = true) (h3 : valOkB v true = true) (h4 : depsOkB xs = true) :
    Calls Try.prog 34 #[wrV k c s q v true a xs.length cap] w fun e w' => e = .returned (.bool (writeOkB k c s q v true xs)) ∧ Below w.heap.size w w' := by
  rw [wok_rest h1 h2 h3 h4]
  have h5 := val_btw h3
  have hv : (v != 0) = false := by
    rw [val_dead h3]
    rfl
  have HH : Hid (IsDeps w a xs) := hh
  clear hh h3
  go_enter Try.func34, Try.ntmps34
  go_wp2_with fail
  refine (key_is _ true h1 _).mono ?_
  rintro e w1 ⟨rfl, rfl⟩
  go_wp2_with fail
  refine (specTagOk_is _ _ _ true h2 _).mono ?_
  rintro e w2 ⟨rfl, hb⟩
  have HX := BoxIn.start hb
  have b4 := HX.c4
  have b5 := HX.c5
  have b6 := HX.c6
  clear hb
  go_wp2_with fail
  refine (between_is _ _ _ true h5 _).mono ?_
  rintro e w3 ⟨rfl, rfl⟩
  go_wp2_with fail
  refine (specDepsOk_is true _ xs h4 _ _ hn (HH.out.below HX.below)).mono ?_
  rintro e w4 ⟨rfl, hb4⟩
  have HX4 : Hid (BoxIn w w4 k c s q v true a xs.length cap) := HX.step hb4
  clear hb4 HX b4 b5 b6 h4
  go_wp2
  go_loopw [3] (fun i wr => ∃ j : Nat, j ≤ xs.length ∧ i = .int .i64 j ∧ Hid (∀ l, l < j → ahead xs c s q l = true) ∧ Hid (BoxIn w wr k c s q v true a xs.length cap)) (fun i _ => xs.length - (intOf i).toNat)
  case atStart => exact ⟨0, Nat.zero_le _, rfl, fun l hl => by omega, HX4⟩
  case round =>
    clear HX4
    obtain ⟨j, hj, rfl, HG, HX⟩ := hrel
    have b1 := HX.out.c1
    have b2 := HX.out.c2
    have b3 := HX.out.c3
    have b6 := HX.out.c6
    have hzb := HX.out.lt
    by_cases hj' : j < xs.length
    · obtain ⟨g, o, rfl, hz, e0, e1, e2, e3⟩ := HH.out.at HX.out.below hj'
      have HA : Hid (ahead xs c s q j = decide (tcmp (xs.getD j dz).c (xs.getD j dz).s (xs.getD j dz).q c s q < 0)) := rfl
      have i1 : (0 : Int) ≤ (j : Int) := by omega
      have i2 : (j : Int) < (xs.length : Int) := by omega
      generalize (xs.getD j dz).k = x0 at *
      generalize (xs.getD j dz).c = x1 at *
      generalize (xs.getD j dz).s = x2 at *
      generalize (xs.getD j dz).q = x3 at *
      by_cases hs : tcmp x1 x2 x3 c s q < 0
      · have HG' : Hid (∀ l, l < j + 1 → ahead xs c s q l = true) := fun l hl => by
          by_cases h : l < j
          · exact HG.out l h
          · have : l = j := by omega
            rw [this, HA.out]
            exact decide_eq_true hs
        clear HA
        go_wp2_with fail
        have ge1 := aft_cell hz e1
        have ge2 := aft_cell hz e2
        have ge3 := aft_cell hz e3
        have gb1 := aft_cell hzb b1
        have gb2 := aft_cell hzb b2
        have gb3 := aft_cell hzb b3
        have gb6 := aft_cell hzb b6
        have ne := aft_some wr
        refine wp_region_aft (by kernel_rfl) (by kernel_rfl) ?_
        repeat (first | go_big_quiet_step (first | (go_at_call 61; exact aft_of (specTagCmp_any _ _ _ _ _ _ _))))
        refine wpQuiet_nil ?_
        intro wq hq
        go_wp2
        exact ⟨⟨j + 1, by omega, by go_num, HG', HX.out.step hq⟩, by simp [intOf]; omega⟩
      · have HF : Hid (aheadAll xs c s q = false) := ahead_false hj' (by rw [HA.out]; exact decide_eq_false hs)
        clear HA
        go_wp2_with fail
        have ge1 := aft_cell hz e1
        have ge2 := aft_cell hz e2
        have ge3 := aft_cell hz e3
        have gb1 := aft_cell hzb b1
        have gb2 := aft_cell hzb b2
        have gb3 := aft_cell hzb b3
        have gb6 := aft_cell hzb b6
        have ne := aft_some wr
        refine wp_region_aft (by kernel_rfl) (by kernel_rfl) ?_
        repeat (first | go_big_quiet_step (first | (go_at_call 61; exact aft_of (specTagCmp_any _ _ _ _ _ _ _))))
        refine wpQuiet_nil ?_
        intro wq hq
        go_wp2
        go_ret
        exact ⟨ret_bool HF.out.symm, (HX.out.step hq).below⟩
    · go_wp2
      go_ret
      exact ⟨ret_bool (ahead_true fun i hi => HG.out i (by omega)).symm, HX.out.below⟩

theorem specWriteOk_gen (k c s q v : Int) (de : Bool) (a : Option Addr) (xs : List Dp) (len cap : Nat) (w : World) (hl : xs.length = len) (hn : len ≤ 1048576) (hh : IsDeps w a xs) :
    Calls Try.prog 34 #[wrV k c s q v de a len cap] w fun e w' => e = .returned (.bool (writeOkB k c s q v de xs)) ∧ Below w.heap.size w w' := by
  subst hl
  by_cases h : btw k 0 5 = false ∨ tagOkB c s q = false ∨ valOkB v de = false
  · exact specWriteOk_ends k c s q v de a xs cap w h
  · simp only [not_or, Bool.not_eq_false] at h
    obtain ⟨h1, h2, h3⟩ := h
    cases h4 : depsOkB xs
    · cases de
      · exact specWriteOk_deps_false k c s q v a xs cap w hn hh h1 h2 h3 h4
      · exact specWriteOk_deps_true k c s q v a xs cap w hn hh h1 h2 h3 h4
    · cases de
      · exact specWriteOk_rest_false k c s q v a xs cap w hn hh h1 h2 h3 h4
      · exact specWriteOk_rest_true k c s q v a xs cap w hn hh h1 h2 h3 h4

theorem specWriteOk_any (k c s q v : Int) (de : Bool) (g : Nat) (xs : List Dp) (len cap : Nat) (w : World) (hl : xs.length = len) (hn : len ≤ 1048576) (hlt : g < w.heap.size) (hh : HoldsDeps w g 0 xs) :
    Calls Try.prog 34 #[wrV k c s q v de (some ⟨g, 0, none⟩) len cap] w fun e w' => e = .returned (.bool (writeOkB k c s q v de xs)) ∧ Below w.heap.size w w' :=
  specWriteOk_gen k c s q v de _ xs len cap w hl hn (.inr ⟨g, 0, rfl, hlt, hh⟩)

end Go.Proofs.Ytojgahcogpediaa
