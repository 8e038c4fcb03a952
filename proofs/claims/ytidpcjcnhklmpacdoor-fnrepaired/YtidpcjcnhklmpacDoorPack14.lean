import Derived.Test.YtidpcjcnhklmpacDoorPack13
import Derived.Test.YtidpcjcnhklmpacDoorPack1
import Derived.Lib.Hide
/- The contract of the cursor's write. -/
namespace Go.Proofs.YtidpcjcnhklmpacDoor
open Go.ChangeShapes Go.WideShapes Go.ChangeAt Go.RowKit Go.Joins

/-- A write in a block of its own. -/
structure WBox (w : World) (b : Nat) (k c s q v : Int) (de : Bool) (x : Option Addr) (len cap : Nat) : Prop where
  lt : b < w.heap.size
  c0 : w.cell? ⟨b, 0, none⟩ = some (.int .i64 k)
  c1 : w.cell? ⟨b, 1, none⟩ = some (.int .i64 c)
  c2 : w.cell? ⟨b, 2, none⟩ = some (.int .i64 s)
  c3 : w.cell? ⟨b, 3, none⟩ = some (.int .i64 q)
  c4 : w.cell? ⟨b, 4, none⟩ = some (.int .i64 v)
  c5 : w.cell? ⟨b, 5, none⟩ = some (.bool de)
  c6 : w.cell? ⟨b, 6, none⟩ = some (.slice x len cap)
  fz : ∀ o, w.frozen? ⟨b, o, none⟩ = false

theorem WBox.start (w : World) (k c s q v : Int) (de : Bool) (x : Option Addr) (len cap : Nat) (t : Nat) : WBox (w.alloc (.cells #[.int .i64 k, .int .i64 c, .int .i64 s, .int .i64 q, .int .i64 v, .bool de, .slice x len cap] t)) w.heap.size k c s q v de x len cap :=
  ⟨by simp, by simp [go_sem], by simp [go_sem], by simp [go_sem], by simp [go_sem], by simp [go_sem], by simp [go_sem], by simp [go_sem], fun o => by simp [go_sem]⟩

theorem WBox.hole {w w' : World} {B b : Nat} {k c s q v : Int} {de : Bool} {x : Option Addr} {len cap : Nat} (h : WBox w b k c s q v de x len cap) (hh : Hole B w w') (hn : b ≠ B) : WBox w' b k c s q v de x len cap :=
  ⟨Nat.lt_of_lt_of_le h.lt hh.size, (hh.cell h.lt hn).trans h.c0, (hh.cell h.lt hn).trans h.c1, (hh.cell h.lt hn).trans h.c2, (hh.cell h.lt hn).trans h.c3, (hh.cell h.lt hn).trans h.c4, (hh.cell h.lt hn).trans h.c5, (hh.cell h.lt hn).trans h.c6, fun o => (hh.frozen h.lt hn).trans (h.fz o)⟩

theorem WBox.other {w : World} {R b : Nat} {k c s q v : Int} {de : Bool} {x : Option Addr} {len cap : Nat} (h : WBox w b k c s q v de x len cap) (hn : R ≠ b) (o : Nat) (y : Value) : WBox (w.setCell ⟨R, o, none⟩ y) b k c s q v de x len cap := by
  have hne : ∀ o', (Addr.mk R o none) ≠ ⟨b, o', none⟩ := fun o' e => hn (by injection e)
  exact ⟨by simpa [World.setCell] using h.lt, (World.cell?_setCell_other _ _ _ _ (hne _)).trans h.c0, (World.cell?_setCell_other _ _ _ _ (hne _)).trans h.c1, (World.cell?_setCell_other _ _ _ _ (hne _)).trans h.c2, (World.cell?_setCell_other _ _ _ _ (hne _)).trans h.c3, (World.cell?_setCell_other _ _ _ _ (hne _)).trans h.c4, (World.cell?_setCell_other _ _ _ _ (hne _)).trans h.c5, (World.cell?_setCell_other _ _ _ _ (hne _)).trans h.c6, fun o => by rw [World.frozen?_setCell]; exact h.fz o⟩

theorem WBox.set0 {w : World} {b : Nat} {k c s q v : Int} {de : Bool} {x : Option Addr} {len cap : Nat} (h : WBox w b k c s q v de x len cap) (y : Int) : WBox (w.setCell ⟨b, 0, none⟩ (.int .i64 y)) b y c s q v de x len cap :=
  ⟨by simpa [World.setCell] using h.lt, cell_set_same h.c0, cell_set_off h.c1 (by omega), cell_set_off h.c2 (by omega), cell_set_off h.c3 (by omega), cell_set_off h.c4 (by omega), cell_set_off h.c5 (by omega), cell_set_off h.c6 (by omega), fun o => by rw [World.frozen?_setCell]; exact h.fz o⟩

theorem WBox.set1 {w : World} {b : Nat} {k c s q v : Int} {de : Bool} {x : Option Addr} {len cap : Nat} (h : WBox w b k c s q v de x len cap) (y : Int) : WBox (w.setCell ⟨b, 1, none⟩ (.int .i64 y)) b k y s q v de x len cap :=
  ⟨by simpa [World.setCell] using h.lt, cell_set_off h.c0 (by omega), cell_set_same h.c1, cell_set_off h.c2 (by omega), cell_set_off h.c3 (by omega), cell_set_off h.c4 (by omega), cell_set_off h.c5 (by omega), cell_set_off h.c6 (by omega), fun o => by rw [World.frozen?_setCell]; exact h.fz o⟩

theorem WBox.set4 {w : World} {b : Nat} {k c s q v : Int} {de : Bool} {x : Option Addr} {len cap : Nat} (h : WBox w b k c s q v de x len cap) (y : Int) : WBox (w.setCell ⟨b, 4, none⟩ (.int .i64 y)) b k c s q y de x len cap :=
  ⟨by simpa [World.setCell] using h.lt, cell_set_off h.c0 (by omega), cell_set_off h.c1 (by omega), cell_set_off h.c2 (by omega), cell_set_off h.c3 (by omega), cell_set_same h.c4, cell_set_off h.c5 (by omega), cell_set_off h.c6 (by omega), fun o => by rw [World.frozen?_setCell]; exact h.fz o⟩

theorem WBox.set5 {w : World} {b : Nat} {k c s q v : Int} {de : Bool} {x : Option Addr} {len cap : Nat} (h : WBox w b k c s q v de x len cap) (y : Bool) : WBox (w.setCell ⟨b, 5, none⟩ (.bool y)) b k c s q v y x len cap :=
  ⟨by simpa [World.setCell] using h.lt, cell_set_off h.c0 (by omega), cell_set_off h.c1 (by omega), cell_set_off h.c2 (by omega), cell_set_off h.c3 (by omega), cell_set_off h.c4 (by omega), cell_set_same h.c5, cell_set_off h.c6 (by omega), fun o => by rw [World.frozen?_setCell]; exact h.fz o⟩

theorem WBox.set6 {w : World} {b : Nat} {k c s q v : Int} {de : Bool} {x : Option Addr} {len cap : Nat} (h : WBox w b k c s q v de x len cap) (y : Option Addr) (l' c' : Nat) : WBox (w.setCell ⟨b, 6, none⟩ (.slice y l' c')) b k c s q v de y l' c' :=
  ⟨by simpa [World.setCell] using h.lt, cell_set_off h.c0 (by omega), cell_set_off h.c1 (by omega), cell_set_off h.c2 (by omega), cell_set_off h.c3 (by omega), cell_set_off h.c4 (by omega), cell_set_off h.c5 (by omega), cell_set_same h.c6, fun o => by rw [World.frozen?_setCell]; exact h.fz o⟩

theorem HoldsDeps.hole {w w' : World} {B g : Nat} {ds : List Dp} (h : HoldsDeps w g 0 ds) (hh : Hole B w w') (hg : g < w.heap.size) (hn : g ≠ B) : HoldsDeps w' g 0 ds := by
  intro i hi
  obtain ⟨h0, h1, h2, h3⟩ := h i hi
  exact ⟨(hh.cell hg hn).trans h0, (hh.cell hg hn).trans h1, (hh.cell hg hn).trans h2, (hh.cell hg hn).trans h3⟩

/-- What is carried through the drawing of a write: the cursor, what was there, the two boxes, the dependencies. -/
structure Draw (w W : World) (B R T g : Nat) (a : Option Addr) (len cap : Nat) (N : Int) (k c s q v : Int) (de : Bool) (ds : List Dp) (cp : Nat) : Prop where
  cur : Cur W B a len cap N
  hole : Hole B w W
  box : WBox W T k c s q v de (some ⟨g, 0, none⟩) ds.length cp
  res : WBox W R 0 0 0 0 0 false none 0 0
  deps : HoldsDeps W g 0 ds
  glt : g < W.heap.size

theorem Draw.step {w W W' : World} {B R T g : Nat} {a : Option Addr} {len cap : Nat} {N M : Int} {k c s q v : Int} {de : Bool} {ds : List Dp} {cp : Nat} (h : Draw w W B R T g a len cap N k c s q v de ds cp) (hc : Cur W' B a len cap M) (hh : Hole B W W') (hT : T ≠ B) (hR : R ≠ B) (hg : g ≠ B) : Draw w W' B R T g a len cap M k c s q v de ds cp :=
  ⟨hc, h.hole.trans hh, h.box.hole hh hT, h.res.hole hh hR, h.deps.hole hh h.glt hg, Nat.lt_of_lt_of_le h.glt hh.size⟩

theorem Draw.set {w W : World} {B R T g : Nat} {a : Option Addr} {len cap : Nat} {N : Int} {k c s q v k' c' s' q' v' : Int} {de de' : Bool} {ds : List Dp} {cp : Nat} (h : Draw w W B R T g a len cap N k c s q v de ds cp) (o : Nat) (y : Value) (hb : WBox (W.setCell ⟨T, o, none⟩ y) T k' c' s' q' v' de' (some ⟨g, 0, none⟩) ds.length cp) (hT : B < T) (hw : w.heap.size ≤ T) (hR : T ≠ R) (hg : T ≠ g) : Draw w (W.setCell ⟨T, o, none⟩ y) B R T g a len cap N k' c' s' q' v' de' ds cp :=
  ⟨h.cur.setOther hT o y, h.hole.setNew hw o y, hb, h.res.other hR o y, h.deps.set hg y, by simpa [World.setCell] using h.glt⟩

theorem write_end {w W : World} {B R T g : Nat} {a : Option Addr} {len cap : Nat} {N M : Int} {k c s q v : Int} {de : Bool} {ds : List Dp} {cp : Nat} (h : Draw w W B R T g a len cap N k c s q v de ds cp) (hR : w.heap.size ≤ R) (hB : B < w.heap.size) (hg : R ≠ g) (hM : N ≤ M) :
    let W' := ((((((W.setCell ⟨R, 0, none⟩ (.int .i64 k)).setCell ⟨R, 1, none⟩ (.int .i64 c)).setCell ⟨R, 2, none⟩ (.int .i64 s)).setCell ⟨R, 3, none⟩ (.int .i64 q)).setCell ⟨R, 4, none⟩ (.int .i64 v)).setCell ⟨R, 5, none⟩ (.bool de)).setCell ⟨R, 6, none⟩ (.slice (some ⟨g, 0, none⟩) ds.length cp)
    g < W'.heap.size ∧ HoldsDeps W' g 0 ds ∧ Cur W' B a len cap M ∧ Hole B w W' :=
  ⟨by simpa [World.setCell] using h.glt, ((((((h.deps.set hg _).set hg _).set hg _).set hg _).set hg _).set hg _).set hg _,
    (((((((h.cur.setOther (by omega) _ _).setOther (by omega) _ _).setOther (by omega) _ _).setOther (by omega) _ _).setOther (by omega) _ _).setOther (by omega) _ _).setOther (by omega) _ _).more hM,
    ((((((h.hole.setNew hR _ _).setNew hR _ _).setNew hR _ _).setNew hR _ _).setNew hR _ _).setNew hR _ _).setNew hR _ _⟩

set_option maxRecDepth 100000 in
set_option maxHeartbeats 8000000 in
theorem write_any (B : Nat) (a : Option Addr) (len cap : Nat) (N : Int) (w : World) (hN : N ≤ 2000) (h : Cur w B a len cap N) :
    Calls Tryd.prog 68 #[.pointer (some ⟨B, 0, none⟩)] w fun e w' => ∃ (k c s q v : Int) (de : Bool) (g cp : Nat) (ds : List Dp), e = .returned (wrV k c s q v de (some ⟨g, 0, none⟩) ds.length cp) ∧ ds.length ≤ 7 ∧ w.heap.size ≤ g ∧ g < w'.heap.size ∧ HoldsDeps w' g 0 ds ∧ Cur w' B a len cap (N + 80) ∧ Hole B w w' := by
  have HC : Hid (Cur w B a len cap N) := h
  have hB := h.lt
  clear h
  go_enter Tryd.func68, Tryd.ntmps68
  go_wp2_with fail
  have HA : Hid (Below w.heap.size w (w.alloc (.cells #[.int .i64 0, .int .i64 0, .int .i64 0, .int .i64 0, .int .i64 0, .bool false, .slice none 0 0] 81))) := (Below.refl _ _).alloc (Nat.le_refl _) _
  have HR0 : Hid (WBox (w.alloc (.cells #[.int .i64 0, .int .i64 0, .int .i64 0, .int .i64 0, .int .i64 0, .bool false, .slice none 0 0] 81)) w.heap.size 0 0 0 0 0 false none 0 0) := WBox.start _ _ _ _ _ _ _ _ _ _ _
  refine (pick_any B a len cap N 6 _ (by omega) (by omega) (by omega) (HC.out.below HA.out)).mono ?_
  rintro e w1 ⟨k, rfl, q10, q11, hc1, hh1⟩
  have HC1 : Hid (Cur w1 B a len cap (N + 1)) := hc1
  have HR1 : Hid (WBox w1 w.heap.size 0 0 0 0 0 false none 0 0) := HR0.out.hole hh1 (by omega)
  have HH1 : Hid (Hole B w w1) := (Hole.of_below HA.out).trans hh1
  clear hc1 hh1 HR0 HA HC
  go_wp2_with fail
  refine (tag_any B a len cap (N + 1) _ (by omega) HC1.out).mono ?_
  rintro e w2 ⟨c0, s, q, rfl, hc2, hh2⟩
  have HC2 : Hid (Cur w2 B a len cap (N + 10)) := hc2.more (by omega)
  have HR2 : Hid (WBox w2 w.heap.size 0 0 0 0 0 false none 0 0) := HR1.out.hole hh2 (by omega)
  have HH2 : Hid (Hole B w w2) := HH1.out.trans hh2
  clear hc2 hh2 HR1 HH1 HC1
  go_wp2_with fail
  refine (pick_any B a len cap (N + 10) 9 _ (by omega) (by omega) (by omega) HC2.out).mono ?_
  rintro e w3 ⟨r3, rfl, q30, q31, hc3, hh3⟩
  have HC3 : Hid (Cur w3 B a len cap (N + 11)) := hc3.more (by omega)
  have HR3 : Hid (WBox w3 w.heap.size 0 0 0 0 0 false none 0 0) := HR2.out.hole hh3 (by omega)
  have HH3 : Hid (Hole B w w3) := HH2.out.trans hh3
  clear hc3 hh3 HR2 HH2 HC2
  have hz3 := HR3.out.lt
  go_wp2_with fail
  have HA : Hid (Below w3.heap.size w3 (w3.alloc (.cells #[.int .i64 k, .int .i64 (wrap64 (c0 + 4)), .int .i64 s, .int .i64 q, .int .i64 (r3 - 2), .bool false, .slice none 0 0] 81))) := (Below.refl _ _).alloc (Nat.le_refl _) _
  have HT0 : Hid (WBox (w3.alloc (.cells #[.int .i64 k, .int .i64 (wrap64 (c0 + 4)), .int .i64 s, .int .i64 q, .int .i64 (r3 - 2), .bool false, .slice none 0 0] 81)) w3.heap.size k (wrap64 (c0 + 4)) s q (r3 - 2) false none 0 0) := WBox.start _ _ _ _ _ _ _ _ _ _ _
  refine (deps_any B a len cap (N + 11) _ (by omega) (HC3.out.below HA.out)).mono ?_
  rintro e w5 ⟨g, cp, ds, rfl, hds, hO, hc5, hh5⟩
  have hle := hO.le
  have hglt := hO.lt
  have hgT : w3.heap.size < g := by simp at hle; omega
  have HD5 : Hid (HoldsDeps w5 g 0 ds) := hO.holds
  have HC5 : Hid (Cur w5 B a len cap (N + 51)) := hc5.more (by omega)
  have HT5 : Hid (WBox w5 w3.heap.size k (wrap64 (c0 + 4)) s q (r3 - 2) false none 0 0) := HT0.out.hole hh5 (by omega)
  have HR5 : Hid (WBox w5 w.heap.size 0 0 0 0 0 false none 0 0) := (HR3.out.hole (Hole.of_below (B := B) HA.out) (by omega)).hole hh5 (by omega)
  have HH5 : Hid (Hole B w w5) := (HH3.out.trans (Hole.of_below HA.out)).trans hh5
  clear hO hc5 hh5 HA HT0 HC3 HR3 HH3 hle
  generalize wrap64 (c0 + 4) = c at *
  generalize r3 - 2 = v at *
  have H5 : Hid (Draw w (w5.setCell ⟨w3.heap.size, 6, none⟩ (.slice (some ⟨g, 0, none⟩) ds.length cp)) B w.heap.size w3.heap.size g a len cap (N + 51) k c s q v false ds cp) :=
    ⟨HC5.out.setOther (by omega) _ _, HH5.out.setNew (by omega) _ _, HT5.out.set6 _ _ _, HR5.out.other (by omega) _ _, HD5.out.set (by show w3.heap.size ≠ g; omega) _, by simpa [World.setCell] using hglt⟩
  have y6 := HT5.out.c6
  have yf := HT5.out.fz
  go_wp2_with fail
  refine (pick_any B a len cap (N + 51) 5 _ (by omega) (by omega) (by omega) H5.out.cur).mono ?_
  rintro e w6 ⟨r6, rfl, q60, q61, hc6, hh6⟩
  have H6 : Hid (Draw w w6 B w.heap.size w3.heap.size g a len cap (N + 51 + 1) k c s q v false ds cp) := H5.out.step hc6 hh6 (by omega) (by omega) (by omega)
  clear hc6 hh6 H5 HC5 HT5 HR5 HH5 HD5 y6 yf
  by_cases j0 : r6 = 0
  · subst j0
    have y4 := H6.out.box.c4
    have y5 := H6.out.box.c5
    have yf := H6.out.box.fz
    have H7 : Hid (Draw w ((w6.setCell ⟨w3.heap.size, 5, none⟩ (.bool true)).setCell ⟨w3.heap.size, 4, none⟩ (.int .i64 0)) B w.heap.size w3.heap.size g a len cap (N + 51 + 1) k c s q 0 true ds cp) := (H6.out.set 5 (.bool true) (H6.out.box.set5 true) (by omega) (by omega) (by omega) (by omega)).set 4 (.int .i64 0) ((H6.out.box.set5 true).set4 0) (by omega) (by omega) (by omega) (by omega)
    clear H6
    go_wp2_with fail
    refine (once_any B a len cap (N + 51 + 1) 14 _ (by omega) (by omega) (by omega) H7.out.cur).mono ?_
    rintro e w7 ⟨b7, rfl, hc7, hh7⟩
    have H7' : Hid (Draw w w7 B w.heap.size w3.heap.size g a len cap (N + 51 + 1 + 1) k c s q 0 true ds cp) := H7.out.step hc7 hh7 (by omega) (by omega) (by omega)
    clear hc7 hh7 H7 y4 y5 yf
    cases b7
    · have x0 := H7'.out.res.c0
      have x1 := H7'.out.res.c1
      have x2 := H7'.out.res.c2
      have x3 := H7'.out.res.c3
      have x4 := H7'.out.res.c4
      have x5 := H7'.out.res.c5
      have x6 := H7'.out.res.c6
      have xf := H7'.out.res.fz
      have y0 := H7'.out.box.c0
      have y1 := H7'.out.box.c1
      have y2 := H7'.out.box.c2
      have y3 := H7'.out.box.c3
      have y4 := H7'.out.box.c4
      have y5 := H7'.out.box.c5
      have y6 := H7'.out.box.c6
      have yf := H7'.out.box.fz
      go_wp2
      obtain ⟨z1, z2, z3, z4⟩ := write_end (M := N + 80) H7'.out (Nat.le_refl _) hB (by omega) (by omega)
      exact bodyPost_ret (v := wrV k c s q 0 true (some ⟨g, 0, none⟩) ds.length cp) (by simp [results, Tryd.results68, go_sem, x0, x1, x2, x3, x4, x5, x6]) rfl ⟨k, c, s, q, 0, true, g, cp, ds, rfl, hds, by omega, z1, z2, z3, z4⟩
    · go_wp2_with fail
      refine (pick_any B a len cap (N + 51 + 1 + 1) 3 _ (by omega) (by omega) (by omega) H7'.out.cur).mono ?_
      rintro e w8 ⟨r8, rfl, q80, q81, hc8, hh8⟩
      have H8 : Hid (Draw w w8 B w.heap.size w3.heap.size g a len cap (N + 51 + 1 + 1 + 1) k c s q 0 true ds cp) := H7'.out.step hc8 hh8 (by omega) (by omega) (by omega)
      clear hc8 hh8 H7'
      by_cases k0 : r8 = 0
      · subst k0
        go_wp2_with fail
        refine (raw_any B a len cap (N + 51 + 1 + 1 + 1) _ (by omega) H8.out.cur).mono ?_
        rintro e w9 ⟨u, rfl, hc9, hh9⟩
        have H9 : Hid (Draw w w9 B w.heap.size w3.heap.size g a len cap (N + 51 + 1 + 1 + 1 + 2) k c s q 0 true ds cp) := H8.out.step hc9 hh9 (by omega) (by omega) (by omega)
        clear hc9 hh9 H8
        have x0 := H9.out.res.c0
        have x1 := H9.out.res.c1
        have x2 := H9.out.res.c2
        have x3 := H9.out.res.c3
        have x4 := H9.out.res.c4
        have x5 := H9.out.res.c5
        have x6 := H9.out.res.c6
        have xf := H9.out.res.fz
        have y0 := H9.out.box.c0
        have y1 := H9.out.box.c1
        have y2 := H9.out.box.c2
        have y3 := H9.out.box.c3
        have y4 := H9.out.box.c4
        have y5 := H9.out.box.c5
        have y6 := H9.out.box.c6
        have yf := H9.out.box.fz
        go_wp2
        obtain ⟨z1, z2, z3, z4⟩ := write_end (M := N + 80) (H9.out.set 0 (.int .i64 u) (H9.out.box.set0 u) (by omega) (by omega) (by omega) (by omega)) (Nat.le_refl _) hB (by omega) (by omega)
        exact bodyPost_ret (v := wrV u c s q 0 true (some ⟨g, 0, none⟩) ds.length cp) (by simp [results, Tryd.results68, go_sem, x0, x1, x2, x3, x4, x5, x6]) rfl ⟨u, c, s, q, 0, true, g, cp, ds, rfl, hds, by omega, z1, z2, z3, z4⟩
      · by_cases k1 : r8 = 1
        · subst k1
          go_wp2_with fail
          refine (raw_any B a len cap (N + 51 + 1 + 1 + 1) _ (by omega) H8.out.cur).mono ?_
          rintro e w9 ⟨u, rfl, hc9, hh9⟩
          have H9 : Hid (Draw w w9 B w.heap.size w3.heap.size g a len cap (N + 51 + 1 + 1 + 1 + 2) k c s q 0 true ds cp) := H8.out.step hc9 hh9 (by omega) (by omega) (by omega)
          clear hc9 hh9 H8
          have hB9 := H9.out.cur.lt
          go_wp2_with fail
          have HA : Hid (Below w9.heap.size w9 (w9.alloc (.cells ((([u, 1000000, 1000001] : List Int).map (Value.int .i64)).toArray) 3))) := (Below.refl _ _).alloc (Nat.le_refl _) _
          refine (pick_any B a len cap (N + 51 + 1 + 1 + 1 + 2) 3 _ (by omega) (by omega) (by omega) (H9.out.cur.below HA.out)).mono ?_
          rintro e w10 ⟨r10, rfl, q100, q101, hc10, hh10⟩
          have hcell : w10.cell? ⟨w9.heap.size, r10.toNat, none⟩ = some (.int .i64 _) := (hh10.cell (by simp) (by omega)).trans (ints_cell w9 [u, 1000000, 1000001] _ r10.toNat (by simp; omega))
          generalize List.getD [u, 1000000, 1000001] r10.toNat 0 = y at hcell
          have H10 : Hid (Draw w w10 B w.heap.size w3.heap.size g a len cap (N + 51 + 1 + 1 + 1 + 2 + 1) k c s q 0 true ds cp) := H9.out.step hc10 ((Hole.of_below HA.out).trans hh10) (by omega) (by omega) (by omega)
          clear hc10 hh10 H9 HA
          have x0 := H10.out.res.c0
          have x1 := H10.out.res.c1
          have x2 := H10.out.res.c2
          have x3 := H10.out.res.c3
          have x4 := H10.out.res.c4
          have x5 := H10.out.res.c5
          have x6 := H10.out.res.c6
          have xf := H10.out.res.fz
          have y0 := H10.out.box.c0
          have y1 := H10.out.box.c1
          have y2 := H10.out.box.c2
          have y3 := H10.out.box.c3
          have y4 := H10.out.box.c4
          have y5 := H10.out.box.c5
          have y6 := H10.out.box.c6
          have yf := H10.out.box.fz
          go_wp2
          obtain ⟨z1, z2, z3, z4⟩ := write_end (M := N + 80) (H10.out.set 4 (.int .i64 y) (H10.out.box.set4 y) (by omega) (by omega) (by omega) (by omega)) (Nat.le_refl _) hB (by omega) (by omega)
          exact bodyPost_ret (v := wrV k c s q y true (some ⟨g, 0, none⟩) ds.length cp) (by simp [results, Tryd.results68, go_sem, x0, x1, x2, x3, x4, x5, x6]) rfl ⟨k, c, s, q, y, true, g, cp, ds, rfl, hds, by omega, z1, z2, z3, z4⟩
        · have k0' : (r8 == 0) = false := by simp [k0]
          have k1' : (r8 == 1) = false := by simp [k1]
          clear k0 k1
          have x0 := H8.out.res.c0
          have x1 := H8.out.res.c1
          have x2 := H8.out.res.c2
          have x3 := H8.out.res.c3
          have x4 := H8.out.res.c4
          have x5 := H8.out.res.c5
          have x6 := H8.out.res.c6
          have xf := H8.out.res.fz
          have y0 := H8.out.box.c0
          have y1 := H8.out.box.c1
          have y2 := H8.out.box.c2
          have y3 := H8.out.box.c3
          have y4 := H8.out.box.c4
          have y5 := H8.out.box.c5
          have y6 := H8.out.box.c6
          have yf := H8.out.box.fz
          go_wp2
          obtain ⟨z1, z2, z3, z4⟩ := write_end (M := N + 80) (H8.out.set 5 (.bool (!true)) (H8.out.box.set5 (!true)) (by omega) (by omega) (by omega) (by omega)) (Nat.le_refl _) hB (by omega) (by omega)
          exact bodyPost_ret (v := wrV k c s q 0 (!true) (some ⟨g, 0, none⟩) ds.length cp) (by simp [results, Tryd.results68, go_sem, x0, x1, x2, x3, x4, x5, x6]) rfl ⟨k, c, s, q, 0, (!true), g, cp, ds, rfl, hds, by omega, z1, z2, z3, z4⟩
  · have j0' : (r6 == 0) = false := by simp [j0]
    clear j0
    go_wp2_with fail
    refine (once_any B a len cap (N + 51 + 1) 14 _ (by omega) (by omega) (by omega) H6.out.cur).mono ?_
    rintro e w7 ⟨b7, rfl, hc7, hh7⟩
    have H7 : Hid (Draw w w7 B w.heap.size w3.heap.size g a len cap (N + 51 + 1 + 1) k c s q v false ds cp) := H6.out.step hc7 hh7 (by omega) (by omega) (by omega)
    clear hc7 hh7 H6
    cases b7
    · have x0 := H7.out.res.c0
      have x1 := H7.out.res.c1
      have x2 := H7.out.res.c2
      have x3 := H7.out.res.c3
      have x4 := H7.out.res.c4
      have x5 := H7.out.res.c5
      have x6 := H7.out.res.c6
      have xf := H7.out.res.fz
      have y0 := H7.out.box.c0
      have y1 := H7.out.box.c1
      have y2 := H7.out.box.c2
      have y3 := H7.out.box.c3
      have y4 := H7.out.box.c4
      have y5 := H7.out.box.c5
      have y6 := H7.out.box.c6
      have yf := H7.out.box.fz
      go_wp2
      obtain ⟨z1, z2, z3, z4⟩ := write_end (M := N + 80) H7.out (Nat.le_refl _) hB (by omega) (by omega)
      exact bodyPost_ret (v := wrV k c s q v false (some ⟨g, 0, none⟩) ds.length cp) (by simp [results, Tryd.results68, go_sem, x0, x1, x2, x3, x4, x5, x6]) rfl ⟨k, c, s, q, v, false, g, cp, ds, rfl, hds, by omega, z1, z2, z3, z4⟩
    · go_wp2_with fail
      refine (pick_any B a len cap (N + 51 + 1 + 1) 3 _ (by omega) (by omega) (by omega) H7.out.cur).mono ?_
      rintro e w8 ⟨r8, rfl, q80, q81, hc8, hh8⟩
      have H8 : Hid (Draw w w8 B w.heap.size w3.heap.size g a len cap (N + 51 + 1 + 1 + 1) k c s q v false ds cp) := H7.out.step hc8 hh8 (by omega) (by omega) (by omega)
      clear hc8 hh8 H7
      by_cases k0 : r8 = 0
      · subst k0
        go_wp2_with fail
        refine (raw_any B a len cap (N + 51 + 1 + 1 + 1) _ (by omega) H8.out.cur).mono ?_
        rintro e w9 ⟨u, rfl, hc9, hh9⟩
        have H9 : Hid (Draw w w9 B w.heap.size w3.heap.size g a len cap (N + 51 + 1 + 1 + 1 + 2) k c s q v false ds cp) := H8.out.step hc9 hh9 (by omega) (by omega) (by omega)
        clear hc9 hh9 H8
        have x0 := H9.out.res.c0
        have x1 := H9.out.res.c1
        have x2 := H9.out.res.c2
        have x3 := H9.out.res.c3
        have x4 := H9.out.res.c4
        have x5 := H9.out.res.c5
        have x6 := H9.out.res.c6
        have xf := H9.out.res.fz
        have y0 := H9.out.box.c0
        have y1 := H9.out.box.c1
        have y2 := H9.out.box.c2
        have y3 := H9.out.box.c3
        have y4 := H9.out.box.c4
        have y5 := H9.out.box.c5
        have y6 := H9.out.box.c6
        have yf := H9.out.box.fz
        go_wp2
        obtain ⟨z1, z2, z3, z4⟩ := write_end (M := N + 80) (H9.out.set 0 (.int .i64 u) (H9.out.box.set0 u) (by omega) (by omega) (by omega) (by omega)) (Nat.le_refl _) hB (by omega) (by omega)
        exact bodyPost_ret (v := wrV u c s q v false (some ⟨g, 0, none⟩) ds.length cp) (by simp [results, Tryd.results68, go_sem, x0, x1, x2, x3, x4, x5, x6]) rfl ⟨u, c, s, q, v, false, g, cp, ds, rfl, hds, by omega, z1, z2, z3, z4⟩
      · by_cases k1 : r8 = 1
        · subst k1
          go_wp2_with fail
          refine (raw_any B a len cap (N + 51 + 1 + 1 + 1) _ (by omega) H8.out.cur).mono ?_
          rintro e w9 ⟨u, rfl, hc9, hh9⟩
          have H9 : Hid (Draw w w9 B w.heap.size w3.heap.size g a len cap (N + 51 + 1 + 1 + 1 + 2) k c s q v false ds cp) := H8.out.step hc9 hh9 (by omega) (by omega) (by omega)
          clear hc9 hh9 H8
          have hB9 := H9.out.cur.lt
          go_wp2_with fail
          have HA : Hid (Below w9.heap.size w9 (w9.alloc (.cells ((([u, 1000000, 1000001] : List Int).map (Value.int .i64)).toArray) 3))) := (Below.refl _ _).alloc (Nat.le_refl _) _
          refine (pick_any B a len cap (N + 51 + 1 + 1 + 1 + 2) 3 _ (by omega) (by omega) (by omega) (H9.out.cur.below HA.out)).mono ?_
          rintro e w10 ⟨r10, rfl, q100, q101, hc10, hh10⟩
          have hcell : w10.cell? ⟨w9.heap.size, r10.toNat, none⟩ = some (.int .i64 _) := (hh10.cell (by simp) (by omega)).trans (ints_cell w9 [u, 1000000, 1000001] _ r10.toNat (by simp; omega))
          generalize List.getD [u, 1000000, 1000001] r10.toNat 0 = y at hcell
          have H10 : Hid (Draw w w10 B w.heap.size w3.heap.size g a len cap (N + 51 + 1 + 1 + 1 + 2 + 1) k c s q v false ds cp) := H9.out.step hc10 ((Hole.of_below HA.out).trans hh10) (by omega) (by omega) (by omega)
          clear hc10 hh10 H9 HA
          have x0 := H10.out.res.c0
          have x1 := H10.out.res.c1
          have x2 := H10.out.res.c2
          have x3 := H10.out.res.c3
          have x4 := H10.out.res.c4
          have x5 := H10.out.res.c5
          have x6 := H10.out.res.c6
          have xf := H10.out.res.fz
          have y0 := H10.out.box.c0
          have y1 := H10.out.box.c1
          have y2 := H10.out.box.c2
          have y3 := H10.out.box.c3
          have y4 := H10.out.box.c4
          have y5 := H10.out.box.c5
          have y6 := H10.out.box.c6
          have yf := H10.out.box.fz
          go_wp2
          obtain ⟨z1, z2, z3, z4⟩ := write_end (M := N + 80) (H10.out.set 4 (.int .i64 y) (H10.out.box.set4 y) (by omega) (by omega) (by omega) (by omega)) (Nat.le_refl _) hB (by omega) (by omega)
          exact bodyPost_ret (v := wrV k c s q y false (some ⟨g, 0, none⟩) ds.length cp) (by simp [results, Tryd.results68, go_sem, x0, x1, x2, x3, x4, x5, x6]) rfl ⟨k, c, s, q, y, false, g, cp, ds, rfl, hds, by omega, z1, z2, z3, z4⟩
        · have k0' : (r8 == 0) = false := by simp [k0]
          have k1' : (r8 == 1) = false := by simp [k1]
          clear k0 k1
          have x0 := H8.out.res.c0
          have x1 := H8.out.res.c1
          have x2 := H8.out.res.c2
          have x3 := H8.out.res.c3
          have x4 := H8.out.res.c4
          have x5 := H8.out.res.c5
          have x6 := H8.out.res.c6
          have xf := H8.out.res.fz
          have y0 := H8.out.box.c0
          have y1 := H8.out.box.c1
          have y2 := H8.out.box.c2
          have y3 := H8.out.box.c3
          have y4 := H8.out.box.c4
          have y5 := H8.out.box.c5
          have y6 := H8.out.box.c6
          have yf := H8.out.box.fz
          go_wp2
          obtain ⟨z1, z2, z3, z4⟩ := write_end (M := N + 80) (H8.out.set 5 (.bool (!false)) (H8.out.box.set5 (!false)) (by omega) (by omega) (by omega) (by omega)) (Nat.le_refl _) hB (by omega) (by omega)
          exact bodyPost_ret (v := wrV k c s q v (!false) (some ⟨g, 0, none⟩) ds.length cp) (by simp [results, Tryd.results68, go_sem, x0, x1, x2, x3, x4, x5, x6]) rfl ⟨k, c, s, q, v, (!false), g, cp, ds, rfl, hds, by omega, z1, z2, z3, z4⟩

end Go.Proofs.YtidpcjcnhklmpacDoor

/- The contract of the cursor's size. -/
namespace Go.Proofs.YtidpcjcnhklmpacDoor
open Go.ChangeShapes Go.WideShapes Go.ChangeAt Go.RowKit Go.Joins

set_option maxHeartbeats 1000000 in
theorem size_any (B : Nat) (a : Option Addr) (len cap : Nat) (N n : Int) (w : World) (hN : N ≤ 1000000) (hn : 1 ≤ n) (hn' : n ≤ 1000) (h : Cur w B a len cap N) :
    Calls Tryd.prog 67 #[.pointer (some ⟨B, 0, none⟩), .int .i64 n] w fun e w' => ∃ r : Int, e = .returned (.int .i64 r) ∧ 0 ≤ r ∧ r ≤ n ∧ Cur w' B a len cap (N + 1) ∧ Hole B w w' := by
  have HC : Hid (Cur w B a len cap N) := h
  obtain ⟨at_, seed, hc, _, _, hl⟩ := h
  have c0 := hc.c0
  clear hc
  go_enter Tryd.func67, Tryd.ntmps67
  by_cases hb : n < 1 + ((len / 8 : Nat) : Int)
  · go_wp2_with fail
    refine (pick_any B a len cap N (n + 1) _ hN (by omega) (by omega) HC.out).mono ?_
    rintro e w1 ⟨r, rfl, r0, r1, hc1, hh1⟩
    have HC1 := Lib.hid hc1
    have HH1 := Lib.hid hh1
    clear hc1 hh1
    go_wp2
    go_ret
    exact ⟨r, rfl, r0, by omega, HC1.out, HH1.out⟩
  · go_wp2_with fail
    refine (pick_any B a len cap N _ _ hN (by omega) (by omega) HC.out).mono ?_
    rintro e w1 ⟨r, rfl, r0, r1, hc1, hh1⟩
    have HC1 := Lib.hid hc1
    have HH1 := Lib.hid hh1
    clear hc1 hh1
    go_wp2
    go_ret
    exact ⟨r, rfl, r0, by omega, HC1.out, HH1.out⟩

end Go.Proofs.YtidpcjcnhklmpacDoor
