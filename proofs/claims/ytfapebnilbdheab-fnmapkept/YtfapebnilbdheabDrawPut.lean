/- The contract of the draw of a map and a write. -/
import Derived.Test.YtfapebnilbdheabDrawMaps
import Derived.Test.YtfapebnilbdheabDrawTag
namespace Go.Proofs.Ytfapebnilbdheab
open Go.ChangeShapes Go.WideShapes Go.ChangeAt Go.RowKit Go.Joins
attribute [local go_sem ↓] Go.wp_at_zero Go.wp_at_succ

def NatFact (n : Nat) : Fact := fun v _ => ∃ r : Nat, v = .int .i64 (r : Int) ∧ r < n

/-- A place in a row of writes. -/
def PlaceFact (b n : Nat) : Fact := fun v _ => ∃ r : Nat, v = .pointer (some ⟨b, r * 7, none⟩) ∧ r < n

/-- A write, with dependencies above base. -/
def OneFact (base : Nat) : Fact := fun v w => ∃ (x : Wr) (ad : Option Addr) (g cp : Nat), v = wrOf x ad cp ∧ x.xs.length ≤ 10 ∧ FreshDeps base w ad g x.xs

theorem lasts_one (B base : Nat) (a : Option Addr) (len cap : Nat) (hB : B < base) : lasts (CurR B a len cap) (OneFact base) := by
  rintro v w w' ⟨x, ad, g, cp, h1, h2, h3⟩ hr
  exact ⟨x, ad, g, cp, h1, h2, h3.of_block hr.1.size fun hp => hr.1.block g (h3 hp).2.2.1 (by have := (h3 hp).2.1; omega)⟩

theorem RowEs.setW {w : World} {base g cap : Nat} {es : List En} (h : RowEs w base g cap es) {X : Nat} (hX : X < base) (k c s q v : Int) (de : Bool) (x : Option Addr) (l p : Nat) : RowEs (setW w X k c s q v de x l p) base g cap es :=
  ((((((h.setBelow hX _ _).setBelow hX _ _).setBelow hX _ _).setBelow hX _ _).setBelow hX _ _).setBelow hX _ _).setBelow hX _ _

theorem block_setW (w : World) {X b : Nat} (hb : b ≠ X) (k c s q v : Int) (de : Bool) (x : Option Addr) (l p : Nat) : (setW w X k c s q v de x l p).heap[b]? = w.heap[b]? := by
  unfold Proofs.Ytfapebnilbdheab.setW
  rw [Below.heap_setCell _ _ _ _ hb, Below.heap_setCell _ _ _ _ hb, Below.heap_setCell _ _ _ _ hb, Below.heap_setCell _ _ _ _ hb, Below.heap_setCell _ _ _ _ hb, Below.heap_setCell _ _ _ _ hb, Below.heap_setCell _ _ _ _ hb]

theorem FreshDeps.setW {B : Nat} {w : World} {a : Option Addr} {g : Nat} {xs : List Dp} (h : FreshDeps B w a g xs) {X : Nat} (hX : X < B) (k c s q v : Int) (de : Bool) (x : Option Addr) (l p : Nat) : FreshDeps B (setW w X k c s q v de x l p) a g xs :=
  h.of_block (by simp [Proofs.Ytfapebnilbdheab.setW, World.setCell]) fun hp => block_setW w (by have := (h hp).2.1; omega) ..

theorem below_setW {B : Nat} {w w' : World} (h : Below B w w') {X : Nat} (hX : B ≤ X) (k c s q v : Int) (de : Bool) (x : Option Addr) (l p : Nat) : Below B w (setW w' X k c s q v de x l p) :=
  ((((((h.setCell (p := ⟨X, 0, none⟩) hX _).setCell (p := ⟨X, 1, none⟩) hX _).setCell (p := ⟨X, 2, none⟩) hX _).setCell (p := ⟨X, 3, none⟩) hX _).setCell (p := ⟨X, 4, none⟩) hX _).setCell (p := ⟨X, 5, none⟩) hX _).setCell (p := ⟨X, 6, none⟩) hX _

theorem pick_len_curR (B : Nat) (a : Option Addr) (len cap : Nat) (N : Int) (n : Nat) (w : World) (hN : N ≤ 1000000) (hn : 1 ≤ n) (hn' : n ≤ 100000) (h : Cur w B a len cap N) :
    Calls Try.prog 31 #[.pointer (some ⟨B, 0, none⟩), .int .i64 (n : Int)] w fun e w' => ∃ r : Nat, e = .returned (.int .i64 (r : Int)) ∧ CurR B a len cap w w' ∧ r < n := by
  by_cases h1 : n = 1
  · subst h1
    refine (pick_one B w).mono ?_
    rintro e w' ⟨rfl, rfl⟩
    exact ⟨0, rfl, curR_refl _ _ _ _ _, by omega⟩
  · refine (pick_curR B a len cap N n w hN (by omega) (by omega) h).mono ?_
    rintro e w' ⟨r, rfl, h2, h3, h4⟩
    obtain ⟨r', rfl⟩ := Int.eq_ofNat_of_zero_le h3
    exact ⟨r', rfl, h2, by omega⟩

set_option maxRecDepth 100000 in
set_option maxHeartbeats 8000000 in
theorem drawPut_any (a : Option Addr) (len cap : Nat) (w : World) (h : Bytes w a len) (hl : len ≤ 1048576) :
    Calls Try.prog 21 #[.slice a len cap] w fun e w' => ∃ v1 es1 x ad cp, e = .returned (.tuple #[v1, wrOf x ad cp]) ∧ DrawnM w' w.heap.size v1 es1 ∧ x.xs.length ≤ 10 ∧ IsDeps w' ad x.xs ∧ Below w.heap.size w w' := by
  have HY := Lib.hid h
  clear h
  have HA : Hid (Below w.heap.size w (w.alloc (.cells #[.int .i64 0, .int .i64 0, .int .i64 0, .int .i64 0, .int .i64 0, .bool false, .slice none 0 0] 31))) := (Below.refl _ _).alloc (Nat.le_refl _) _
  have HZ := Lib.hid (zero_alloc w 31)
  go_enter Try.func21, Try.ntmps21
  go_wp2_with fail
  refine (open_as _ _ _ (w.heap.size + 1) _ (by simp) (HY.out.below HA.out) hl).mono ?_
  rintro e w1 ⟨rfl, hc1, hb1⟩
  have HC1 : Hid (Cur w1 (w.heap.size + 1) a len cap 0) := hc1
  have HZ1 := Lib.hid (zero_hole (Hole.of_below (B := w.heap.size + 1) hb1) HZ.out (by omega))
  have HB1 : Hid (Below w.heap.size w w1) := below_step HA.out HA.out.size hb1
  have hlt1 : w.heap.size + 1 < w1.heap.size := hc1.lt
  clear hc1 hb1 HA HZ HY
  go_wp2_with fail
  refine (story_any (w.heap.size + 1) a len cap 0 _ (by omega) HC1.out).mono ?_
  rintro e w2 ⟨v, es, rfl, hl1, hl2, hf, hr, hc2, hh2⟩
  obtain ⟨ag, cg, hv, hag⟩ := hr.form
  subst hv
  have HF := Lib.hid hf
  have HR2 := Lib.hid hr
  have HC2 := Lib.hid hc2
  have HH2 := Lib.hid hh2
  have HZ2 := Lib.hid (zero_hole hh2 HZ1.out (by omega))
  obtain ⟨bs, rfl⟩ : ∃ bs, ag = some ⟨bs, 0, none⟩ := by
    rcases hag with h | ⟨b, h, _⟩
    · rw [h] at hl2
      simp at hl2
    · exact ⟨b, h⟩
  clear hf hr hc2 hh2 hag HC1 HZ1
  go_wp2_with fail
  refine (amap_any (w.heap.size + 1) a len cap _ _ es.length cg w1.heap.size es _ (by omega) HC2.out HR2.out hlt1 rfl hl1 HF.out).mono ?_
  rintro e w3 ⟨g3, cp3, es3, L3, rfl, rfl, hL3, hf3, hr3, hc3, hh3⟩
  have HF3 := Lib.hid hf3
  have HR3 := Lib.hid hr3
  have HC3 := Lib.hid hc3
  have HH3 := Lib.hid (HH2.out.trans hh3)
  have hs2 : w1.heap.size ≤ w2.heap.size := HH2.out.size
  have hs3 : w2.heap.size ≤ w3.heap.size := hh3.size
  have HRS := Lib.hid (HR2.out.hole hh3 hlt1)
  have HZ3 := Lib.hid (zero_hole hh3 HZ2.out (by omega))
  clear hf3 hr3 hc3 hh3 HC2 HR2 HH2 HZ2
  go_wp2_with fail
  refine (pick_any (w.heap.size + 1) a len cap _ 3 _ (by omega) (by omega) (by omega) HC3.out).mono ?_
  rintro e w4 ⟨r4, rfl, r40, r41, hc4, hh4⟩
  have HC4 := Lib.hid hc4
  have HH4 := Lib.hid (HH3.out.trans hh4)
  have HR4 := Lib.hid (HR3.out.hole hh4 (by omega))
  have HRS4 := Lib.hid (HRS.out.hole hh4 hlt1)
  have HZ4 := Lib.hid (zero_hole hh4 HZ3.out (by omega))
  have hs4 : w3.heap.size ≤ w4.heap.size := hh4.size
  clear hc4 hh4 HC3 HH3 HR3 HRS HZ3
  by_cases hr4 : r4 = 0
  · subst hr4
    go_wp2_with fail
    refine (write_any (w.heap.size + 1) a len cap _ _ (by omega) HC4.out).mono ?_
    rintro e w5 ⟨k, c, s, q, u, de, g, cp, ds, rfl, hds, hg1, hg2, hd, hc5, hh5⟩
    have HR5 := Lib.hid (HR4.out.hole hh5 (by omega))
    have HZ5 := Lib.hid (zero_hole hh5 HZ4.out (by omega))
    have HB5 : Hid (Below w.heap.size w w5) := Hole.below HB1.out (HH4.out.trans hh5) (by omega) HB1.out.size
    have hgX : g ≠ w.heap.size := by omega
    have HD5 : Hid (HoldsDeps (setW w5 w.heap.size k c s q u de (some ⟨g, 0, none⟩) ds.length cp) g 0 ds) := by
      intro i hi
      have e : ∀ o, (setW w5 w.heap.size k c s q u de (some ⟨g, 0, none⟩) ds.length cp).cell? ⟨g, o, none⟩ = w5.cell? ⟨g, o, none⟩ := fun o => World.cell?_of_block (a := ⟨g, o, none⟩) (block_setW w5 hgX ..)
      exact ⟨(e _).trans (hd i hi).1, (e _).trans (hd i hi).2.1, (e _).trans (hd i hi).2.2.1, (e _).trans (hd i hi).2.2.2⟩
    have HE5 : Hid (DrawnM (setW w5 w.heap.size k c s q u de (some ⟨g, 0, none⟩) ds.length cp) w.heap.size (.slice (some ⟨g3, 0, none⟩) es3.length cp3) es3) := ⟨g3, cp3, rfl, by omega, HF3.out, (HR5.out.setW (by omega) _ _ _ _ _ _ _ _ _).mono (by omega)⟩
    have HG5 : Hid (Below w.heap.size w (setW w5 w.heap.size k c s q u de (some ⟨g, 0, none⟩) ds.length cp)) := below_setW HB5.out (Nat.le_refl _) ..
    have HX5 := Lib.hid (setW_box HZ5.out k c s q u de (some ⟨g, 0, none⟩) ds.length cp)
    have hgl : g < (setW w5 w.heap.size k c s q u de (some ⟨g, 0, none⟩) ds.length cp).heap.size := by simpa [setW, World.setCell] using hg2
    obtain ⟨x0, x1, x2, x3, x4, x5, x6, xf, xl⟩ := HZ5.out
    clear hd hc5 hh5 HR4 HC4 HH4 HRS4 HZ4 HR5 HB5 HZ5
    go_wp2
    have y0 := HX5.out.c0
    have y1 := HX5.out.c1
    have y2 := HX5.out.c2
    have y3 := HX5.out.c3
    have y4 := HX5.out.c4
    have y5 := HX5.out.c5
    have y6 := HX5.out.c6
    unfold setW at *
    exact bodyPost_ret (v := .tuple #[.slice (some ⟨g3, 0, none⟩) es3.length cp3, wrV k c s q u de (some ⟨g, 0, none⟩) ds.length cp]) (by simp [results, Try.results21, go_sem, y0, y1, y2, y3, y4, y5, y6]) rfl ⟨_, es3, ⟨k, c, s, q, u, de, ds⟩, _, cp, rfl, HE5.out, by show ds.length ≤ 10; omega, .inr ⟨g, 0, rfl, hgl, HD5.out⟩, HG5.out⟩
  · have HN4 : Hid (RowG w4 w1.heap.size (.slice (some ⟨bs, 0, none⟩) es.length cg) es) := HRS4
    have hB4 : w.heap.size + 1 < w4.heap.size := HC4.out.lt
    have HC5 : Hid (Cur w4 (w.heap.size + 1) a len cap (0 + 300 + 100 + 1 + 10 - (10 : Nat))) := HC4.out.more (by omega)
    obtain ⟨nn, hnn⟩ : ∃ nn, es.length = nn := ⟨_, rfl⟩
    rw [hnn] at HN4 hl1 hl2 ⊢
    go_wp2_with fail
    refine wp_region_slots_n 9 [[(6, false)], [(5, false)], [(4, false)], [(5, false)], [(23, true)], [(22, true), (24, true)], [(21, true), (25, true)], [(26, true)], [(20, true)]] (CurAny w4 (w.heap.size + 1) a len cap (0 + 300 + 100 + 1 + 10)) (CurAny w4 (w.heap.size + 1) a len cap (0 + 300 + 100 + 1 + 10)) (CurS w4 (w.heap.size + 1) a len cap (0 + 300 + 100 + 1 + 10)) (CurR (w.heap.size + 1) a len cap) (by kernel_rfl) (by kernel_rfl) (by rfl) (curS_start _ HC5.out) curS_step (fun _ _ _ h => curS_any h) (fun _ _ _ h => curS_any h) ?_
    iterate 5 (apply slot_eq; · (intro ρ w' ⟨p1, p2, p3⟩ ⟨hH, hC⟩ hn; simp at hn; go_simp; exact ⟨curR_refl _ _ _ _ _, rfl⟩))
    refine slot_fact (NatFact nn) (fun _ _ _ h _ => h) ?_ ?_
    · intro ρ w' ⟨p1, p2, p3⟩ ⟨hH, hC⟩ hn
      simp at hn
      go_simp
      exact got_call (pick_len_curR (w.heap.size + 1) a len cap _ nn _ (by omega) (by omega) (by omega) hC) fun e w'' ⟨r, he, hr, h1⟩ => ⟨_, he, hr, r, rfl, h1⟩
    refine slot_fact (PlaceFact bs nn) (fun _ _ _ h _ => h) ?_ ?_
    · intro ρ w' ⟨p1, p2, p3⟩ ⟨hH, hC⟩ hn
      simp at hn
      obtain ⟨f21, r, f25, hr⟩ := hn
      have i1 : (0 : Int) ≤ (r : Int) := by omega
      have i2 : (r : Int) < (nn : Int) := by omega
      go_simp
      exact ⟨curR_refl _ _ _ _ _, r, rfl, hr⟩
    refine slot_fact (OneFact w1.heap.size) (lasts_one _ _ _ _ _ hlt1) ?_ ?_
    · intro ρ w' ⟨p1, p2, p3⟩ ⟨hH, hC⟩ hn
      simp at hn
      obtain ⟨r, f26, hr⟩ := hn
      have hrl : r < es.length := by rw [hnn]; exact hr
      have hrow := HN4.out.hole hH hlt1
      have hm : es.getD r ezG ∈ es := by simp [List.getD, hrl]
      have hfr := (hrow.deps _ hm).1
      have hle := HF.out _ hm
      have hc : ∀ c, c < 7 → w'.cell? ⟨bs, r * 7 + c, none⟩ = (wrValsG (es.getD r ezG))[c]? := fun c hc => by
        have ho := hrow.own
        rw [hnn] at ho
        rw [ho.cellAt _ (by omega), valsG_at es r c hrl hc]
      have c0 := hc 0 (by omega)
      have c1 := hc 1 (by omega)
      have c2 := hc 2 (by omega)
      have c3 := hc 3 (by omega)
      have c4 := hc 4 (by omega)
      have c5 := hc 5 (by omega)
      have c6 := hc 6 (by omega)
      clear hc hrow hm
      generalize es.getD r ezG = y at *
      obtain ⟨⟨yk, yc, ys, yq, yv, yd, yx⟩, ya, yg, ycp⟩ := y
      simp [wrValsG] at c0 c1 c2 c3 c4 c5 c6
      go_simp
      exact ⟨curR_refl _ _ _ _ _, ⟨yk, yc, ys, yq, yv, yd, yx⟩, ya, yg, ycp, rfl, hle, hfr⟩
    iterate 1 (apply slot_eq; · (intro ρ w' ⟨p1, p2, p3⟩ ⟨hH, hC⟩ hn; simp at hn; go_simp; exact ⟨curR_refl _ _ _ _ _, rfl⟩))
    refine slot_end ?_
    rintro vs w5 ⟨hH, hC⟩ hF
    simp at hF
    obtain ⟨f2, ⟨y, ya, yg, ycp, f27, hle, hfr⟩, ⟨r26, f26, -⟩, ⟨r25, f25, -⟩, f24, f23, f22, f21, f20⟩ := hF
    obtain ⟨k, c, s, q, u, de, ds⟩ := y
    have HR5 := Lib.hid (HR4.out.hole hH (by omega))
    have HZ5 := Lib.hid (zero_hole hH HZ4.out (by omega))
    have HB5 : Hid (Below w.heap.size w w5) := Hole.below HB1.out (HH4.out.trans hH) (by omega) HB1.out.size
    have HD5 : Hid (IsDeps (setW w5 w.heap.size k c s q u de ya ds.length ycp) ya ds) := (hfr.setW (by omega) k c s q u de ya ds.length ycp).isDeps
    have HE5 : Hid (DrawnM (setW w5 w.heap.size k c s q u de ya ds.length ycp) w.heap.size (.slice (some ⟨g3, 0, none⟩) es3.length cp3) es3) := ⟨g3, cp3, rfl, by omega, HF3.out, (HR5.out.setW (by omega) _ _ _ _ _ _ _ _ _).mono (by omega)⟩
    have HG5 : Hid (Below w.heap.size w (setW w5 w.heap.size k c s q u de ya ds.length ycp)) := below_setW HB5.out (Nat.le_refl _) ..
    have HX5 := Lib.hid (setW_box HZ5.out k c s q u de ya ds.length ycp)
    obtain ⟨x0, x1, x2, x3, x4, x5, x6, xf, xl⟩ := HZ5.out
    have hle' : ds.length ≤ 10 := hle
    clear hH hC hfr hle HR4 HC4 HC5 HH4 HRS4 HN4 HZ4 HR5 HB5 HZ5
    simp only [List.take_succ_cons, List.take_zero, List.drop_succ_cons, List.drop_zero, putAll, f2, f27, f26, f25, f24, f23, f22, f21, f20]
    clear f2 f27 f26 f25 f24 f23 f22 f21 f20
    simp only [Act.put, List.setIfInBounds_toArray, List.set_cons_succ, List.set_cons_zero]
    go_wp2
    have y0 := HX5.out.c0
    have y1 := HX5.out.c1
    have y2 := HX5.out.c2
    have y3 := HX5.out.c3
    have y4 := HX5.out.c4
    have y5 := HX5.out.c5
    have y6 := HX5.out.c6
    unfold setW at *
    exact bodyPost_ret (v := .tuple #[.slice (some ⟨g3, 0, none⟩) es3.length cp3, wrV k c s q u de ya ds.length ycp]) (by simp [results, Try.results21, go_sem, y0, y1, y2, y3, y4, y5, y6]) rfl ⟨_, es3, ⟨k, c, s, q, u, de, ds⟩, _, ycp, rfl, HE5.out, hle', HD5.out, HG5.out⟩

end Go.Proofs.Ytfapebnilbdheab
