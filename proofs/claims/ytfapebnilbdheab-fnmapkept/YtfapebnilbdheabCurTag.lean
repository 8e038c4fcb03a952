/- The contracts of l01Open and of the cursor's tag. -/
import Derived.Test.YtfapebnilbdheabCur
namespace Go.Proofs.Ytfapebnilbdheab
open Go.ChangeShapes Go.WideShapes Go.ChangeAt Go.RowKit Go.Joins

/-- What a code that came in is: bytes in a block that was there. -/
def Bytes (w : World) (a : Option Addr) (len : Nat) : Prop :=
  len = 0 ∨ ∃ b o, a = some ⟨b, o, none⟩ ∧ b < w.heap.size ∧ ∀ i, i < len → ∃ z : Int, 0 ≤ z ∧ z ≤ 255 ∧ w.cell? ⟨b, o + i, none⟩ = some (.int .u8 z)

theorem Bytes.below {w w' : World} {a : Option Addr} {len : Nat} (h : Bytes w a len) (hb : Below w.heap.size w w') : Bytes w' a len := by
  rcases h with h | ⟨b, o, ha, hlt, hz⟩
  · exact .inl h
  · refine .inr ⟨b, o, ha, Nat.lt_of_lt_of_le hlt hb.size, fun i hi => ?_⟩
    obtain ⟨z, z0, z1, hc⟩ := hz i hi
    exact ⟨z, z0, z1, held_cell hb hc hlt⟩

theorem cur_start {w : World} {a : Option Addr} {len cap : Nat} (sd : Int) (t : Nat) (h : Bytes w a len) (hl : len ≤ 1048576) (s0 : 0 ≤ sd) (s1 : sd ≤ 65520) :
    Cur (w.alloc (.cells #[.slice a len cap, .int .i64 0, .int .i64 sd] t)) w.heap.size a len cap 0 := by
  refine ⟨0, sd, ⟨by simp, by simp [go_sem], by simp [go_sem], by simp [go_sem], fun o => by simp [go_sem], by omega, s0, s1⟩, by omega, ?_, hl⟩
  rcases h with h | ⟨b, o, ha, hlt, hz⟩
  · exact .inl h
  · refine .inr ⟨b, o, ha, hlt, fun i hi => ?_⟩
    obtain ⟨z, z0, z1, hc⟩ := hz i hi
    exact ⟨z, z0, z1, held_cell ((Below.refl _ _).alloc (Nat.le_refl _) _) hc hlt⟩

set_option maxHeartbeats 400000 in
theorem open_any (a : Option Addr) (len cap : Nat) (w : World) (h : Bytes w a len) (hl : len ≤ 1048576) :
    Calls Try.prog 29 #[.slice a len cap] w fun e w' => e = .returned (.pointer (some ⟨w.heap.size, 0, none⟩)) ∧ Cur w' w.heap.size a len cap 0 ∧ Below w.heap.size w w' := by
  have HB : Hid (Bytes w a len) := h
  clear h
  go_enter Try.func29, Try.ntmps29
  go_wp2
  go_ret
  exact ⟨rfl, cur_start _ _ HB.out hl (by omega) (by omega), (Below.refl _ _).alloc (Nat.le_refl _) _⟩

theorem TagBox.set0 {w : World} {b : Nat} {c s q : Int} (h : TagBox w b c s q) (x : Int) : TagBox (w.setCell ⟨b, 0, none⟩ (.int .i64 x)) b x s q :=
  ⟨by simpa [World.setCell] using h.lt, cell_set_same h.c0, cell_set_off h.c1 (by omega), cell_set_off h.c2 (by omega), fun o => by rw [World.frozen?_setCell]; exact h.fz o⟩

theorem TagBox.set1 {w : World} {b : Nat} {c s q : Int} (h : TagBox w b c s q) (x : Int) : TagBox (w.setCell ⟨b, 1, none⟩ (.int .i64 x)) b c x q :=
  ⟨by simpa [World.setCell] using h.lt, cell_set_off h.c0 (by omega), cell_set_same h.c1, cell_set_off h.c2 (by omega), fun o => by rw [World.frozen?_setCell]; exact h.fz o⟩

theorem TagBox.set2 {w : World} {b : Nat} {c s q : Int} (h : TagBox w b c s q) (x : Int) : TagBox (w.setCell ⟨b, 2, none⟩ (.int .i64 x)) b c s x :=
  ⟨by simpa [World.setCell] using h.lt, cell_set_off h.c0 (by omega), cell_set_off h.c1 (by omega), cell_set_same h.c2, fun o => by rw [World.frozen?_setCell]; exact h.fz o⟩

/-- How a tag's drawing ends, out of any world in which both boxes stand. -/
theorem tag_end {B R : Nat} {a : Option Addr} {len cap : Nat} {N : Int} {w w' : World} {c s q : Int} (hR : w.heap.size ≤ R) (hB : B < w.heap.size) (hc : Cur w' B a len cap N) (hh : Hole B w w') :
    Cur (((w'.setCell ⟨R, 0, none⟩ (.int .i64 c)).setCell ⟨R, 1, none⟩ (.int .i64 s)).setCell ⟨R, 2, none⟩ (.int .i64 q)) B a len cap N ∧ Hole B w (((w'.setCell ⟨R, 0, none⟩ (.int .i64 c)).setCell ⟨R, 1, none⟩ (.int .i64 s)).setCell ⟨R, 2, none⟩ (.int .i64 q)) :=
  ⟨((hc.setOther (by omega) 0 _).setOther (by omega) 1 _).setOther (by omega) 2 _, ((hh.setNew hR 0 _).setNew hR 1 _).setNew hR 2 _⟩

set_option maxHeartbeats 2000000 in
theorem tag_any (B : Nat) (a : Option Addr) (len cap : Nat) (N : Int) (w : World) (hN : N ≤ 10000) (h : Cur w B a len cap N) :
    Calls Try.prog 30 #[.pointer (some ⟨B, 0, none⟩)] w fun e w' => ∃ c s q : Int, e = .returned (tagV c s q) ∧ Cur w' B a len cap (N + 9) ∧ Hole B w w' := by
  have HC : Hid (Cur w B a len cap N) := h
  have hB := h.lt
  clear h
  go_enter Try.func30, Try.ntmps30
  go_wp2_with fail
  have HRb : Hid (TagBox (w.alloc (.cells #[.int .i64 0, .int .i64 0, .int .i64 0] 25)) w.heap.size 0 0 0) := TagBox.start _ _ _ _ _
  have HA : Hid (Below w.heap.size w (w.alloc (.cells #[.int .i64 0, .int .i64 0, .int .i64 0] 25))) := (Below.refl _ _).alloc (Nat.le_refl _) _
  refine (pick_any B a len cap N 12 _ (by omega) (by omega) (by omega) (HC.out.below HA.out)).mono ?_
  rintro e w1 ⟨r1, rfl, q10, q11, hc1, hh1⟩
  have HC1 : Hid (Cur w1 B a len cap (N + 1)) := hc1
  have HR1 : Hid (TagBox w1 w.heap.size 0 0 0) := HRb.out.hole hh1 (by omega)
  have HH1 : Hid (Hole B w w1) := (Hole.of_below HA.out).trans hh1
  clear hc1 hh1 HRb HA
  go_wp2_with fail
  refine (pick_any B a len cap (N + 1) 4 _ (by omega) (by omega) (by omega) HC1.out).mono ?_
  rintro e w2 ⟨r2, rfl, q20, q21, hc2, hh2⟩
  have HC2 : Hid (Cur w2 B a len cap (N + 2)) := hc2.more (by omega)
  have HR2 : Hid (TagBox w2 w.heap.size 0 0 0) := HR1.out.hole hh2 (by omega)
  have HH2 : Hid (Hole B w w2) := HH1.out.trans hh2
  clear hc2 hh2 HC1 HR1 HH1
  go_wp2_with fail
  refine (pick_any B a len cap (N + 2) 6 _ (by omega) (by omega) (by omega) HC2.out).mono ?_
  rintro e w3 ⟨r3, rfl, q30, q31, hc3, hh3⟩
  have HC3 : Hid (Cur w3 B a len cap (N + 3)) := hc3.more (by omega)
  have HR3 : Hid (TagBox w3 w.heap.size 0 0 0) := HR2.out.hole hh3 (by omega)
  have HH3 : Hid (Hole B w w3) := HH2.out.trans hh3
  clear hc3 hh3 HC2 HR2 HH2
  have hz3 := HR3.out.lt
  go_wp2_with fail
  have HA : Hid (Below w3.heap.size w3 (w3.alloc (.cells #[.int .i64 (1 + r1), .int .i64 r2, .int .i64 (1 + r3)] 25))) := (Below.refl _ _).alloc (Nat.le_refl _) _
  have HT : Hid (TagBox (w3.alloc (.cells #[.int .i64 (1 + r1), .int .i64 r2, .int .i64 (1 + r3)] 25)) w3.heap.size (1 + r1) r2 (1 + r3)) := TagBox.start _ _ _ _ _
  refine (once_any B a len cap (N + 3) 14 _ (by omega) (by omega) (by omega) (HC3.out.below HA.out)).mono ?_
  rintro e w4 ⟨b4, rfl, hc4, hh4⟩
  have HC4 : Hid (Cur w4 B a len cap (N + 4)) := hc4.more (by omega)
  have HR4 : Hid (TagBox w4 w.heap.size 0 0 0) := (HR3.out.hole (Hole.of_below (B := B) HA.out) (by omega)).hole hh4 (by omega)
  have HT4 : Hid (TagBox w4 w3.heap.size (1 + r1) r2 (1 + r3)) := HT.out.hole hh4 (by omega)
  have HH4 : Hid (Hole B w w4) := (HH3.out.trans (Hole.of_below HA.out)).trans hh4
  clear hc4 hh4 HC3 HR3 HH3 HA HT
  generalize 1 + r1 = c at *
  generalize 1 + r3 = q at *
  cases b4
  · have x0 := HR4.out.c0
    have x1 := HR4.out.c1
    have x2 := HR4.out.c2
    have xf := HR4.out.fz
    have y0 := HT4.out.c0
    have y1 := HT4.out.c1
    have y2 := HT4.out.c2
    go_wp2
    have HE := tag_end (R := w.heap.size) (c := c) (s := r2) (q := q) (Nat.le_refl _) hB (HC4.out.more (by omega : N + 4 ≤ N + 9)) HH4.out
    exact bodyPost_ret (v := tagV c r2 q) (by simp [results, Try.results30, go_sem, x0, x1, x2]) rfl ⟨c, r2, q, rfl, HE.1, HE.2⟩
  · have xne : w3.heap.size ≠ w.heap.size := by omega
    go_wp2_with fail
    refine (pick_any B a len cap (N + 4) 3 _ (by omega) (by omega) (by omega) HC4.out).mono ?_
    rintro e w5 ⟨r5, rfl, q50, q51, hc5, hh5⟩
    have HC5 : Hid (Cur w5 B a len cap (N + 5)) := hc5.more (by omega)
    have HR5 : Hid (TagBox w5 w.heap.size 0 0 0) := HR4.out.hole hh5 (by omega)
    have HT5 : Hid (TagBox w5 w3.heap.size c r2 q) := HT4.out.hole hh5 (by omega)
    have HH5 : Hid (Hole B w w5) := HH4.out.trans hh5
    clear hc5 hh5 HC4 HR4 HT4 HH4
    by_cases k0 : r5 = 0
    · subst k0
      go_wp2_with fail
      refine (raw_any B a len cap (N + 5) _ (by omega) HC5.out).mono ?_
      rintro e w6 ⟨v, rfl, hc6, hh6⟩
      have HC6 : Hid (Cur w6 B a len cap (N + 7)) := hc6.more (by omega)
      have HR6 : Hid (TagBox w6 w.heap.size 0 0 0) := HR5.out.hole hh6 (by omega)
      have HT6 : Hid (TagBox w6 w3.heap.size c r2 q) := HT5.out.hole hh6 (by omega)
      have HH6 : Hid (Hole B w w6) := HH5.out.trans hh6
      clear hc6 hh6 HC5 HR5 HT5 HH5
      go_wp2_with fail
      have HA : Hid (Below w6.heap.size w6 (w6.alloc (.cells ((([v, 100000, 100001] : List Int).map (Value.int .i64)).toArray) 3))) := (Below.refl _ _).alloc (Nat.le_refl _) _
      refine (pick_any B a len cap (N + 7) 3 _ (by omega) (by omega) (by omega) (HC6.out.below HA.out)).mono ?_
      rintro e w7 ⟨r7, rfl, q70, q71, hc7, hh7⟩
      have hB6 := HC6.out.lt
      have hcell : w7.cell? ⟨w6.heap.size, r7.toNat, none⟩ = some (.int .i64 _) := (hh7.cell (by simp) (by omega)).trans (ints_cell w6 [v, 100000, 100001] _ r7.toNat (by simp; omega))
      generalize List.getD [v, 100000, 100001] r7.toNat 0 = u at hcell
      have HC7 : Hid (Cur w7 B a len cap (N + 8)) := hc7.more (by omega)
      have HR7 : Hid (TagBox w7 w.heap.size 0 0 0) := (HR6.out.hole (Hole.of_below (B := B) HA.out) (by omega)).hole hh7 (by omega)
      have HT7 : Hid (TagBox w7 w3.heap.size c r2 q) := (HT6.out.hole (Hole.of_below (B := B) HA.out) (by omega)).hole hh7 (by omega)
      have HH7 : Hid (Hole B w w7) := (HH6.out.trans (Hole.of_below HA.out)).trans hh7
      clear hc7 hh7 HC6 HR6 HT6 HH6 HA
      have x0 := HR7.out.c0
      have x1 := HR7.out.c1
      have x2 := HR7.out.c2
      have xf := HR7.out.fz
      have y0 := HT7.out.c0
      have y1 := HT7.out.c1
      have y2 := HT7.out.c2
      have yf := HT7.out.fz
      go_wp2
      have HE := tag_end (R := w.heap.size) (c := u) (s := r2) (q := q) (Nat.le_refl _) hB ((HC7.out.setOther (R := w3.heap.size) (by omega) 0 (.int .i64 u)).more (by omega : N + 8 ≤ N + 9)) (HH7.out.setNew (R := w3.heap.size) (by omega) 0 (.int .i64 u))
      exact bodyPost_ret (v := tagV u r2 q) (by simp [results, Try.results30, go_sem, x0, x1, x2]) rfl ⟨u, r2, q, rfl, HE.1, HE.2⟩
    · by_cases k1 : r5 = 1
      · subst k1
        go_wp2_with fail
        refine (raw_any B a len cap (N + 5) _ (by omega) HC5.out).mono ?_
        rintro e w6 ⟨v, rfl, hc6, hh6⟩
        have HC6 : Hid (Cur w6 B a len cap (N + 7)) := hc6.more (by omega)
        have HR6 : Hid (TagBox w6 w.heap.size 0 0 0) := HR5.out.hole hh6 (by omega)
        have HT6 : Hid (TagBox w6 w3.heap.size c r2 q) := HT5.out.hole hh6 (by omega)
        have HH6 : Hid (Hole B w w6) := HH5.out.trans hh6
        clear hc6 hh6 HC5 HR5 HT5 HH5
        have x0 := HR6.out.c0
        have x1 := HR6.out.c1
        have x2 := HR6.out.c2
        have xf := HR6.out.fz
        have y0 := HT6.out.c0
        have y1 := HT6.out.c1
        have y2 := HT6.out.c2
        have yf := HT6.out.fz
        go_wp2
        have HE := tag_end (R := w.heap.size) (c := c) (s := v) (q := q) (Nat.le_refl _) hB ((HC6.out.setOther (R := w3.heap.size) (by omega) 1 (.int .i64 v)).more (by omega : N + 7 ≤ N + 9)) (HH6.out.setNew (R := w3.heap.size) (by omega) 1 (.int .i64 v))
        exact bodyPost_ret (v := tagV c v q) (by simp [results, Try.results30, go_sem, x0, x1, x2]) rfl ⟨c, v, q, rfl, HE.1, HE.2⟩
      · have k0' : (r5 == 0) = false := by simp [k0]
        have k1' : (r5 == 1) = false := by simp [k1]
        clear k0 k1
        go_wp2_with fail
        refine (raw_any B a len cap (N + 5) _ (by omega) HC5.out).mono ?_
        rintro e w6 ⟨v, rfl, hc6, hh6⟩
        have HC6 : Hid (Cur w6 B a len cap (N + 7)) := hc6.more (by omega)
        have HR6 : Hid (TagBox w6 w.heap.size 0 0 0) := HR5.out.hole hh6 (by omega)
        have HT6 : Hid (TagBox w6 w3.heap.size c r2 q) := HT5.out.hole hh6 (by omega)
        have HH6 : Hid (Hole B w w6) := HH5.out.trans hh6
        clear hc6 hh6 HC5 HR5 HT5 HH5
        go_wp2_with fail
        have HA : Hid (Below w6.heap.size w6 (w6.alloc (.cells ((([v, 1000, 1001] : List Int).map (Value.int .i64)).toArray) 3))) := (Below.refl _ _).alloc (Nat.le_refl _) _
        refine (pick_any B a len cap (N + 7) 3 _ (by omega) (by omega) (by omega) (HC6.out.below HA.out)).mono ?_
        rintro e w7 ⟨r7, rfl, q70, q71, hc7, hh7⟩
        have hB6 := HC6.out.lt
        have hcell : w7.cell? ⟨w6.heap.size, r7.toNat, none⟩ = some (.int .i64 _) := (hh7.cell (by simp) (by omega)).trans (ints_cell w6 [v, 1000, 1001] _ r7.toNat (by simp; omega))
        generalize List.getD [v, 1000, 1001] r7.toNat 0 = u at hcell
        have HC7 : Hid (Cur w7 B a len cap (N + 8)) := hc7.more (by omega)
        have HR7 : Hid (TagBox w7 w.heap.size 0 0 0) := (HR6.out.hole (Hole.of_below (B := B) HA.out) (by omega)).hole hh7 (by omega)
        have HT7 : Hid (TagBox w7 w3.heap.size c r2 q) := (HT6.out.hole (Hole.of_below (B := B) HA.out) (by omega)).hole hh7 (by omega)
        have HH7 : Hid (Hole B w w7) := (HH6.out.trans (Hole.of_below HA.out)).trans hh7
        clear hc7 hh7 HC6 HR6 HT6 HH6 HA
        have x0 := HR7.out.c0
        have x1 := HR7.out.c1
        have x2 := HR7.out.c2
        have xf := HR7.out.fz
        have y0 := HT7.out.c0
        have y1 := HT7.out.c1
        have y2 := HT7.out.c2
        have yf := HT7.out.fz
        go_wp2
        have HE := tag_end (R := w.heap.size) (c := c) (s := r2) (q := u) (Nat.le_refl _) hB ((HC7.out.setOther (R := w3.heap.size) (by omega) 2 (.int .i64 u)).more (by omega : N + 8 ≤ N + 9)) (HH7.out.setNew (R := w3.heap.size) (by omega) 2 (.int .i64 u))
        exact bodyPost_ret (v := tagV c r2 u) (by simp [results, Try.results30, go_sem, x0, x1, x2]) rfl ⟨c, r2, u, rfl, HE.1, HE.2⟩

end Go.Proofs.Ytfapebnilbdheab
