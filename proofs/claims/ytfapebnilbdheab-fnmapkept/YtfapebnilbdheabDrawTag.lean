/- The contract of DrawTagCmp. -/
import Derived.Test.YtfapebnilbdheabCurWrite
import Derived.RegionTactic
import Derived.BigRegion
import Derived.Deep.RegionHeld3
import Derived.Deep.DrawnRows
import Derived.WalkSpells
namespace Go.Proofs.Ytfapebnilbdheab
open Go.ChangeShapes Go.WideShapes Go.ChangeAt Go.RowKit Go.Joins
attribute [local go_sem ↓] Go.wp_at_zero Go.wp_at_succ

theorem Hole.belowOf {B c : Nat} {w0 w w' : World} (h : Hole B w w') (h0 : Below c w0 w) (hB : c ≤ B) (hc : c ≤ w.heap.size) : Below c w0 w' := Hole.below h0 h hB hc

theorem open_as (a : Option Addr) (len cap B : Nat) (w : World) (hB : w.heap.size = B) (h : Bytes w a len) (hl : len ≤ 1048576) :
    Calls Try.prog 29 #[.slice a len cap] w fun e w' => e = .returned (.pointer (some ⟨B, 0, none⟩)) ∧ Cur w' B a len cap 0 ∧ Below w.heap.size w w' := by
  subst hB
  exact open_any a len cap w h hl

theorem two_tags (w : World) (t : Nat) : TagBox ((w.alloc (.cells #[.int .i64 0, .int .i64 0, .int .i64 0] t)).alloc (.cells #[.int .i64 0, .int .i64 0, .int .i64 0] t)) w.heap.size 0 0 0 ∧ TagBox ((w.alloc (.cells #[.int .i64 0, .int .i64 0, .int .i64 0] t)).alloc (.cells #[.int .i64 0, .int .i64 0, .int .i64 0] t)) (w.heap.size + 1) 0 0 0 := by
  have h := TagBox.start (w.alloc (.cells #[.int .i64 0, .int .i64 0, .int .i64 0] t)) 0 0 0 t
  have e : (w.alloc (.cells #[.int .i64 0, .int .i64 0, .int .i64 0] t)).heap.size = w.heap.size + 1 := by simp
  rw [e] at h
  exact ⟨(TagBox.start w 0 0 0 t).hole (Hole.of_below (B := w.heap.size + 2) ((Below.refl _ _).alloc (Nat.le_refl _) _)) (by omega), h⟩

set_option maxRecDepth 100000 in
set_option maxHeartbeats 4000000 in
theorem drawTagCmp_any (a : Option Addr) (len cap : Nat) (w : World) (h : Bytes w a len) (hl : len ≤ 1048576) :
    Calls Try.prog 8 #[.slice a len cap] w fun e w' => ∃ c s q c' s' q' : Int, e = .returned (.tuple #[tagV c s q, tagV c' s' q']) ∧ Below w.heap.size w w' := by
  have HY : Hid (Bytes w a len) := h
  clear h
  go_enter Try.func8, Try.ntmps8
  go_wp2_with fail
  have HA : Hid (Below w.heap.size w ((w.alloc (.cells #[.int .i64 0, .int .i64 0, .int .i64 0] 25)).alloc (.cells #[.int .i64 0, .int .i64 0, .int .i64 0] 25))) := ((Below.refl _ _).alloc (Nat.le_refl _) _).alloc (by simp) _
  have HXY : Hid (TagBox ((w.alloc (.cells #[.int .i64 0, .int .i64 0, .int .i64 0] 25)).alloc (.cells #[.int .i64 0, .int .i64 0, .int .i64 0] 25)) w.heap.size 0 0 0 ∧ TagBox ((w.alloc (.cells #[.int .i64 0, .int .i64 0, .int .i64 0] 25)).alloc (.cells #[.int .i64 0, .int .i64 0, .int .i64 0] 25)) (w.heap.size + 1) 0 0 0) := two_tags w _
  refine (open_as _ _ _ (w.heap.size + 1 + 1) _ (by simp) (HY.out.below HA.out) hl).mono ?_
  rintro e w1 ⟨rfl, hc1, hb1⟩
  have HC1 : Hid (Cur w1 (w.heap.size + 1 + 1) a len cap 0) := hc1
  have HX1 : Hid (TagBox w1 w.heap.size 0 0 0) := HXY.out.1.hole (Hole.of_below (B := w.heap.size + 1 + 1) hb1) (by omega)
  have HY1 : Hid (TagBox w1 (w.heap.size + 1) 0 0 0) := HXY.out.2.hole (Hole.of_below (B := w.heap.size + 1 + 1) hb1) (by omega)
  have HB1 : Hid (Below w.heap.size w w1) := below_step HA.out HA.out.size hb1
  clear hc1 hb1 HXY HA
  go_wp2_with fail
  refine (tag_any _ a len cap 0 _ (by omega) HC1.out).mono ?_
  rintro e w2 ⟨c, s, q, rfl, hc2, hh2⟩
  have HC2 : Hid (Cur w2 (w.heap.size + 1 + 1) a len cap 9) := hc2
  have HX2 : Hid (TagBox w2 w.heap.size 0 0 0) := HX1.out.hole hh2 (by omega)
  have HY2 : Hid (TagBox w2 (w.heap.size + 1) 0 0 0) := HY1.out.hole hh2 (by omega)
  have HB2 : Hid (Below w.heap.size w w2) := hh2.belowOf HB1.out (by omega) HB1.out.size
  clear hc2 hh2 HC1 HX1 HY1 HB1
  have hz2 := HY2.out.lt
  have hzc := HC2.out.lt
  go_wp2_with fail
  have HA : Hid (Below w2.heap.size w2 (w2.alloc (.cells #[.int .i64 c, .int .i64 s, .int .i64 q] 25))) := (Below.refl _ _).alloc (Nat.le_refl _) _
  have HZ : Hid (TagBox (w2.alloc (.cells #[.int .i64 c, .int .i64 s, .int .i64 q] 25)) w2.heap.size c s q) := TagBox.start _ _ _ _ _
  refine (pick_any _ a len cap 9 5 _ (by omega) (by omega) (by omega) (HC2.out.below HA.out)).mono ?_
  rintro e w3 ⟨r3, rfl, q30, q31, hc3, hh3⟩
  have HC3 : Hid (Cur w3 (w.heap.size + 1 + 1) a len cap 10) := hc3.more (by omega)
  have HX3 : Hid (TagBox w3 w.heap.size 0 0 0) := (HX2.out.hole (Hole.of_below (B := w.heap.size + 1 + 1) HA.out) (by omega)).hole hh3 (by omega)
  have HY3 : Hid (TagBox w3 (w.heap.size + 1) 0 0 0) := (HY2.out.hole (Hole.of_below (B := w.heap.size + 1 + 1) HA.out) (by omega)).hole hh3 (by omega)
  have HZ3 : Hid (TagBox w3 w2.heap.size c s q) := HZ.out.hole hh3 (by omega)
  have HB3 : Hid (Below w.heap.size w w3) := hh3.belowOf (below_step HB2.out HB2.out.size HA.out) (by omega) (by have := HA.out.size; omega)
  clear hc3 hh3 HC2 HX2 HY2 HB2 HA HZ
  have x0 := HX3.out.c0
  have x1 := HX3.out.c1
  have x2 := HX3.out.c2
  have xf := HX3.out.fz
  have y0 := HY3.out.c0
  have y1 := HY3.out.c1
  have y2 := HY3.out.c2
  have yf := HY3.out.fz
  have z0 := HZ3.out.c0
  have z1 := HZ3.out.c1
  have z2 := HZ3.out.c2
  by_cases k0 : r3 = 0
  · subst k0
    go_wp2_with fail
    go_region
    go_wp2
    exact bodyPost_ret (v := .tuple #[tagV c s q, tagV c s q]) (by simp [results, Try.results8, go_sem, x0, x1, x2, y0, y1, y2]) rfl ⟨c, s, q, c, s, q, rfl, (((((((HB3.out.setCell (by simp) _).setCell (by simp) _).setCell (by simp) _).setCell (by simp) _).setCell (by simp) _).setCell (by simp) _).drew)⟩
  · have k0' : (r3 == 0) = false := by simp [k0]
    clear k0
    have HX3' : Hid (TagBox w3.drew w.heap.size 0 0 0) := HX3.out.hole (Hole.refl (w.heap.size + 1 + 1) w3).drew (by omega)
    have HY3' : Hid (TagBox w3.drew (w.heap.size + 1) 0 0 0) := HY3.out.hole (Hole.refl (w.heap.size + 1 + 1) w3).drew (by omega)
    have HZ3' : Hid (TagBox w3.drew w2.heap.size c s q) := HZ3.out.hole (Hole.refl (w.heap.size + 1 + 1) w3).drew (by omega)
    go_wp2_with fail
    go_region_with (go_at_call 30; go_must (refine (tag_any _ a len cap 10 _ (by omega) (HC3.out.below (Below.refl w3.heap.size w3).drew)).mono ?_); rintro e w4 ⟨c', s', q', rfl, hc4, hh4⟩; have HX4 := HX3'.out.hole hh4 (by omega); have HY4 := HY3'.out.hole hh4 (by omega); have HZ4 := HZ3'.out.hole hh4 (by omega); have HB4 : Hid (Below w.heap.size w w4) := hh4.belowOf HB3.out.drew (by omega) HB3.out.size; have u0 := HX4.c0; have u1 := HX4.c1; have u2 := HX4.c2; have uf := HX4.fz; have v0 := HY4.c0; have v1 := HY4.c1; have v2 := HY4.c2; have vf := HY4.fz; have t0 := HZ4.c0; have t1 := HZ4.c1; have t2 := HZ4.c2; clear HX4 HY4 HZ4 hc4 hh4)
    all_goals
      go_wp2
      exact bodyPost_ret (v := .tuple #[tagV c s q, tagV c' s' q']) (by simp [results, Try.results8, go_sem, u0, u1, u2, v0, v1, v2]) rfl ⟨c, s, q, c', s', q', rfl, ((((((HB4.out.setCell (by simp) _).setCell (by simp) _).setCell (by simp) _).setCell (by simp) _).setCell (by simp) _).setCell (by simp) _)⟩

end Go.Proofs.Ytfapebnilbdheab
