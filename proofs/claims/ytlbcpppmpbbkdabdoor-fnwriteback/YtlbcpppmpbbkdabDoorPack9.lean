import Derived.Test.YtlbcpppmpbbkdabDoorPack4
import Derived.Test.YtlbcpppmpbbkdabDoorPack1
import Derived.Deep.AppendLies
import Derived.OwnWalk
import Derived.Test.YtlbcpppmpbbkdabDoorPack2
import Derived.RegionTactic
import Derived.BigRegion
import Derived.Deep.RegionHeld3
import Derived.Deep.DrawnRows
import Derived.WalkSpells
/- The contracts of l01Open and of the cursor's tag. -/
namespace Go.Proofs.YtlbcpppmpbbkdabDoor
open Go.ChangeShapes Go.WideShapes Go.ChangeAt Go.RowKit Go.Joins

/-- What a code that came in is: bytes in a block that was there. -/
def Bytes (w : World) (a : Option Addr) (len : Nat) : Prop :=
  len = 0 ∨ ∃ b o, a = some ⟨b, o, none⟩ ∧ b < w.heap.size ∧ ∀ i, i < len → ∃ z : Int, 0 ≤ z ∧ z ≤ 255 ∧ w.cell? ⟨b, o + i, none⟩ = some (.int .u8 z)

theorem Bytes.below {w w' : World} {a : Option Addr} {len : Nat} (h : Bytes w a len) (hb : Below w.heap.size w w') : Bytes w' a len := by
  rcases h with h | ⟨b, o, ha, hlt, hz⟩
  · exact .inl h
  · refine .inr ⟨b, o, ha, Nat.lt_of_lt_of_le hlt hb.size, fun i hi => ?_⟩
    obtain ⟨z, z0, z1, hc⟩ := hz i hi
    exact ⟨z, z0, z1, held_cell hb hc hlt⟩

theorem cur_start {w : World} {a : Option Addr} {len cap : Nat} (sd : Int) (t : Nat) (h : Bytes w a len) (hl : len ≤ 1048576) (s0 : 0 ≤ sd) (s1 : sd ≤ 65520) :
    Cur (w.alloc (.cells #[.slice a len cap, .int .i64 0, .int .i64 sd] t)) w.heap.size a len cap 0 := by
  refine ⟨0, sd, ⟨by simp, by simp [go_sem], by simp [go_sem], by simp [go_sem], fun o => by simp [go_sem], by omega, s0, s1⟩, by omega, ?_, hl⟩
  rcases h with h | ⟨b, o, ha, hlt, hz⟩
  · exact .inl h
  · refine .inr ⟨b, o, ha, hlt, fun i hi => ?_⟩
    obtain ⟨z, z0, z1, hc⟩ := hz i hi
    exact ⟨z, z0, z1, held_cell ((Below.refl _ _).alloc (Nat.le_refl _) _) hc hlt⟩

set_option maxHeartbeats 400000 in
theorem open_any (a : Option Addr) (len cap : Nat) (w : World) (h : Bytes w a len) (hl : len ≤ 1048576) :
    Calls Tryd.prog 13 #[.slice a len cap] w fun e w' => e = .returned (.pointer (some ⟨w.heap.size, 0, none⟩)) ∧ Cur w' w.heap.size a len cap 0 ∧ Below w.heap.size w w' := by
  have HB : Hid (Bytes w a len) := h
  clear h
  go_enter Tryd.func13, Tryd.ntmps13
  go_wp2
  go_ret
  exact ⟨rfl, cur_start _ _ HB.out hl (by omega) (by omega), (Below.refl _ _).alloc (Nat.le_refl _) _⟩

theorem TagBox.set0 {w : World} {b : Nat} {c s q : Int} (h : TagBox w b c s q) (x : Int) : TagBox (w.setCell ⟨b, 0, none⟩ (.int .i64 x)) b x s q :=
  ⟨by simpa [World.setCell] using h.lt, cell_set_same h.c0, cell_set_off h.c1 (by omega), cell_set_off h.c2 (by omega), fun o => by rw [World.frozen?_setCell]; exact h.fz o⟩

theorem TagBox.set1 {w : World} {b : Nat} {c s q : Int} (h : TagBox w b c s q) (x : Int) : TagBox (w.setCell ⟨b, 1, none⟩ (.int .i64 x)) b c x q :=
  ⟨by simpa [World.setCell] using h.lt, cell_set_off h.c0 (by omega), cell_set_same h.c1, cell_set_off h.c2 (by omega), fun o => by rw [World.frozen?_setCell]; exact h.fz o⟩

theorem TagBox.set2 {w : World} {b : Nat} {c s q : Int} (h : TagBox w b c s q) (x : Int) : TagBox (w.setCell ⟨b, 2, none⟩ (.int .i64 x)) b c s x :=
  ⟨by simpa [World.setCell] using h.lt, cell_set_off h.c0 (by omega), cell_set_off h.c1 (by omega), cell_set_same h.c2, fun o => by rw [World.frozen?_setCell]; exact h.fz o⟩

/-- How a tag's drawing ends, out of any world in which both boxes stand. -/
theorem tag_end {B R : Nat} {a : Option Addr} {len cap : Nat} {N : Int} {w w' : World} {c s q : Int} (hR : w.heap.size ≤ R) (hB : B < w.heap.size) (hc : Cur w' B a len cap N) (hh : Hole B w w') :
    Cur (((w'.setCell ⟨R, 0, none⟩ (.int .i64 c)).setCell ⟨R, 1, none⟩ (.int .i64 s)).setCell ⟨R, 2, none⟩ (.int .i64 q)) B a len cap N ∧ Hole B w (((w'.setCell ⟨R, 0, none⟩ (.int .i64 c)).setCell ⟨R, 1, none⟩ (.int .i64 s)).setCell ⟨R, 2, none⟩ (.int .i64 q)) :=
  ⟨((hc.setOther (by omega) 0 _).setOther (by omega) 1 _).setOther (by omega) 2 _, ((hh.setNew hR 0 _).setNew hR 1 _).setNew hR 2 _⟩

set_option maxHeartbeats 2000000 in
theorem tag_any (B : Nat) (a : Option Addr) (len cap : Nat) (N : Int) (w : World) (hN : N ≤ 10000) (h : Cur w B a len cap N) :
    Calls Tryd.prog 37 #[.pointer (some ⟨B, 0, none⟩)] w fun e w' => ∃ c s q : Int, e = .returned (tagV c s q) ∧ Cur w' B a len cap (N + 9) ∧ Hole B w w' := by
  have HC : Hid (Cur w B a len cap N) := h
  have hB := h.lt
  clear h
  go_enter Tryd.func37, Tryd.ntmps37
  go_wp2_with fail
  have HRb : Hid (TagBox (w.alloc (.cells #[.int .i64 0, .int .i64 0, .int .i64 0] 25)) w.heap.size 0 0 0) := TagBox.start _ _ _ _ _
  have HA : Hid (Below w.heap.size w (w.alloc (.cells #[.int .i64 0, .int .i64 0, .int .i64 0] 25))) := (Below.refl _ _).alloc (Nat.le_refl _) _
  refine (pick_any B a len cap N 12 _ (by omega) (by omega) (by omega) (HC.out.below HA.out)).mono ?_
  rintro e w1 ⟨r1, rfl, q10, q11, hc1, hh1⟩
  have HC1 : Hid (Cur w1 B a len cap (N + 1)) := hc1
  have HR1 : Hid (TagBox w1 w.heap.size 0 0 0) := HRb.out.hole hh1 (by omega)
  have HH1 : Hid (Hole B w w1) := (Hole.of_below HA.out).trans hh1
  clear hc1 hh1 HRb HA
  go_wp2_with fail
  refine (pick_any B a len cap (N + 1) 4 _ (by omega) (by omega) (by omega) HC1.out).mono ?_
  rintro e w2 ⟨r2, rfl, q20, q21, hc2, hh2⟩
  have HC2 : Hid (Cur w2 B a len cap (N + 2)) := hc2.more (by omega)
  have HR2 : Hid (TagBox w2 w.heap.size 0 0 0) := HR1.out.hole hh2 (by omega)
  have HH2 : Hid (Hole B w w2) := HH1.out.trans hh2
  clear hc2 hh2 HC1 HR1 HH1
  go_wp2_with fail
  refine (pick_any B a len cap (N + 2) 6 _ (by omega) (by omega) (by omega) HC2.out).mono ?_
  rintro e w3 ⟨r3, rfl, q30, q31, hc3, hh3⟩
  have HC3 : Hid (Cur w3 B a len cap (N + 3)) := hc3.more (by omega)
  have HR3 : Hid (TagBox w3 w.heap.size 0 0 0) := HR2.out.hole hh3 (by omega)
  have HH3 : Hid (Hole B w w3) := HH2.out.trans hh3
  clear hc3 hh3 HC2 HR2 HH2
  have hz3 := HR3.out.lt
  go_wp2_with fail
  have HA : Hid (Below w3.heap.size w3 (w3.alloc (.cells #[.int .i64 (1 + r1), .int .i64 r2, .int .i64 (1 + r3)] 25))) := (Below.refl _ _).alloc (Nat.le_refl _) _
  have HT : Hid (TagBox (w3.alloc (.cells #[.int .i64 (1 + r1), .int .i64 r2, .int .i64 (1 + r3)] 25)) w3.heap.size (1 + r1) r2 (1 + r3)) := TagBox.start _ _ _ _ _
  refine (once_any B a len cap (N + 3) 14 _ (by omega) (by omega) (by omega) (HC3.out.below HA.out)).mono ?_
  rintro e w4 ⟨b4, rfl, hc4, hh4⟩
  have HC4 : Hid (Cur w4 B a len cap (N + 4)) := hc4.more (by omega)
  have HR4 : Hid (TagBox w4 w.heap.size 0 0 0) := (HR3.out.hole (Hole.of_below (B := B) HA.out) (by omega)).hole hh4 (by omega)
  have HT4 : Hid (TagBox w4 w3.heap.size (1 + r1) r2 (1 + r3)) := HT.out.hole hh4 (by omega)
  have HH4 : Hid (Hole B w w4) := (HH3.out.trans (Hole.of_below HA.out)).trans hh4
  clear hc4 hh4 HC3 HR3 HH3 HA HT
  generalize 1 + r1 = c at *
  generalize 1 + r3 = q at *
  cases b4
  · have x0 := HR4.out.c0
    have x1 := HR4.out.c1
    have x2 := HR4.out.c2
    have xf := HR4.out.fz
    have y0 := HT4.out.c0
    have y1 := HT4.out.c1
    have y2 := HT4.out.c2
    go_wp2
    have HE := tag_end (R := w.heap.size) (c := c) (s := r2) (q := q) (Nat.le_refl _) hB (HC4.out.more (by omega : N + 4 ≤ N + 9)) HH4.out
    exact bodyPost_ret (v := tagV c r2 q) (by simp [results, Tryd.results37, go_sem, x0, x1, x2]) rfl ⟨c, r2, q, rfl, HE.1, HE.2⟩
  · have xne : w3.heap.size ≠ w.heap.size := by omega
    go_wp2_with fail
    refine (pick_any B a len cap (N + 4) 3 _ (by omega) (by omega) (by omega) HC4.out).mono ?_
    rintro e w5 ⟨r5, rfl, q50, q51, hc5, hh5⟩
    have HC5 : Hid (Cur w5 B a len cap (N + 5)) := hc5.more (by omega)
    have HR5 : Hid (TagBox w5 w.heap.size 0 0 0) := HR4.out.hole hh5 (by omega)
    have HT5 : Hid (TagBox w5 w3.heap.size c r2 q) := HT4.out.hole hh5 (by omega)
    have HH5 : Hid (Hole B w w5) := HH4.out.trans hh5
    clear hc5 hh5 HC4 HR4 HT4 HH4
    by_cases k0 : r5 = 0
    · subst k0
      go_wp2_with fail
      refine (raw_any B a len cap (N + 5) _ (by omega) HC5.out).mono ?_
      rintro e w6 ⟨v, rfl, hc6, hh6⟩
      have HC6 : Hid (Cur w6 B a len cap (N + 7)) := hc6.more (by omega)
      have HR6 : Hid (TagBox w6 w.heap.size 0 0 0) := HR5.out.hole hh6 (by omega)
      have HT6 : Hid (TagBox w6 w3.heap.size c r2 q) := HT5.out.hole hh6 (by omega)
      have HH6 : Hid (Hole B w w6) := HH5.out.trans hh6
      clear hc6 hh6 HC5 HR5 HT5 HH5
      go_wp2_with fail
      have HA : Hid (Below w6.heap.size w6 (w6.alloc (.cells ((([v, 100000, 100001] : List Int).map (Value.int .i64)).toArray) 3))) := (Below.refl _ _).alloc (Nat.le_refl _) _
      refine (pick_any B a len cap (N + 7) 3 _ (by omega) (by omega) (by omega) (HC6.out.below HA.out)).mono ?_
      rintro e w7 ⟨r7, rfl, q70, q71, hc7, hh7⟩
      have hB6 := HC6.out.lt
      have hcell : w7.cell? ⟨w6.heap.size, r7.toNat, none⟩ = some (.int .i64 _) := (hh7.cell (by simp) (by omega)).trans (ints_cell w6 [v, 100000, 100001] _ r7.toNat (by simp; omega))
      generalize List.getD [v, 100000, 100001] r7.toNat 0 = u at hcell
      have HC7 : Hid (Cur w7 B a len cap (N + 8)) := hc7.more (by omega)
      have HR7 : Hid (TagBox w7 w.heap.size 0 0 0) := (HR6.out.hole (Hole.of_below (B := B) HA.out) (by omega)).hole hh7 (by omega)
      have HT7 : Hid (TagBox w7 w3.heap.size c r2 q) := (HT6.out.hole (Hole.of_below (B := B) HA.out) (by omega)).hole hh7 (by omega)
      have HH7 : Hid (Hole B w w7) := (HH6.out.trans (Hole.of_below HA.out)).trans hh7
      clear hc7 hh7 HC6 HR6 HT6 HH6 HA
      have x0 := HR7.out.c0
      have x1 := HR7.out.c1
      have x2 := HR7.out.c2
      have xf := HR7.out.fz
      have y0 := HT7.out.c0
      have y1 := HT7.out.c1
      have y2 := HT7.out.c2
      have yf := HT7.out.fz
      go_wp2
      have HE := tag_end (R := w.heap.size) (c := u) (s := r2) (q := q) (Nat.le_refl _) hB ((HC7.out.setOther (R := w3.heap.size) (by omega) 0 (.int .i64 u)).more (by omega : N + 8 ≤ N + 9)) (HH7.out.setNew (R := w3.heap.size) (by omega) 0 (.int .i64 u))
      exact bodyPost_ret (v := tagV u r2 q) (by simp [results, Tryd.results37, go_sem, x0, x1, x2]) rfl ⟨u, r2, q, rfl, HE.1, HE.2⟩
    · by_cases k1 : r5 = 1
      · subst k1
        go_wp2_with fail
        refine (raw_any B a len cap (N + 5) _ (by omega) HC5.out).mono ?_
        rintro e w6 ⟨v, rfl, hc6, hh6⟩
        have HC6 : Hid (Cur w6 B a len cap (N + 7)) := hc6.more (by omega)
        have HR6 : Hid (TagBox w6 w.heap.size 0 0 0) := HR5.out.hole hh6 (by omega)
        have HT6 : Hid (TagBox w6 w3.heap.size c r2 q) := HT5.out.hole hh6 (by omega)
        have HH6 : Hid (Hole B w w6) := HH5.out.trans hh6
        clear hc6 hh6 HC5 HR5 HT5 HH5
        have x0 := HR6.out.c0
        have x1 := HR6.out.c1
        have x2 := HR6.out.c2
        have xf := HR6.out.fz
        have y0 := HT6.out.c0
        have y1 := HT6.out.c1
        have y2 := HT6.out.c2
        have yf := HT6.out.fz
        go_wp2
        have HE := tag_end (R := w.heap.size) (c := c) (s := v) (q := q) (Nat.le_refl _) hB ((HC6.out.setOther (R := w3.heap.size) (by omega) 1 (.int .i64 v)).more (by omega : N + 7 ≤ N + 9)) (HH6.out.setNew (R := w3.heap.size) (by omega) 1 (.int .i64 v))
        exact bodyPost_ret (v := tagV c v q) (by simp [results, Tryd.results37, go_sem, x0, x1, x2]) rfl ⟨c, v, q, rfl, HE.1, HE.2⟩
      · have k0' : (r5 == 0) = false := by simp [k0]
        have k1' : (r5 == 1) = false := by simp [k1]
        clear k0 k1
        go_wp2_with fail
        refine (raw_any B a len cap (N + 5) _ (by omega) HC5.out).mono ?_
        rintro e w6 ⟨v, rfl, hc6, hh6⟩
        have HC6 : Hid (Cur w6 B a len cap (N + 7)) := hc6.more (by omega)
        have HR6 : Hid (TagBox w6 w.heap.size 0 0 0) := HR5.out.hole hh6 (by omega)
        have HT6 : Hid (TagBox w6 w3.heap.size c r2 q) := HT5.out.hole hh6 (by omega)
        have HH6 : Hid (Hole B w w6) := HH5.out.trans hh6
        clear hc6 hh6 HC5 HR5 HT5 HH5
        go_wp2_with fail
        have HA : Hid (Below w6.heap.size w6 (w6.alloc (.cells ((([v, 1000, 1001] : List Int).map (Value.int .i64)).toArray) 3))) := (Below.refl _ _).alloc (Nat.le_refl _) _
        refine (pick_any B a len cap (N + 7) 3 _ (by omega) (by omega) (by omega) (HC6.out.below HA.out)).mono ?_
        rintro e w7 ⟨r7, rfl, q70, q71, hc7, hh7⟩
        have hB6 := HC6.out.lt
        have hcell : w7.cell? ⟨w6.heap.size, r7.toNat, none⟩ = some (.int .i64 _) := (hh7.cell (by simp) (by omega)).trans (ints_cell w6 [v, 1000, 1001] _ r7.toNat (by simp; omega))
        generalize List.getD [v, 1000, 1001] r7.toNat 0 = u at hcell
        have HC7 : Hid (Cur w7 B a len cap (N + 8)) := hc7.more (by omega)
        have HR7 : Hid (TagBox w7 w.heap.size 0 0 0) := (HR6.out.hole (Hole.of_below (B := B) HA.out) (by omega)).hole hh7 (by omega)
        have HT7 : Hid (TagBox w7 w3.heap.size c r2 q) := (HT6.out.hole (Hole.of_below (B := B) HA.out) (by omega)).hole hh7 (by omega)
        have HH7 : Hid (Hole B w w7) := (HH6.out.trans (Hole.of_below HA.out)).trans hh7
        clear hc7 hh7 HC6 HR6 HT6 HH6 HA
        have x0 := HR7.out.c0
        have x1 := HR7.out.c1
        have x2 := HR7.out.c2
        have xf := HR7.out.fz
        have y0 := HT7.out.c0
        have y1 := HT7.out.c1
        have y2 := HT7.out.c2
        have yf := HT7.out.fz
        go_wp2
        have HE := tag_end (R := w.heap.size) (c := c) (s := r2) (q := u) (Nat.le_refl _) hB ((HC7.out.setOther (R := w3.heap.size) (by omega) 2 (.int .i64 u)).more (by omega : N + 8 ≤ N + 9)) (HH7.out.setNew (R := w3.heap.size) (by omega) 2 (.int .i64 u))
        exact bodyPost_ret (v := tagV c r2 u) (by simp [results, Tryd.results37, go_sem, x0, x1, x2]) rfl ⟨c, r2, u, rfl, HE.1, HE.2⟩

end Go.Proofs.YtlbcpppmpbbkdabDoor

/- The contract of the cursor's deps. -/
namespace Go.Proofs.YtlbcpppmpbbkdabDoor
open Go.ChangeShapes Go.WideShapes Go.ChangeAt Go.RowKit Go.Joins

theorem Cur.belowAt {w w' : World} {B c : Nat} {a : Option Addr} {len cap : Nat} {N : Int} (h : Cur w B a len cap N) (hb : Below c w w') (hB : B < c) : Cur w' B a len cap N := by
  obtain ⟨at_, seed, hc, hN, hk, hl⟩ := h
  have hcell : ∀ b o, b < c → w'.cell? ⟨b, o, none⟩ = w.cell? ⟨b, o, none⟩ := fun b o h => hb.cell (p := ⟨b, o, none⟩) h
  refine ⟨at_, seed, ⟨Nat.lt_of_lt_of_le hc.lt hb.size, (hcell _ _ hB).trans hc.c0, (hcell _ _ hB).trans hc.c1, (hcell _ _ hB).trans hc.c2, fun o => (hb.frozen (p := ⟨B, o, none⟩) hB).trans (hc.fz o), hc.p0, hc.s0, hc.s1⟩, hN, ?_, hl⟩
  rcases hk with h0 | ⟨b, o, ha, hlt, hz⟩
  · exact .inl h0
  · refine .inr ⟨b, o, ha, hlt, fun i hi => ?_⟩
    obtain ⟨z, z0, z1, hcz⟩ := hz i hi
    exact ⟨z, z0, z1, (hcell _ _ (by omega)).trans hcz⟩

theorem Hole.belowAt {B : Nat} {w0 w w' : World} (h : Hole B w0 w) (hb : Below w0.heap.size w w') : Hole B w0 w' :=
  ⟨hb.os.trans h.os, hb.tape.trans h.tape, hb.output.trans h.output, Nat.le_trans h.size hb.size, fun k hk hn => (hb.block k hk).trans (h.block k hk hn)⟩

def flat (ds : List Dp) : List Value := ds.flatMap fun d => [.int .i64 d.k, .int .i64 d.c, .int .i64 d.s, .int .i64 d.q]

theorem flat_length : ∀ ds : List Dp, (flat ds).length = ds.length * 4
  | [] => rfl
  | d :: r => by
    have := flat_length r
    simp only [flat, List.flatMap_cons, List.length_append, List.length_cons, List.length_nil] at this ⊢
    omega

theorem flat_snoc (ds : List Dp) (d : Dp) : flat (ds ++ [d]) = flat ds ++ [.int .i64 d.k, .int .i64 d.c, .int .i64 d.s, .int .i64 d.q] := by
  simp [flat]

theorem flat_at : ∀ (ds : List Dp) (i : Nat), i < ds.length → (flat ds)[i * 4]? = some (.int .i64 (ds.getD i dz).k) ∧ (flat ds)[i * 4 + 1]? = some (.int .i64 (ds.getD i dz).c) ∧ (flat ds)[i * 4 + 2]? = some (.int .i64 (ds.getD i dz).s) ∧ (flat ds)[i * 4 + 3]? = some (.int .i64 (ds.getD i dz).q)
  | [], _, h => by simp at h
  | d :: r, 0, _ => by simp [flat]
  | d :: r, i + 1, h => by
    have ih := flat_at r i (by simpa using h)
    have e : flat (d :: r) = [.int .i64 d.k, .int .i64 d.c, .int .i64 d.s, .int .i64 d.q] ++ flat r := by simp [flat]
    rw [e]
    have g : (d :: r).getD (i + 1) dz = r.getD i dz := by simp
    rw [g]
    refine ⟨?_, ?_, ?_, ?_⟩
    · rw [List.getElem?_append_right (by simp; omega)]
      simpa [show (i + 1) * 4 - 4 = i * 4 by omega] using ih.1
    · rw [List.getElem?_append_right (by simp; omega)]
      simpa [show (i + 1) * 4 + 1 - 4 = i * 4 + 1 by omega] using ih.2.1
    · rw [List.getElem?_append_right (by simp; omega)]
      simpa [show (i + 1) * 4 + 2 - 4 = i * 4 + 2 by omega] using ih.2.2.1
    · rw [List.getElem?_append_right (by simp; omega)]
      simpa [show (i + 1) * 4 + 3 - 4 = i * 4 + 3 by omega] using ih.2.2.2

/-- A list of dependencies of the call's own: its slice, and the row that it leads to. -/
structure OwnDeps (w : World) (base g cap : Nat) (ds : List Dp) : Prop where
  le : base ≤ g
  lt : g < w.heap.size
  own : w.ownsRow base 43 4 (.slice (some ⟨g, 0, none⟩) ds.length cap) ds.length (flat ds)

theorem OwnDeps.holds {w : World} {base g cap : Nat} {ds : List Dp} (h : OwnDeps w base g cap ds) : HoldsDeps w g 0 ds := by
  intro i hi
  obtain ⟨_, h1 | ⟨g', cap', cur, hv, _, hb, _, _, _, htake⟩⟩ := h.own
  · obtain ⟨h1, _⟩ := h1
    cases h1
  · have hg : g = g' := by
      injection hv with h1
      injection h1 with h1
      injection h1
    subst hg
    have hc : ∀ j, j < ds.length * 4 → w.cell? ⟨g, j, none⟩ = (flat ds)[j]? := by
      intro j hj
      rw [cell_of_row w g j cur _ _ hb, ← htake, List.getElem?_take_of_lt hj]
      simp
    have ha := flat_at ds i hi
    rw [Nat.zero_add]
    exact ⟨(hc _ (by omega)).trans ha.1, (hc _ (by omega)).trans ha.2.1, (hc _ (by omega)).trans ha.2.2.1, (hc _ (by omega)).trans ha.2.2.2⟩

theorem OwnDeps.hole {w w' : World} {B base g cap : Nat} {ds : List Dp} (h : OwnDeps w base g cap ds) (hh : Hole B w w') (hB : B < base) : OwnDeps w' base g cap ds := by
  refine ⟨h.le, Nat.lt_of_lt_of_le h.lt hh.size, h.own.1, ?_⟩
  rcases h.own.2 with h1 | ⟨g', cap', cur, hv, hb, hblk, r1, r2, r3, r4⟩
  · exact .inl h1
  · have hg : g = g' := by
      injection hv with h1
      injection h1 with h1
      injection h1
    subst hg
    exact .inr ⟨g, cap', cur, hv, hb, (hh.block g h.lt (by have := h.le; omega)).trans hblk, r1, r2, r3, r4⟩

theorem infoDep' : (Tryd.prog.info? 43).map (fun i => (i.zero, i.size, i.bytes)) = some (some (depV 0 0 0 0), 4, 32) := by kernel_rfl

theorem own_start (w : World) (base : Nat) (hb : base ≤ w.heap.size) : OwnDeps (w.alloc (.cells #[] 43)) base w.heap.size 0 [] :=
  ⟨hb, by simp, World.ownsRow_made w #[] 0 hb (by simp [maxLen]) (by simp)⟩

/-- Behind an append of one element. -/
theorem own_next {w W w1 : World} {base g g' cap' : Nat} {ds : List Dp} {d : Dp} (hle : base ≤ g) (hW : Below w.heap.size w W)
    (hown1 : w1.ownsRow base 43 4 (.slice (some ⟨g', 0, none⟩) (ds.length + 1) cap') (ds.length + 1) (flat ds ++ [.int .i64 d.k, .int .i64 d.c, .int .i64 d.s, .int .i64 d.q])) (hgrow : W.grownBy w1 (some g)) (hlt : g' < w1.heap.size) (hb : base ≤ w.heap.size) :
    OwnDeps w1 base g' cap' (ds ++ [d]) ∧ Below base w w1 := by
  have e : (ds ++ [d]).length = ds.length + 1 := by simp
  refine ⟨⟨?_, hlt, by rw [e, flat_snoc]; exact hown1⟩, ?_⟩
  · rcases hown1.2 with h1 | ⟨g2, _, _, hv, hb2, _⟩
    · obtain ⟨h1, _⟩ := h1
      cases h1
    · have hg : g' = g2 := by
        injection hv with h1
        injection h1 with h1
        injection h1
      omega
  · exact (hW.mono hb).trans ((Below.refl base W).grown hgrow (Nat.le_trans hb hW.size) (fun k hk => by injection hk with hk; omega))

set_option maxRecDepth 100000 in
set_option maxHeartbeats 4000000 in
theorem deps_any (B : Nat) (a : Option Addr) (len cap : Nat) (N : Int) (w : World) (hN : N ≤ 5000) (h : Cur w B a len cap N) :
    Calls Tryd.prog 38 #[.pointer (some ⟨B, 0, none⟩)] w fun e w' => ∃ (g cp : Nat) (ds : List Dp), e = .returned (.slice (some ⟨g, 0, none⟩) ds.length cp) ∧ ds.length ≤ 7 ∧ OwnDeps w' w.heap.size g cp ds ∧ Cur w' B a len cap (N + 40) ∧ Hole B w w' := by
  have HC : Hid (Cur w B a len cap N) := h
  have hB := h.lt
  obtain ⟨i0, hi0, hz0, hz1, hz2⟩ := info_parts infoDep'
  have HI0 : Hid (Tryd.prog.info? 43 = some i0) := hi0
  have HZ0 : Hid (i0.zero = some (depV 0 0 0 0)) := hz0
  have HZ1 : Hid (i0.size = 4) := hz1
  have HZ2 : Hid (i0.bytes = 32) := hz2
  clear h hi0 hz0 hz1 hz2
  go_enter Tryd.func38, Tryd.ntmps38
  go_wp2
  go_loopw [3, 4] (fun o i wr => ∃ (j g cp : Nat) (ds : List Dp), j ≤ 6 ∧ ds.length ≤ j ∧ i = .int .i64 j ∧ o = .slice (some ⟨g, 0, none⟩) ds.length cp ∧ Hid (OwnDeps wr w.heap.size g cp ds) ∧ Hid (Cur wr B a len cap (N + 4 * j)) ∧ Hid (Hole B w wr)) (fun _ i _ => 6 - (intOf i).toNat)
  case atStart => exact ⟨0, w.heap.size, 0, [], by omega, by simp, rfl, rfl, own_start w _ (Nat.le_refl _), (HC.out.below ((Below.refl _ _).alloc (Nat.le_refl _) _)).more (by omega), Hole.of_below ((Below.refl _ _).alloc (Nat.le_refl _) _)⟩
  case round =>
    obtain ⟨j, g, cp, ds, hj, hds, rfl, rfl, HO, HC1, HH⟩ := hrel
    by_cases hj' : j < 6
    · have i1 : (j : Int) < 6 := by omega
      go_wp2_with fail
      refine (pick_any B a len cap (N + 4 * j) 4 _ (by omega) (by omega) (by omega) HC1.out).mono ?_
      rintro e w1 ⟨r1, rfl, q10, q11, hc1, hh1⟩
      have HC2 : Hid (Cur w1 B a len cap (N + 4 * j + 1)) := hc1
      have HO2 : Hid (OwnDeps w1 w.heap.size g cp ds) := HO.out.hole hh1 hB
      have HH2 : Hid (Hole B w w1) := HH.out.trans hh1
      clear hc1 hh1 HO HC1 HH
      by_cases k0 : r1 = 0
      · subst k0
        go_wp2_with fail
        refine (pick_any B a len cap (N + 4 * j + 1) 4 _ (by omega) (by omega) (by omega) HC2.out).mono ?_
        rintro e w2 ⟨r2, rfl, q20, q21, hc2, hh2⟩
        have HC3 : Hid (Cur w2 B a len cap (N + 4 * j + 2)) := hc2.more (by omega)
        have HO3 : Hid (OwnDeps w2 w.heap.size g cp ds) := HO2.out.hole hh2 hB
        have HH3 : Hid (Hole B w w2) := HH2.out.trans hh2
        clear hc2 hh2 HO2 HC2 HH2
        go_wp2_with fail
        refine (pick_any B a len cap (N + 4 * j + 2) 4 _ (by omega) (by omega) (by omega) HC3.out).mono ?_
        rintro e w3 ⟨r3, rfl, q30, q31, hc3, hh3⟩
        have HC4 : Hid (Cur w3 B a len cap (N + 4 * j + 3)) := hc3.more (by omega)
        have HO4 : Hid (OwnDeps w3 w.heap.size g cp ds) := HO3.out.hole hh3 hB
        have HH4 : Hid (Hole B w w3) := HH3.out.trans hh3
        clear hc3 hh3 HO3 HC3 HH3
        go_wp2_with fail
        refine (pick_any B a len cap (N + 4 * j + 3) 4 _ (by omega) (by omega) (by omega) HC4.out).mono ?_
        rintro e w4 ⟨r4, rfl, q40, q41, hc4, hh4⟩
        have HC5 : Hid (Cur w4 B a len cap (N + 4 * j + 4)) := hc4.more (by omega)
        have HO5 : Hid (OwnDeps w4 w.heap.size g cp ds) := HO4.out.hole hh4 hB
        have HH5 : Hid (Hole B w w4) := HH4.out.trans hh4
        clear hc4 hh4 HO4 HC4 HH4
        have hzw4 : w.heap.size ≤ w4.heap.size := HH5.out.size
        go_wp2_with (at_builtin; refine wpList_append_lies _ (by rfl) _ _ _ (by rfl) w.heap.size 43 i0 _ 4 32 Tryd.underlying26 HI0.out HZ0.out HZ1.out HZ2.out (by rfl) (by omega) (.slice (some ⟨g, 0, none⟩) ds.length cp) ds.length (flat ds) (by rfl) (HO5.out.own.alloc _) ⟨w4.heap.size, 0, none⟩ 1 1 [.int .i64 (j : Int), .int .i64 (1 + r2), .int .i64 r3, .int .i64 (1 + r4)] (by rfl) (by rfl) (World.news_of_block (cs := #[.int .i64 (j : Int), .int .i64 (1 + r2), .int .i64 r3, .int .i64 (1 + r4)]) (t := 43) (fr := (0, 0)) (heap_alloc_new w4 _)) (by simp [Value.oneCell']) (by omega) (by simp [maxLen]; omega) (by omega) (by simp; omega) (w4.heap.size + 1) (by simp) ?_; intro g' cp' w5 hown1 hgrow hat hlt)
        obtain ⟨hO6, hb6⟩ := own_next (d := ⟨(j : Int), 1 + r2, r3, 1 + r4⟩) HO5.out.le ((Below.refl w4.heap.size w4).alloc (Nat.le_refl _) _) hown1 hgrow hlt hzw4
        have HO6 : Hid (OwnDeps w5 w.heap.size g' cp' (ds ++ [⟨(j : Int), 1 + r2, r3, 1 + r4⟩])) := hO6
        have HC6 : Hid (Cur w5 B a len cap (N + 4 * (j + 1 : Nat))) := (HC5.out.belowAt hb6 hB).more (by omega)
        have HH6 : Hid (Hole B w w5) := HH5.out.belowAt hb6
        clear hO6 hb6 hown1 hgrow hat hlt HO5 HC5 HH5
        have HL : Hid ((ds ++ [(⟨(j : Int), 1 + r2, r3, 1 + r4⟩ : Dp)]).length = ds.length + 1) := by simp [Hid]
        go_wp2
        exact ⟨⟨j + 1, g', cp', ds ++ [⟨(j : Int), 1 + r2, r3, 1 + r4⟩], by omega, by rw [HL.out]; omega, by go_num, by rw [HL.out], HO6, HC6, HH6⟩, by simp [intOf]; omega⟩
      · have k0' : (r1 == 0) = false := by simp [k0]
        clear k0
        have HC3 : Hid (Cur w1 B a len cap (N + 4 * (j + 1 : Nat))) := HC2.out.more (by omega)
        go_wp2
        exact ⟨⟨j + 1, g, cp, ds, by omega, by omega, by go_num, rfl, HO2, HC3, HH2⟩, by simp [intOf]; omega⟩
    · have hj6 : j = 6 := by omega
      subst hj6
      go_wp2_with fail
      refine (once_any B a len cap (N + 24) 16 _ (by omega) (by omega) (by omega) (HC1.out.more (by omega))).mono ?_
      rintro e w1 ⟨b1, rfl, hc1, hh1⟩
      have HC2 : Hid (Cur w1 B a len cap (N + 25)) := hc1.more (by omega)
      have HO2 : Hid (OwnDeps w1 w.heap.size g cp ds) := HO.out.hole hh1 hB
      have HH2 : Hid (Hole B w w1) := HH.out.trans hh1
      clear hc1 hh1 HO HC1 HH
      cases b1
      · go_wp2
        go_ret
        exact ⟨g, cp, ds, rfl, by omega, HO2.out, HC2.out.more (by omega), HH2.out⟩
      · go_wp2_with fail
        refine (raw_any B a len cap (N + 25) _ (by omega) HC2.out).mono ?_
        rintro e w2 ⟨v, rfl, hc2, hh2⟩
        have HC3 : Hid (Cur w2 B a len cap (N + 27)) := hc2.more (by omega)
        have HO3 : Hid (OwnDeps w2 w.heap.size g cp ds) := HO2.out.hole hh2 hB
        have HH3 : Hid (Hole B w w2) := HH2.out.trans hh2
        clear hc2 hh2 HO2 HC2 HH2
        go_wp2_with fail
        refine (tag_any B a len cap (N + 27) _ (by omega) HC3.out).mono ?_
        rintro e w4 ⟨c, s, q, rfl, hc4, hh4⟩
        have HC5 : Hid (Cur w4 B a len cap (N + 36)) := hc4.more (by omega)
        have HO5 : Hid (OwnDeps w4 w.heap.size g cp ds) := HO3.out.hole hh4 hB
        have HH5 : Hid (Hole B w w4) := HH3.out.trans hh4
        clear hc4 hh4 HO3 HC3 HH3
        have hzw4 : w.heap.size ≤ w4.heap.size := HH5.out.size
        go_wp2_with (at_builtin; refine wpList_append_lies _ (by rfl) _ _ _ (by rfl) w.heap.size 43 i0 _ 4 32 Tryd.underlying26 HI0.out HZ0.out HZ1.out HZ2.out (by rfl) (by omega) (.slice (some ⟨g, 0, none⟩) ds.length cp) ds.length (flat ds) (by rfl) (HO5.out.own.alloc _) ⟨w4.heap.size, 0, none⟩ 1 1 [.int .i64 v, .int .i64 c, .int .i64 s, .int .i64 q] (by rfl) (by rfl) (World.news_of_block (cs := #[.int .i64 v, .int .i64 c, .int .i64 s, .int .i64 q]) (t := 43) (fr := (0, 0)) (heap_alloc_new w4 _)) (by simp [Value.oneCell']) (by omega) (by simp [maxLen]; omega) (by omega) (by simp; omega) (w4.heap.size + 1) (by simp) ?_; intro g' cp' w5 hown1 hgrow hat hlt)
        obtain ⟨hO6, hb6⟩ := own_next (d := ⟨v, c, s, q⟩) HO5.out.le ((Below.refl w4.heap.size w4).alloc (Nat.le_refl _) _) hown1 hgrow hlt hzw4
        have HO6 : Hid (OwnDeps w5 w.heap.size g' cp' (ds ++ [⟨v, c, s, q⟩])) := hO6
        have HC6 : Hid (Cur w5 B a len cap (N + 40)) := (HC5.out.belowAt hb6 hB).more (by omega)
        have HH6 : Hid (Hole B w w5) := HH5.out.belowAt hb6
        clear hO6 hb6 hown1 hgrow hat hlt HO5 HC5 HH5
        have HL : Hid ((ds ++ [(⟨v, c, s, q⟩ : Dp)]).length = ds.length + 1) := by simp [Hid]
        go_wp2
        go_ret
        exact ⟨g', cp', ds ++ [⟨v, c, s, q⟩], by rw [HL.out]; rfl, by rw [HL.out]; omega, HO6.out, HC6.out, HH6.out⟩

end Go.Proofs.YtlbcpppmpbbkdabDoor

/- The contract of the cursor's write. -/
namespace Go.Proofs.YtlbcpppmpbbkdabDoor
open Go.ChangeShapes Go.WideShapes Go.ChangeAt Go.RowKit Go.Joins

/-- A write in a block of its own. -/
structure WBox (w : World) (b : Nat) (k c s q v : Int) (de : Bool) (x : Option Addr) (len cap : Nat) : Prop where
  lt : b < w.heap.size
  c0 : w.cell? ⟨b, 0, none⟩ = some (.int .i64 k)
  c1 : w.cell? ⟨b, 1, none⟩ = some (.int .i64 c)
  c2 : w.cell? ⟨b, 2, none⟩ = some (.int .i64 s)
  c3 : w.cell? ⟨b, 3, none⟩ = some (.int .i64 q)
  c4 : w.cell? ⟨b, 4, none⟩ = some (.int .i64 v)
  c5 : w.cell? ⟨b, 5, none⟩ = some (.bool de)
  c6 : w.cell? ⟨b, 6, none⟩ = some (.slice x len cap)
  fz : ∀ o, w.frozen? ⟨b, o, none⟩ = false

theorem WBox.start (w : World) (k c s q v : Int) (de : Bool) (x : Option Addr) (len cap : Nat) (t : Nat) : WBox (w.alloc (.cells #[.int .i64 k, .int .i64 c, .int .i64 s, .int .i64 q, .int .i64 v, .bool de, .slice x len cap] t)) w.heap.size k c s q v de x len cap :=
  ⟨by simp, by simp [go_sem], by simp [go_sem], by simp [go_sem], by simp [go_sem], by simp [go_sem], by simp [go_sem], by simp [go_sem], fun o => by simp [go_sem]⟩

theorem WBox.hole {w w' : World} {B b : Nat} {k c s q v : Int} {de : Bool} {x : Option Addr} {len cap : Nat} (h : WBox w b k c s q v de x len cap) (hh : Hole B w w') (hn : b ≠ B) : WBox w' b k c s q v de x len cap :=
  ⟨Nat.lt_of_lt_of_le h.lt hh.size, (hh.cell h.lt hn).trans h.c0, (hh.cell h.lt hn).trans h.c1, (hh.cell h.lt hn).trans h.c2, (hh.cell h.lt hn).trans h.c3, (hh.cell h.lt hn).trans h.c4, (hh.cell h.lt hn).trans h.c5, (hh.cell h.lt hn).trans h.c6, fun o => (hh.frozen h.lt hn).trans (h.fz o)⟩

theorem WBox.other {w : World} {R b : Nat} {k c s q v : Int} {de : Bool} {x : Option Addr} {len cap : Nat} (h : WBox w b k c s q v de x len cap) (hn : R ≠ b) (o : Nat) (y : Value) : WBox (w.setCell ⟨R, o, none⟩ y) b k c s q v de x len cap := by
  have hne : ∀ o', (Addr.mk R o none) ≠ ⟨b, o', none⟩ := fun o' e => hn (by injection e)
  exact ⟨by simpa [World.setCell] using h.lt, (World.cell?_setCell_other _ _ _ _ (hne _)).trans h.c0, (World.cell?_setCell_other _ _ _ _ (hne _)).trans h.c1, (World.cell?_setCell_other _ _ _ _ (hne _)).trans h.c2, (World.cell?_setCell_other _ _ _ _ (hne _)).trans h.c3, (World.cell?_setCell_other _ _ _ _ (hne _)).trans h.c4, (World.cell?_setCell_other _ _ _ _ (hne _)).trans h.c5, (World.cell?_setCell_other _ _ _ _ (hne _)).trans h.c6, fun o => by rw [World.frozen?_setCell]; exact h.fz o⟩

theorem WBox.set0 {w : World} {b : Nat} {k c s q v : Int} {de : Bool} {x : Option Addr} {len cap : Nat} (h : WBox w b k c s q v de x len cap) (y : Int) : WBox (w.setCell ⟨b, 0, none⟩ (.int .i64 y)) b y c s q v de x len cap :=
  ⟨by simpa [World.setCell] using h.lt, cell_set_same h.c0, cell_set_off h.c1 (by omega), cell_set_off h.c2 (by omega), cell_set_off h.c3 (by omega), cell_set_off h.c4 (by omega), cell_set_off h.c5 (by omega), cell_set_off h.c6 (by omega), fun o => by rw [World.frozen?_setCell]; exact h.fz o⟩

theorem WBox.set1 {w : World} {b : Nat} {k c s q v : Int} {de : Bool} {x : Option Addr} {len cap : Nat} (h : WBox w b k c s q v de x len cap) (y : Int) : WBox (w.setCell ⟨b, 1, none⟩ (.int .i64 y)) b k y s q v de x len cap :=
  ⟨by simpa [World.setCell] using h.lt, cell_set_off h.c0 (by omega), cell_set_same h.c1, cell_set_off h.c2 (by omega), cell_set_off h.c3 (by omega), cell_set_off h.c4 (by omega), cell_set_off h.c5 (by omega), cell_set_off h.c6 (by omega), fun o => by rw [World.frozen?_setCell]; exact h.fz o⟩

theorem WBox.set4 {w : World} {b : Nat} {k c s q v : Int} {de : Bool} {x : Option Addr} {len cap : Nat} (h : WBox w b k c s q v de x len cap) (y : Int) : WBox (w.setCell ⟨b, 4, none⟩ (.int .i64 y)) b k c s q y de x len cap :=
  ⟨by simpa [World.setCell] using h.lt, cell_set_off h.c0 (by omega), cell_set_off h.c1 (by omega), cell_set_off h.c2 (by omega), cell_set_off h.c3 (by omega), cell_set_same h.c4, cell_set_off h.c5 (by omega), cell_set_off h.c6 (by omega), fun o => by rw [World.frozen?_setCell]; exact h.fz o⟩

theorem WBox.set5 {w : World} {b : Nat} {k c s q v : Int} {de : Bool} {x : Option Addr} {len cap : Nat} (h : WBox w b k c s q v de x len cap) (y : Bool) : WBox (w.setCell ⟨b, 5, none⟩ (.bool y)) b k c s q v y x len cap :=
  ⟨by simpa [World.setCell] using h.lt, cell_set_off h.c0 (by omega), cell_set_off h.c1 (by omega), cell_set_off h.c2 (by omega), cell_set_off h.c3 (by omega), cell_set_off h.c4 (by omega), cell_set_same h.c5, cell_set_off h.c6 (by omega), fun o => by rw [World.frozen?_setCell]; exact h.fz o⟩

theorem WBox.set6 {w : World} {b : Nat} {k c s q v : Int} {de : Bool} {x : Option Addr} {len cap : Nat} (h : WBox w b k c s q v de x len cap) (y : Option Addr) (l' c' : Nat) : WBox (w.setCell ⟨b, 6, none⟩ (.slice y l' c')) b k c s q v de y l' c' :=
  ⟨by simpa [World.setCell] using h.lt, cell_set_off h.c0 (by omega), cell_set_off h.c1 (by omega), cell_set_off h.c2 (by omega), cell_set_off h.c3 (by omega), cell_set_off h.c4 (by omega), cell_set_off h.c5 (by omega), cell_set_same h.c6, fun o => by rw [World.frozen?_setCell]; exact h.fz o⟩

theorem HoldsDeps.hole {w w' : World} {B g : Nat} {ds : List Dp} (h : HoldsDeps w g 0 ds) (hh : Hole B w w') (hg : g < w.heap.size) (hn : g ≠ B) : HoldsDeps w' g 0 ds := by
  intro i hi
  obtain ⟨h0, h1, h2, h3⟩ := h i hi
  exact ⟨(hh.cell hg hn).trans h0, (hh.cell hg hn).trans h1, (hh.cell hg hn).trans h2, (hh.cell hg hn).trans h3⟩

/-- What is carried through the drawing of a write: the cursor, what was there, the two boxes, the dependencies. -/
structure Draw (w W : World) (B R T g : Nat) (a : Option Addr) (len cap : Nat) (N : Int) (k c s q v : Int) (de : Bool) (ds : List Dp) (cp : Nat) : Prop where
  cur : Cur W B a len cap N
  hole : Hole B w W
  box : WBox W T k c s q v de (some ⟨g, 0, none⟩) ds.length cp
  res : WBox W R 0 0 0 0 0 false none 0 0
  deps : HoldsDeps W g 0 ds
  glt : g < W.heap.size

theorem Draw.step {w W W' : World} {B R T g : Nat} {a : Option Addr} {len cap : Nat} {N M : Int} {k c s q v : Int} {de : Bool} {ds : List Dp} {cp : Nat} (h : Draw w W B R T g a len cap N k c s q v de ds cp) (hc : Cur W' B a len cap M) (hh : Hole B W W') (hT : T ≠ B) (hR : R ≠ B) (hg : g ≠ B) : Draw w W' B R T g a len cap M k c s q v de ds cp :=
  ⟨hc, h.hole.trans hh, h.box.hole hh hT, h.res.hole hh hR, h.deps.hole hh h.glt hg, Nat.lt_of_lt_of_le h.glt hh.size⟩

theorem Draw.set {w W : World} {B R T g : Nat} {a : Option Addr} {len cap : Nat} {N : Int} {k c s q v k' c' s' q' v' : Int} {de de' : Bool} {ds : List Dp} {cp : Nat} (h : Draw w W B R T g a len cap N k c s q v de ds cp) (o : Nat) (y : Value) (hb : WBox (W.setCell ⟨T, o, none⟩ y) T k' c' s' q' v' de' (some ⟨g, 0, none⟩) ds.length cp) (hT : B < T) (hw : w.heap.size ≤ T) (hR : T ≠ R) (hg : T ≠ g) : Draw w (W.setCell ⟨T, o, none⟩ y) B R T g a len cap N k' c' s' q' v' de' ds cp :=
  ⟨h.cur.setOther hT o y, h.hole.setNew hw o y, hb, h.res.other hR o y, h.deps.set hg y, by simpa [World.setCell] using h.glt⟩

theorem write_end {w W : World} {B R T g : Nat} {a : Option Addr} {len cap : Nat} {N M : Int} {k c s q v : Int} {de : Bool} {ds : List Dp} {cp : Nat} (h : Draw w W B R T g a len cap N k c s q v de ds cp) (hR : w.heap.size ≤ R) (hB : B < w.heap.size) (hg : R ≠ g) (hM : N ≤ M) :
    let W' := ((((((W.setCell ⟨R, 0, none⟩ (.int .i64 k)).setCell ⟨R, 1, none⟩ (.int .i64 c)).setCell ⟨R, 2, none⟩ (.int .i64 s)).setCell ⟨R, 3, none⟩ (.int .i64 q)).setCell ⟨R, 4, none⟩ (.int .i64 v)).setCell ⟨R, 5, none⟩ (.bool de)).setCell ⟨R, 6, none⟩ (.slice (some ⟨g, 0, none⟩) ds.length cp)
    g < W'.heap.size ∧ HoldsDeps W' g 0 ds ∧ Cur W' B a len cap M ∧ Hole B w W' :=
  ⟨by simpa [World.setCell] using h.glt, ((((((h.deps.set hg _).set hg _).set hg _).set hg _).set hg _).set hg _).set hg _,
    (((((((h.cur.setOther (by omega) _ _).setOther (by omega) _ _).setOther (by omega) _ _).setOther (by omega) _ _).setOther (by omega) _ _).setOther (by omega) _ _).setOther (by omega) _ _).more hM,
    ((((((h.hole.setNew hR _ _).setNew hR _ _).setNew hR _ _).setNew hR _ _).setNew hR _ _).setNew hR _ _).setNew hR _ _⟩

set_option maxRecDepth 100000 in
set_option maxHeartbeats 8000000 in
theorem write_any (B : Nat) (a : Option Addr) (len cap : Nat) (N : Int) (w : World) (hN : N ≤ 2000) (h : Cur w B a len cap N) :
    Calls Tryd.prog 14 #[.pointer (some ⟨B, 0, none⟩)] w fun e w' => ∃ (k c s q v : Int) (de : Bool) (g cp : Nat) (ds : List Dp), e = .returned (wrV k c s q v de (some ⟨g, 0, none⟩) ds.length cp) ∧ ds.length ≤ 7 ∧ w.heap.size ≤ g ∧ g < w'.heap.size ∧ HoldsDeps w' g 0 ds ∧ Cur w' B a len cap (N + 80) ∧ Hole B w w' := by
  have HC : Hid (Cur w B a len cap N) := h
  have hB := h.lt
  clear h
  go_enter Tryd.func14, Tryd.ntmps14
  go_wp2_with fail
  have HA : Hid (Below w.heap.size w (w.alloc (.cells #[.int .i64 0, .int .i64 0, .int .i64 0, .int .i64 0, .int .i64 0, .bool false, .slice none 0 0] 28))) := (Below.refl _ _).alloc (Nat.le_refl _) _
  have HR0 : Hid (WBox (w.alloc (.cells #[.int .i64 0, .int .i64 0, .int .i64 0, .int .i64 0, .int .i64 0, .bool false, .slice none 0 0] 28)) w.heap.size 0 0 0 0 0 false none 0 0) := WBox.start _ _ _ _ _ _ _ _ _ _ _
  refine (pick_any B a len cap N 6 _ (by omega) (by omega) (by omega) (HC.out.below HA.out)).mono ?_
  rintro e w1 ⟨k, rfl, q10, q11, hc1, hh1⟩
  have HC1 : Hid (Cur w1 B a len cap (N + 1)) := hc1
  have HR1 : Hid (WBox w1 w.heap.size 0 0 0 0 0 false none 0 0) := HR0.out.hole hh1 (by omega)
  have HH1 : Hid (Hole B w w1) := (Hole.of_below HA.out).trans hh1
  clear hc1 hh1 HR0 HA HC
  go_wp2_with fail
  refine (tag_any B a len cap (N + 1) _ (by omega) HC1.out).mono ?_
  rintro e w2 ⟨c0, s, q, rfl, hc2, hh2⟩
  have HC2 : Hid (Cur w2 B a len cap (N + 10)) := hc2.more (by omega)
  have HR2 : Hid (WBox w2 w.heap.size 0 0 0 0 0 false none 0 0) := HR1.out.hole hh2 (by omega)
  have HH2 : Hid (Hole B w w2) := HH1.out.trans hh2
  clear hc2 hh2 HR1 HH1 HC1
  go_wp2_with fail
  refine (pick_any B a len cap (N + 10) 9 _ (by omega) (by omega) (by omega) HC2.out).mono ?_
  rintro e w3 ⟨r3, rfl, q30, q31, hc3, hh3⟩
  have HC3 : Hid (Cur w3 B a len cap (N + 11)) := hc3.more (by omega)
  have HR3 : Hid (WBox w3 w.heap.size 0 0 0 0 0 false none 0 0) := HR2.out.hole hh3 (by omega)
  have HH3 : Hid (Hole B w w3) := HH2.out.trans hh3
  clear hc3 hh3 HR2 HH2 HC2
  have hz3 := HR3.out.lt
  go_wp2_with fail
  have HA : Hid (Below w3.heap.size w3 (w3.alloc (.cells #[.int .i64 k, .int .i64 (wrap64 (c0 + 4)), .int .i64 s, .int .i64 q, .int .i64 (r3 - 2), .bool false, .slice none 0 0] 28))) := (Below.refl _ _).alloc (Nat.le_refl _) _
  have HT0 : Hid (WBox (w3.alloc (.cells #[.int .i64 k, .int .i64 (wrap64 (c0 + 4)), .int .i64 s, .int .i64 q, .int .i64 (r3 - 2), .bool false, .slice none 0 0] 28)) w3.heap.size k (wrap64 (c0 + 4)) s q (r3 - 2) false none 0 0) := WBox.start _ _ _ _ _ _ _ _ _ _ _
  refine (deps_any B a len cap (N + 11) _ (by omega) (HC3.out.below HA.out)).mono ?_
  rintro e w5 ⟨g, cp, ds, rfl, hds, hO, hc5, hh5⟩
  have hle := hO.le
  have hglt := hO.lt
  have hgT : w3.heap.size < g := by simp at hle; omega
  have HD5 : Hid (HoldsDeps w5 g 0 ds) := hO.holds
  have HC5 : Hid (Cur w5 B a len cap (N + 51)) := hc5.more (by omega)
  have HT5 : Hid (WBox w5 w3.heap.size k (wrap64 (c0 + 4)) s q (r3 - 2) false none 0 0) := HT0.out.hole hh5 (by omega)
  have HR5 : Hid (WBox w5 w.heap.size 0 0 0 0 0 false none 0 0) := (HR3.out.hole (Hole.of_below (B := B) HA.out) (by omega)).hole hh5 (by omega)
  have HH5 : Hid (Hole B w w5) := (HH3.out.trans (Hole.of_below HA.out)).trans hh5
  clear hO hc5 hh5 HA HT0 HC3 HR3 HH3 hle
  generalize wrap64 (c0 + 4) = c at *
  generalize r3 - 2 = v at *
  have H5 : Hid (Draw w (w5.setCell ⟨w3.heap.size, 6, none⟩ (.slice (some ⟨g, 0, none⟩) ds.length cp)) B w.heap.size w3.heap.size g a len cap (N + 51) k c s q v false ds cp) :=
    ⟨HC5.out.setOther (by omega) _ _, HH5.out.setNew (by omega) _ _, HT5.out.set6 _ _ _, HR5.out.other (by omega) _ _, HD5.out.set (by show w3.heap.size ≠ g; omega) _, by simpa [World.setCell] using hglt⟩
  have y6 := HT5.out.c6
  have yf := HT5.out.fz
  go_wp2_with fail
  refine (pick_any B a len cap (N + 51) 5 _ (by omega) (by omega) (by omega) H5.out.cur).mono ?_
  rintro e w6 ⟨r6, rfl, q60, q61, hc6, hh6⟩
  have H6 : Hid (Draw w w6 B w.heap.size w3.heap.size g a len cap (N + 51 + 1) k c s q v false ds cp) := H5.out.step hc6 hh6 (by omega) (by omega) (by omega)
  clear hc6 hh6 H5 HC5 HT5 HR5 HH5 HD5 y6 yf
  by_cases j0 : r6 = 0
  · subst j0
    have y4 := H6.out.box.c4
    have y5 := H6.out.box.c5
    have yf := H6.out.box.fz
    have H7 : Hid (Draw w ((w6.setCell ⟨w3.heap.size, 5, none⟩ (.bool true)).setCell ⟨w3.heap.size, 4, none⟩ (.int .i64 0)) B w.heap.size w3.heap.size g a len cap (N + 51 + 1) k c s q 0 true ds cp) := (H6.out.set 5 (.bool true) (H6.out.box.set5 true) (by omega) (by omega) (by omega) (by omega)).set 4 (.int .i64 0) ((H6.out.box.set5 true).set4 0) (by omega) (by omega) (by omega) (by omega)
    clear H6
    go_wp2_with fail
    refine (once_any B a len cap (N + 51 + 1) 14 _ (by omega) (by omega) (by omega) H7.out.cur).mono ?_
    rintro e w7 ⟨b7, rfl, hc7, hh7⟩
    have H7' : Hid (Draw w w7 B w.heap.size w3.heap.size g a len cap (N + 51 + 1 + 1) k c s q 0 true ds cp) := H7.out.step hc7 hh7 (by omega) (by omega) (by omega)
    clear hc7 hh7 H7 y4 y5 yf
    cases b7
    · have x0 := H7'.out.res.c0
      have x1 := H7'.out.res.c1
      have x2 := H7'.out.res.c2
      have x3 := H7'.out.res.c3
      have x4 := H7'.out.res.c4
      have x5 := H7'.out.res.c5
      have x6 := H7'.out.res.c6
      have xf := H7'.out.res.fz
      have y0 := H7'.out.box.c0
      have y1 := H7'.out.box.c1
      have y2 := H7'.out.box.c2
      have y3 := H7'.out.box.c3
      have y4 := H7'.out.box.c4
      have y5 := H7'.out.box.c5
      have y6 := H7'.out.box.c6
      have yf := H7'.out.box.fz
      go_wp2
      obtain ⟨z1, z2, z3, z4⟩ := write_end (M := N + 80) H7'.out (Nat.le_refl _) hB (by omega) (by omega)
      exact bodyPost_ret (v := wrV k c s q 0 true (some ⟨g, 0, none⟩) ds.length cp) (by simp [results, Tryd.results14, go_sem, x0, x1, x2, x3, x4, x5, x6]) rfl ⟨k, c, s, q, 0, true, g, cp, ds, rfl, hds, by omega, z1, z2, z3, z4⟩
    · go_wp2_with fail
      refine (pick_any B a len cap (N + 51 + 1 + 1) 3 _ (by omega) (by omega) (by omega) H7'.out.cur).mono ?_
      rintro e w8 ⟨r8, rfl, q80, q81, hc8, hh8⟩
      have H8 : Hid (Draw w w8 B w.heap.size w3.heap.size g a len cap (N + 51 + 1 + 1 + 1) k c s q 0 true ds cp) := H7'.out.step hc8 hh8 (by omega) (by omega) (by omega)
      clear hc8 hh8 H7'
      by_cases k0 : r8 = 0
      · subst k0
        go_wp2_with fail
        refine (raw_any B a len cap (N + 51 + 1 + 1 + 1) _ (by omega) H8.out.cur).mono ?_
        rintro e w9 ⟨u, rfl, hc9, hh9⟩
        have H9 : Hid (Draw w w9 B w.heap.size w3.heap.size g a len cap (N + 51 + 1 + 1 + 1 + 2) k c s q 0 true ds cp) := H8.out.step hc9 hh9 (by omega) (by omega) (by omega)
        clear hc9 hh9 H8
        have x0 := H9.out.res.c0
        have x1 := H9.out.res.c1
        have x2 := H9.out.res.c2
        have x3 := H9.out.res.c3
        have x4 := H9.out.res.c4
        have x5 := H9.out.res.c5
        have x6 := H9.out.res.c6
        have xf := H9.out.res.fz
        have y0 := H9.out.box.c0
        have y1 := H9.out.box.c1
        have y2 := H9.out.box.c2
        have y3 := H9.out.box.c3
        have y4 := H9.out.box.c4
        have y5 := H9.out.box.c5
        have y6 := H9.out.box.c6
        have yf := H9.out.box.fz
        go_wp2
        obtain ⟨z1, z2, z3, z4⟩ := write_end (M := N + 80) (H9.out.set 0 (.int .i64 u) (H9.out.box.set0 u) (by omega) (by omega) (by omega) (by omega)) (Nat.le_refl _) hB (by omega) (by omega)
        exact bodyPost_ret (v := wrV u c s q 0 true (some ⟨g, 0, none⟩) ds.length cp) (by simp [results, Tryd.results14, go_sem, x0, x1, x2, x3, x4, x5, x6]) rfl ⟨u, c, s, q, 0, true, g, cp, ds, rfl, hds, by omega, z1, z2, z3, z4⟩
      · by_cases k1 : r8 = 1
        · subst k1
          go_wp2_with fail
          refine (raw_any B a len cap (N + 51 + 1 + 1 + 1) _ (by omega) H8.out.cur).mono ?_
          rintro e w9 ⟨u, rfl, hc9, hh9⟩
          have H9 : Hid (Draw w w9 B w.heap.size w3.heap.size g a len cap (N + 51 + 1 + 1 + 1 + 2) k c s q 0 true ds cp) := H8.out.step hc9 hh9 (by omega) (by omega) (by omega)
          clear hc9 hh9 H8
          have hB9 := H9.out.cur.lt
          go_wp2_with fail
          have HA : Hid (Below w9.heap.size w9 (w9.alloc (.cells ((([u, 1000000, 1000001] : List Int).map (Value.int .i64)).toArray) 3))) := (Below.refl _ _).alloc (Nat.le_refl _) _
          refine (pick_any B a len cap (N + 51 + 1 + 1 + 1 + 2) 3 _ (by omega) (by omega) (by omega) (H9.out.cur.below HA.out)).mono ?_
          rintro e w10 ⟨r10, rfl, q100, q101, hc10, hh10⟩
          have hcell : w10.cell? ⟨w9.heap.size, r10.toNat, none⟩ = some (.int .i64 _) := (hh10.cell (by simp) (by omega)).trans (ints_cell w9 [u, 1000000, 1000001] _ r10.toNat (by simp; omega))
          generalize List.getD [u, 1000000, 1000001] r10.toNat 0 = y at hcell
          have H10 : Hid (Draw w w10 B w.heap.size w3.heap.size g a len cap (N + 51 + 1 + 1 + 1 + 2 + 1) k c s q 0 true ds cp) := H9.out.step hc10 ((Hole.of_below HA.out).trans hh10) (by omega) (by omega) (by omega)
          clear hc10 hh10 H9 HA
          have x0 := H10.out.res.c0
          have x1 := H10.out.res.c1
          have x2 := H10.out.res.c2
          have x3 := H10.out.res.c3
          have x4 := H10.out.res.c4
          have x5 := H10.out.res.c5
          have x6 := H10.out.res.c6
          have xf := H10.out.res.fz
          have y0 := H10.out.box.c0
          have y1 := H10.out.box.c1
          have y2 := H10.out.box.c2
          have y3 := H10.out.box.c3
          have y4 := H10.out.box.c4
          have y5 := H10.out.box.c5
          have y6 := H10.out.box.c6
          have yf := H10.out.box.fz
          go_wp2
          obtain ⟨z1, z2, z3, z4⟩ := write_end (M := N + 80) (H10.out.set 4 (.int .i64 y) (H10.out.box.set4 y) (by omega) (by omega) (by omega) (by omega)) (Nat.le_refl _) hB (by omega) (by omega)
          exact bodyPost_ret (v := wrV k c s q y true (some ⟨g, 0, none⟩) ds.length cp) (by simp [results, Tryd.results14, go_sem, x0, x1, x2, x3, x4, x5, x6]) rfl ⟨k, c, s, q, y, true, g, cp, ds, rfl, hds, by omega, z1, z2, z3, z4⟩
        · have k0' : (r8 == 0) = false := by simp [k0]
          have k1' : (r8 == 1) = false := by simp [k1]
          clear k0 k1
          have x0 := H8.out.res.c0
          have x1 := H8.out.res.c1
          have x2 := H8.out.res.c2
          have x3 := H8.out.res.c3
          have x4 := H8.out.res.c4
          have x5 := H8.out.res.c5
          have x6 := H8.out.res.c6
          have xf := H8.out.res.fz
          have y0 := H8.out.box.c0
          have y1 := H8.out.box.c1
          have y2 := H8.out.box.c2
          have y3 := H8.out.box.c3
          have y4 := H8.out.box.c4
          have y5 := H8.out.box.c5
          have y6 := H8.out.box.c6
          have yf := H8.out.box.fz
          go_wp2
          obtain ⟨z1, z2, z3, z4⟩ := write_end (M := N + 80) (H8.out.set 5 (.bool (!true)) (H8.out.box.set5 (!true)) (by omega) (by omega) (by omega) (by omega)) (Nat.le_refl _) hB (by omega) (by omega)
          exact bodyPost_ret (v := wrV k c s q 0 (!true) (some ⟨g, 0, none⟩) ds.length cp) (by simp [results, Tryd.results14, go_sem, x0, x1, x2, x3, x4, x5, x6]) rfl ⟨k, c, s, q, 0, (!true), g, cp, ds, rfl, hds, by omega, z1, z2, z3, z4⟩
  · have j0' : (r6 == 0) = false := by simp [j0]
    clear j0
    go_wp2_with fail
    refine (once_any B a len cap (N + 51 + 1) 14 _ (by omega) (by omega) (by omega) H6.out.cur).mono ?_
    rintro e w7 ⟨b7, rfl, hc7, hh7⟩
    have H7 : Hid (Draw w w7 B w.heap.size w3.heap.size g a len cap (N + 51 + 1 + 1) k c s q v false ds cp) := H6.out.step hc7 hh7 (by omega) (by omega) (by omega)
    clear hc7 hh7 H6
    cases b7
    · have x0 := H7.out.res.c0
      have x1 := H7.out.res.c1
      have x2 := H7.out.res.c2
      have x3 := H7.out.res.c3
      have x4 := H7.out.res.c4
      have x5 := H7.out.res.c5
      have x6 := H7.out.res.c6
      have xf := H7.out.res.fz
      have y0 := H7.out.box.c0
      have y1 := H7.out.box.c1
      have y2 := H7.out.box.c2
      have y3 := H7.out.box.c3
      have y4 := H7.out.box.c4
      have y5 := H7.out.box.c5
      have y6 := H7.out.box.c6
      have yf := H7.out.box.fz
      go_wp2
      obtain ⟨z1, z2, z3, z4⟩ := write_end (M := N + 80) H7.out (Nat.le_refl _) hB (by omega) (by omega)
      exact bodyPost_ret (v := wrV k c s q v false (some ⟨g, 0, none⟩) ds.length cp) (by simp [results, Tryd.results14, go_sem, x0, x1, x2, x3, x4, x5, x6]) rfl ⟨k, c, s, q, v, false, g, cp, ds, rfl, hds, by omega, z1, z2, z3, z4⟩
    · go_wp2_with fail
      refine (pick_any B a len cap (N + 51 + 1 + 1) 3 _ (by omega) (by omega) (by omega) H7.out.cur).mono ?_
      rintro e w8 ⟨r8, rfl, q80, q81, hc8, hh8⟩
      have H8 : Hid (Draw w w8 B w.heap.size w3.heap.size g a len cap (N + 51 + 1 + 1 + 1) k c s q v false ds cp) := H7.out.step hc8 hh8 (by omega) (by omega) (by omega)
      clear hc8 hh8 H7
      by_cases k0 : r8 = 0
      · subst k0
        go_wp2_with fail
        refine (raw_any B a len cap (N + 51 + 1 + 1 + 1) _ (by omega) H8.out.cur).mono ?_
        rintro e w9 ⟨u, rfl, hc9, hh9⟩
        have H9 : Hid (Draw w w9 B w.heap.size w3.heap.size g a len cap (N + 51 + 1 + 1 + 1 + 2) k c s q v false ds cp) := H8.out.step hc9 hh9 (by omega) (by omega) (by omega)
        clear hc9 hh9 H8
        have x0 := H9.out.res.c0
        have x1 := H9.out.res.c1
        have x2 := H9.out.res.c2
        have x3 := H9.out.res.c3
        have x4 := H9.out.res.c4
        have x5 := H9.out.res.c5
        have x6 := H9.out.res.c6
        have xf := H9.out.res.fz
        have y0 := H9.out.box.c0
        have y1 := H9.out.box.c1
        have y2 := H9.out.box.c2
        have y3 := H9.out.box.c3
        have y4 := H9.out.box.c4
        have y5 := H9.out.box.c5
        have y6 := H9.out.box.c6
        have yf := H9.out.box.fz
        go_wp2
        obtain ⟨z1, z2, z3, z4⟩ := write_end (M := N + 80) (H9.out.set 0 (.int .i64 u) (H9.out.box.set0 u) (by omega) (by omega) (by omega) (by omega)) (Nat.le_refl _) hB (by omega) (by omega)
        exact bodyPost_ret (v := wrV u c s q v false (some ⟨g, 0, none⟩) ds.length cp) (by simp [results, Tryd.results14, go_sem, x0, x1, x2, x3, x4, x5, x6]) rfl ⟨u, c, s, q, v, false, g, cp, ds, rfl, hds, by omega, z1, z2, z3, z4⟩
      · by_cases k1 : r8 = 1
        · subst k1
          go_wp2_with fail
          refine (raw_any B a len cap (N + 51 + 1 + 1 + 1) _ (by omega) H8.out.cur).mono ?_
          rintro e w9 ⟨u, rfl, hc9, hh9⟩
          have H9 : Hid (Draw w w9 B w.heap.size w3.heap.size g a len cap (N + 51 + 1 + 1 + 1 + 2) k c s q v false ds cp) := H8.out.step hc9 hh9 (by omega) (by omega) (by omega)
          clear hc9 hh9 H8
          have hB9 := H9.out.cur.lt
          go_wp2_with fail
          have HA : Hid (Below w9.heap.size w9 (w9.alloc (.cells ((([u, 1000000, 1000001] : List Int).map (Value.int .i64)).toArray) 3))) := (Below.refl _ _).alloc (Nat.le_refl _) _
          refine (pick_any B a len cap (N + 51 + 1 + 1 + 1 + 2) 3 _ (by omega) (by omega) (by omega) (H9.out.cur.below HA.out)).mono ?_
          rintro e w10 ⟨r10, rfl, q100, q101, hc10, hh10⟩
          have hcell : w10.cell? ⟨w9.heap.size, r10.toNat, none⟩ = some (.int .i64 _) := (hh10.cell (by simp) (by omega)).trans (ints_cell w9 [u, 1000000, 1000001] _ r10.toNat (by simp; omega))
          generalize List.getD [u, 1000000, 1000001] r10.toNat 0 = y at hcell
          have H10 : Hid (Draw w w10 B w.heap.size w3.heap.size g a len cap (N + 51 + 1 + 1 + 1 + 2 + 1) k c s q v false ds cp) := H9.out.step hc10 ((Hole.of_below HA.out).trans hh10) (by omega) (by omega) (by omega)
          clear hc10 hh10 H9 HA
          have x0 := H10.out.res.c0
          have x1 := H10.out.res.c1
          have x2 := H10.out.res.c2
          have x3 := H10.out.res.c3
          have x4 := H10.out.res.c4
          have x5 := H10.out.res.c5
          have x6 := H10.out.res.c6
          have xf := H10.out.res.fz
          have y0 := H10.out.box.c0
          have y1 := H10.out.box.c1
          have y2 := H10.out.box.c2
          have y3 := H10.out.box.c3
          have y4 := H10.out.box.c4
          have y5 := H10.out.box.c5
          have y6 := H10.out.box.c6
          have yf := H10.out.box.fz
          go_wp2
          obtain ⟨z1, z2, z3, z4⟩ := write_end (M := N + 80) (H10.out.set 4 (.int .i64 y) (H10.out.box.set4 y) (by omega) (by omega) (by omega) (by omega)) (Nat.le_refl _) hB (by omega) (by omega)
          exact bodyPost_ret (v := wrV k c s q y false (some ⟨g, 0, none⟩) ds.length cp) (by simp [results, Tryd.results14, go_sem, x0, x1, x2, x3, x4, x5, x6]) rfl ⟨k, c, s, q, y, false, g, cp, ds, rfl, hds, by omega, z1, z2, z3, z4⟩
        · have k0' : (r8 == 0) = false := by simp [k0]
          have k1' : (r8 == 1) = false := by simp [k1]
          clear k0 k1
          have x0 := H8.out.res.c0
          have x1 := H8.out.res.c1
          have x2 := H8.out.res.c2
          have x3 := H8.out.res.c3
          have x4 := H8.out.res.c4
          have x5 := H8.out.res.c5
          have x6 := H8.out.res.c6
          have xf := H8.out.res.fz
          have y0 := H8.out.box.c0
          have y1 := H8.out.box.c1
          have y2 := H8.out.box.c2
          have y3 := H8.out.box.c3
          have y4 := H8.out.box.c4
          have y5 := H8.out.box.c5
          have y6 := H8.out.box.c6
          have yf := H8.out.box.fz
          go_wp2
          obtain ⟨z1, z2, z3, z4⟩ := write_end (M := N + 80) (H8.out.set 5 (.bool (!false)) (H8.out.box.set5 (!false)) (by omega) (by omega) (by omega) (by omega)) (Nat.le_refl _) hB (by omega) (by omega)
          exact bodyPost_ret (v := wrV k c s q v (!false) (some ⟨g, 0, none⟩) ds.length cp) (by simp [results, Tryd.results14, go_sem, x0, x1, x2, x3, x4, x5, x6]) rfl ⟨k, c, s, q, v, (!false), g, cp, ds, rfl, hds, by omega, z1, z2, z3, z4⟩

end Go.Proofs.YtlbcpppmpbbkdabDoor

/- The contract of DrawTagCmp. -/
namespace Go.Proofs.YtlbcpppmpbbkdabDoor
open Go.ChangeShapes Go.WideShapes Go.ChangeAt Go.RowKit Go.Joins
attribute [local go_sem ↓] Go.wp_at_zero Go.wp_at_succ

theorem Hole.belowOf {B c : Nat} {w0 w w' : World} (h : Hole B w w') (h0 : Below c w0 w) (hB : c ≤ B) (hc : c ≤ w.heap.size) : Below c w0 w' := Hole.below h0 h hB hc

theorem open_as (a : Option Addr) (len cap B : Nat) (w : World) (hB : w.heap.size = B) (h : Bytes w a len) (hl : len ≤ 1048576) :
    Calls Tryd.prog 13 #[.slice a len cap] w fun e w' => e = .returned (.pointer (some ⟨B, 0, none⟩)) ∧ Cur w' B a len cap 0 ∧ Below w.heap.size w w' := by
  subst hB
  exact open_any a len cap w h hl

theorem two_tags (w : World) (t : Nat) : TagBox ((w.alloc (.cells #[.int .i64 0, .int .i64 0, .int .i64 0] t)).alloc (.cells #[.int .i64 0, .int .i64 0, .int .i64 0] t)) w.heap.size 0 0 0 ∧ TagBox ((w.alloc (.cells #[.int .i64 0, .int .i64 0, .int .i64 0] t)).alloc (.cells #[.int .i64 0, .int .i64 0, .int .i64 0] t)) (w.heap.size + 1) 0 0 0 := by
  have h := TagBox.start (w.alloc (.cells #[.int .i64 0, .int .i64 0, .int .i64 0] t)) 0 0 0 t
  have e : (w.alloc (.cells #[.int .i64 0, .int .i64 0, .int .i64 0] t)).heap.size = w.heap.size + 1 := by simp
  rw [e] at h
  exact ⟨(TagBox.start w 0 0 0 t).hole (Hole.of_below (B := w.heap.size + 2) ((Below.refl _ _).alloc (Nat.le_refl _) _)) (by omega), h⟩

end Go.Proofs.YtlbcpppmpbbkdabDoor

/- Plain facts on the order of writes: no Go in sight. -/
namespace Go.Proofs.YtlbcpppmpbbkdabDoor

def dcmp (d e : Dp) : Int := if d.k ≠ e.k then sgn d.k e.k else tcmp d.c d.s d.q e.c e.s e.q

def depsCmp : List Dp → List Dp → Int
  | [], [] => 0
  | [], _ :: _ => -1
  | _ :: _, [] => 1
  | d :: r, e :: t => if dcmp d e ≠ 0 then dcmp d e else depsCmp r t

def bit (b : Bool) : Int := if b then 1 else 0

def wcmp (k c s q v : Int) (de : Bool) (xs : List Dp) (k' c' s' q' v' : Int) (de' : Bool) (ys : List Dp) : Int :=
  if tcmp c s q c' s' q' ≠ 0 then tcmp c s q c' s' q' else if k ≠ k' then sgn k k' else if v ≠ v' then sgn v v' else if de ≠ de' then sgn (bit de) (bit de') else depsCmp xs ys

theorem dcmp_or (d e : Dp) : orI [sgn d.k e.k, tcmp d.c d.s d.q e.c e.s e.q] = dcmp d e := by
  unfold dcmp
  by_cases h : d.k = e.k
  · have hs : sgn e.k e.k = 0 := sgn_self _
    simp only [orI, h]
    by_cases ht : tcmp d.c d.s d.q e.c e.s e.q = 0
    · simp [ht, hs]
    · simp [ht, hs]
  · have hs : sgn d.k e.k ≠ 0 := fun e0 => h (sgn_zero.1 e0)
    simp [orI, hs, h]

theorem depsCmp_first : ∀ (xs ys : List Dp) (j : Nat), j < xs.length → j < ys.length → (∀ i, i < j → dcmp (xs.getD i dz) (ys.getD i dz) = 0) → dcmp (xs.getD j dz) (ys.getD j dz) ≠ 0 → depsCmp xs ys = dcmp (xs.getD j dz) (ys.getD j dz)
  | [], _, _, h, _, _, _ => by simp at h
  | _ :: _, [], _, _, h, _, _ => by simp at h
  | d :: r, e :: t, 0, _, _, _, hn => by
    have hn' : dcmp d e ≠ 0 := hn
    simp [depsCmp, hn']
  | d :: r, e :: t, j + 1, h1, h2, hz, hn => by
    have h0 : dcmp d e = 0 := hz 0 (by omega)
    have ih := depsCmp_first r t j (by simpa using h1) (by simpa using h2) (fun i hi => by simpa using hz (i + 1) (by omega)) (by simpa using hn)
    simp only [depsCmp, h0, ne_eq, not_true_eq_false, if_false]
    simpa using ih

theorem depsCmp_none : ∀ (xs ys : List Dp), (∀ i, i < xs.length → i < ys.length → dcmp (xs.getD i dz) (ys.getD i dz) = 0) → depsCmp xs ys = sgn xs.length ys.length
  | [], [], _ => by simp [depsCmp, sgn]
  | [], e :: t, _ => by
    simp only [depsCmp, sgn, List.length_nil, List.length_cons]
    rw [if_pos (by omega)]
  | d :: r, [], _ => by
    simp only [depsCmp, sgn, List.length_nil, List.length_cons]
    rw [if_neg (by omega), if_pos (by omega)]
  | d :: r, e :: t, h => by
    have h0 : dcmp d e = 0 := h 0 (by simp) (by simp)
    have ih := depsCmp_none r t (fun i h1 h2 => by simpa using h (i + 1) (by simpa using h1) (by simpa using h2))
    simp only [depsCmp, h0, ne_eq, not_true_eq_false, if_false, ih, List.length_cons]
    unfold sgn
    by_cases h1 : (r.length : Int) < t.length
    · rw [if_pos h1, if_pos (by omega)]
    · rw [if_neg h1]
      by_cases h2 : (t.length : Int) < r.length
      · rw [if_pos h2, if_neg (by omega), if_pos (by omega)]
      · rw [if_neg h2, if_neg (by omega), if_neg (by omega)]

theorem bit_sgn {a b : Bool} : sgn (bit a) (bit b) = 0 ↔ a = b := by
  rw [sgn_zero]
  cases a <;> cases b <;> simp [bit]

theorem wcmp_or (k c s q v : Int) (de : Bool) (xs : List Dp) (k' c' s' q' v' : Int) (de' : Bool) (ys : List Dp) :
    orI [tcmp c s q c' s' q', sgn k k', sgn v v', sgn (bit de) (bit de'), depsCmp xs ys] = wcmp k c s q v de xs k' c' s' q' v' de' ys := by
  simp only [orI, wcmp, ne_eq, sgn_zero (a := k), sgn_zero (a := v), bit_sgn]
  by_cases h : depsCmp xs ys = 0
  · simp [h]
  · simp [h]

theorem wcmp_tag {k c s q v : Int} {de : Bool} {xs : List Dp} {k' c' s' q' v' : Int} {de' : Bool} {ys : List Dp} (h : ¬ (c = c' ∧ s = s' ∧ q = q')) : wcmp k c s q v de xs k' c' s' q' v' de' ys = tcmp c s q c' s' q' := by
  unfold wcmp
  rw [if_pos]
  intro e
  exact h (tcmp_zero.1 e)

theorem wcmp_key {k c s q v : Int} {de : Bool} {xs : List Dp} {k' v' : Int} {de' : Bool} {ys : List Dp} (h : k ≠ k') : wcmp k c s q v de xs k' c s q v' de' ys = sgn k k' := by
  unfold wcmp
  rw [tcmp_self, if_neg (by simp), if_pos h]

theorem wcmp_val {k c s q v : Int} {de : Bool} {xs : List Dp} {v' : Int} {de' : Bool} {ys : List Dp} (h : v ≠ v') : wcmp k c s q v de xs k c s q v' de' ys = sgn v v' := by
  unfold wcmp
  rw [tcmp_self, if_neg (by simp), if_neg (by simp), if_pos h]

theorem wcmp_dead {k c s q v : Int} {de : Bool} {xs : List Dp} {de' : Bool} {ys : List Dp} (h : de ≠ de') : wcmp k c s q v de xs k c s q v de' ys = sgn (bit de) (bit de') := by
  unfold wcmp
  rw [tcmp_self, if_neg (by simp), if_neg (by simp), if_neg (by simp), if_pos h]

theorem wcmp_deps {k c s q v : Int} {de : Bool} {xs ys : List Dp} : wcmp k c s q v de xs k c s q v de ys = depsCmp xs ys := by
  unfold wcmp
  rw [tcmp_self, if_neg (by simp), if_neg (by simp), if_neg (by simp), if_neg (by simp)]

end Go.Proofs.YtlbcpppmpbbkdabDoor

/- The orders of tags and writes: turned round they are turned round, and they go on. No Go in sight. -/
namespace Go.Proofs.YtlbcpppmpbbkdabDoor

def lexI (a b : Int) : Int := if a ≠ 0 then a else b

/-- What three answers of one order have to do with one another: of a with b, of b with c, of a with c. -/
structure T3 (x y z : Int) : Prop where
  l : x = 0 → z = y
  r : y = 0 → z = x
  n : x < 0 → y < 0 → z < 0

theorem T3.lex {x y z x' y' z' : Int} (h : T3 x y z) (h' : T3 x' y' z') : T3 (lexI x x') (lexI y y') (lexI z z') := by
  obtain ⟨l, r, n⟩ := h
  obtain ⟨l', r', n'⟩ := h'
  unfold lexI
  by_cases hx : x = 0
  · have hz := l hx
    by_cases hy : y = 0
    · have hz0 : z = 0 := by omega
      simp only [hx, hy, hz0, ne_eq, not_true_eq_false, if_false]
      exact ⟨l', r', n'⟩
    · have hz0 : z ≠ 0 := by omega
      simp only [hx, hy, hz0, ne_eq, not_true_eq_false, not_false_eq_true, if_false, if_true]
      exact ⟨fun _ => hz, fun e => absurd e hy, fun h1 h2 => by omega⟩
  · by_cases hy : y = 0
    · have hz := r hy
      have hz0 : z ≠ 0 := by omega
      simp only [hx, hy, hz0, ne_eq, not_true_eq_false, not_false_eq_true, if_false, if_true]
      exact ⟨fun e => absurd e hx, fun _ => hz, fun h1 h2 => by omega⟩
    · simp only [hx, hy, ne_eq, not_false_eq_true, if_true]
      refine ⟨fun e => absurd e hx, fun e => absurd e hy, fun h1 h2 => ?_⟩
      have := n h1 h2
      rw [if_pos (by omega)]
      exact this

theorem T3.on {x y z : Int} (h : T3 x y z) (hx : x ≤ 0) (hy : y ≤ 0) : z < 0 ∨ (z = 0 ∧ x = 0 ∧ y = 0) := by
  obtain ⟨l, r, n⟩ := h
  by_cases h0 : x = 0
  · have := l h0
    omega
  · by_cases h1 : y = 0
    · have := r h1
      omega
    · have := n (by omega) (by omega)
      omega

theorem lexI_neg (a b : Int) : lexI (-a) (-b) = -lexI a b := by
  unfold lexI
  by_cases h : a = 0
  · simp [h]
  · have h' : -a ≠ 0 := by omega
    simp [h]

theorem sgn_three (a b c : Int) : T3 (sgn a b) (sgn b c) (sgn a c) := by
  refine ⟨fun h => ?_, fun h => ?_, fun h1 h2 => ?_⟩
  · rw [sgn_zero.1 h]
  · rw [sgn_zero.1 h]
  · unfold sgn at *
    by_cases e1 : a < b
    · by_cases e2 : b < c
      · rw [if_pos (by omega)]
        omega
      · rw [if_neg e2] at h2
        split at h2 <;> omega
    · rw [if_neg e1] at h1
      split at h1 <;> omega

theorem tcmp_lex (c s q c' s' q' : Int) : tcmp c s q c' s' q' = lexI (sgn c c') (lexI (sgn s s') (sgn q q')) := by
  unfold tcmp lexI
  simp only [ne_eq, sgn_zero]

theorem tcmp_three (a1 a2 a3 b1 b2 b3 c1 c2 c3 : Int) : T3 (tcmp a1 a2 a3 b1 b2 b3) (tcmp b1 b2 b3 c1 c2 c3) (tcmp a1 a2 a3 c1 c2 c3) := by
  rw [tcmp_lex, tcmp_lex, tcmp_lex]
  exact (sgn_three _ _ _).lex ((sgn_three _ _ _).lex (sgn_three _ _ _))

theorem tcmp_neg (a1 a2 a3 b1 b2 b3 : Int) : tcmp b1 b2 b3 a1 a2 a3 = -tcmp a1 a2 a3 b1 b2 b3 := by
  rw [tcmp_lex, tcmp_lex, ← lexI_neg, ← lexI_neg, sgn_neg a1 b1, sgn_neg a2 b2, sgn_neg a3 b3]

theorem dcmp_lex (d e : Dp) : dcmp d e = lexI (sgn d.k e.k) (tcmp d.c d.s d.q e.c e.s e.q) := by
  unfold dcmp lexI
  simp only [ne_eq, sgn_zero]

theorem dcmp_three (d e f : Dp) : T3 (dcmp d e) (dcmp e f) (dcmp d f) := by
  rw [dcmp_lex, dcmp_lex, dcmp_lex]
  exact (sgn_three _ _ _).lex (tcmp_three _ _ _ _ _ _ _ _ _)

theorem dcmp_neg (d e : Dp) : dcmp e d = -dcmp d e := by
  rw [dcmp_lex, dcmp_lex, ← lexI_neg, sgn_neg d.k e.k, tcmp_neg d.c d.s d.q e.c e.s e.q]

theorem depsCmp_cons (d e : Dp) (r t : List Dp) : depsCmp (d :: r) (e :: t) = lexI (dcmp d e) (depsCmp r t) := rfl

theorem depsCmp_neg : ∀ xs ys : List Dp, depsCmp ys xs = -depsCmp xs ys
  | [], [] => rfl
  | [], _ :: _ => rfl
  | _ :: _, [] => rfl
  | d :: r, e :: t => by rw [depsCmp_cons, depsCmp_cons, dcmp_neg d e, depsCmp_neg r t, lexI_neg]

theorem depsCmp_three : ∀ xs ys zs : List Dp, T3 (depsCmp xs ys) (depsCmp ys zs) (depsCmp xs zs)
  | [], [], [] => ⟨fun _ => rfl, fun _ => rfl, fun h _ => absurd h (by simp [depsCmp])⟩
  | [], [], _ :: _ => ⟨fun _ => rfl, fun h => absurd h (by simp [depsCmp]), fun h _ => absurd h (by simp [depsCmp])⟩
  | [], _ :: _, [] => ⟨fun h => absurd h (by simp [depsCmp]), fun h => absurd h (by simp [depsCmp]), fun _ h => absurd h (by simp [depsCmp])⟩
  | [], _ :: _, _ :: _ => ⟨fun h => absurd h (by simp [depsCmp]), fun _ => rfl, fun _ _ => by simp [depsCmp]⟩
  | _ :: _, [], [] => ⟨fun h => absurd h (by simp [depsCmp]), fun _ => rfl, fun h _ => absurd h (by simp [depsCmp])⟩
  | _ :: _, [], _ :: _ => ⟨fun h => absurd h (by simp [depsCmp]), fun h => absurd h (by simp [depsCmp]), fun h _ => absurd h (by simp [depsCmp])⟩
  | _ :: _, _ :: _, [] => ⟨fun _ => rfl, fun h => absurd h (by simp [depsCmp]), fun _ h => absurd h (by simp [depsCmp])⟩
  | d :: r, e :: t, f :: u => by
    rw [depsCmp_cons, depsCmp_cons, depsCmp_cons]
    exact (dcmp_three d e f).lex (depsCmp_three r t u)

theorem wcmp_lex (k c s q v : Int) (de : Bool) (xs : List Dp) (k' c' s' q' v' : Int) (de' : Bool) (ys : List Dp) :
    wcmp k c s q v de xs k' c' s' q' v' de' ys = lexI (tcmp c s q c' s' q') (lexI (sgn k k') (lexI (sgn v v') (lexI (sgn (bit de) (bit de')) (depsCmp xs ys)))) := by
  unfold wcmp lexI
  simp only [ne_eq, sgn_zero (a := k), sgn_zero (a := v), bit_sgn]

theorem wcmp_three (k c s q v : Int) (de : Bool) (xs : List Dp) (k' c' s' q' v' : Int) (de' : Bool) (ys : List Dp) (k2 c2 s2 q2 v2 : Int) (de2 : Bool) (zs : List Dp) :
    T3 (wcmp k c s q v de xs k' c' s' q' v' de' ys) (wcmp k' c' s' q' v' de' ys k2 c2 s2 q2 v2 de2 zs) (wcmp k c s q v de xs k2 c2 s2 q2 v2 de2 zs) := by
  rw [wcmp_lex, wcmp_lex, wcmp_lex]
  exact (tcmp_three _ _ _ _ _ _ _ _ _).lex ((sgn_three _ _ _).lex ((sgn_three _ _ _).lex ((sgn_three _ _ _).lex (depsCmp_three _ _ _))))

theorem wcmp_neg (k c s q v : Int) (de : Bool) (xs : List Dp) (k' c' s' q' v' : Int) (de' : Bool) (ys : List Dp) :
    wcmp k' c' s' q' v' de' ys k c s q v de xs = -wcmp k c s q v de xs k' c' s' q' v' de' ys := by
  rw [wcmp_lex, wcmp_lex, ← lexI_neg, ← lexI_neg, ← lexI_neg, ← lexI_neg, tcmp_neg c s q, sgn_neg k k', sgn_neg v v', sgn_neg (bit de) (bit de'), depsCmp_neg xs ys]

theorem depsCmp_bd : ∀ xs ys : List Dp, -1 ≤ depsCmp xs ys ∧ depsCmp xs ys ≤ 1
  | [], [] => by simp [depsCmp]
  | [], _ :: _ => by simp [depsCmp]
  | _ :: _, [] => by simp [depsCmp]
  | d :: r, e :: t => by
    have h := depsCmp_bd r t
    have h1 := sgn_bd d.k e.k
    have h2 := tcmp_bd d.c d.s d.q e.c e.s e.q
    rw [depsCmp_cons, dcmp_lex]
    unfold lexI
    by_cases g1 : sgn d.k e.k = 0
    · by_cases g2 : tcmp d.c d.s d.q e.c e.s e.q = 0
      · simpa [g1, g2] using h
      · simpa [g1, g2] using h2
    · simpa [g1] using h1

theorem wcmp_bd (k c s q v : Int) (de : Bool) (xs : List Dp) (k' c' s' q' v' : Int) (de' : Bool) (ys : List Dp) : -1 ≤ wcmp k c s q v de xs k' c' s' q' v' de' ys ∧ wcmp k c s q v de xs k' c' s' q' v' de' ys ≤ 1 := by
  have h1 := tcmp_bd c s q c' s' q'
  have h2 := sgn_bd k k'
  have h3 := sgn_bd v v'
  have h4 := sgn_bd (bit de) (bit de')
  have h5 := depsCmp_bd xs ys
  unfold wcmp
  split
  · exact h1
  · split
    · exact h2
    · split
      · exact h3
      · split
        · exact h4
        · exact h5

end Go.Proofs.YtlbcpppmpbbkdabDoor
