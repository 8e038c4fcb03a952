import Derived.Test.YtlbcpppmpbbkdacDoorPack12
import Derived.Test.YtlbcpppmpbbkdacDoorPack1
import Derived.Deep.AppendLies
import Derived.OwnWalk
import Derived.Lib.Hide
import Derived.Test.YtlbcpppmpbbkdacDoorPack3
/- The contract of the cursor's deps. -/
namespace Go.Proofs.YtlbcpppmpbbkdacDoor
open Go.ChangeShapes Go.WideShapes Go.ChangeAt Go.RowKit Go.Joins

theorem Cur.belowAt {w w' : World} {B c : Nat} {a : Option Addr} {len cap : Nat} {N : Int} (h : Cur w B a len cap N) (hb : Below c w w') (hB : B < c) : Cur w' B a len cap N := by
  obtain ⟨at_, seed, hc, hN, hk, hl⟩ := h
  have hcell : ∀ b o, b < c → w'.cell? ⟨b, o, none⟩ = w.cell? ⟨b, o, none⟩ := fun b o h => hb.cell (p := ⟨b, o, none⟩) h
  refine ⟨at_, seed, ⟨Nat.lt_of_lt_of_le hc.lt hb.size, (hcell _ _ hB).trans hc.c0, (hcell _ _ hB).trans hc.c1, (hcell _ _ hB).trans hc.c2, fun o => (hb.frozen (p := ⟨B, o, none⟩) hB).trans (hc.fz o), hc.p0, hc.s0, hc.s1⟩, hN, ?_, hl⟩
  rcases hk with h0 | ⟨b, o, ha, hlt, hz⟩
  · exact .inl h0
  · refine .inr ⟨b, o, ha, hlt, fun i hi => ?_⟩
    obtain ⟨z, z0, z1, hcz⟩ := hz i hi
    exact ⟨z, z0, z1, (hcell _ _ (by omega)).trans hcz⟩

theorem Hole.belowAt {B : Nat} {w0 w w' : World} (h : Hole B w0 w) (hb : Below w0.heap.size w w') : Hole B w0 w' :=
  ⟨hb.os.trans h.os, hb.tape.trans h.tape, hb.output.trans h.output, Nat.le_trans h.size hb.size, fun k hk hn => (hb.block k hk).trans (h.block k hk hn)⟩

def flat (ds : List Dp) : List Value := ds.flatMap fun d => [.int .i64 d.k, .int .i64 d.c, .int .i64 d.s, .int .i64 d.q]

theorem flat_length : ∀ ds : List Dp, (flat ds).length = ds.length * 4
  | [] => rfl
  | d :: r => by
    have := flat_length r
    simp only [flat, List.flatMap_cons, List.length_append, List.length_cons, List.length_nil] at this ⊢
    omega

theorem flat_snoc (ds : List Dp) (d : Dp) : flat (ds ++ [d]) = flat ds ++ [.int .i64 d.k, .int .i64 d.c, .int .i64 d.s, .int .i64 d.q] := by
  simp [flat]

theorem flat_at : ∀ (ds : List Dp) (i : Nat), i < ds.length → (flat ds)[i * 4]? = some (.int .i64 (ds.getD i dz).k) ∧ (flat ds)[i * 4 + 1]? = some (.int .i64 (ds.getD i dz).c) ∧ (flat ds)[i * 4 + 2]? = some (.int .i64 (ds.getD i dz).s) ∧ (flat ds)[i * 4 + 3]? = some (.int .i64 (ds.getD i dz).q)
  | [], _, h => by simp at h
  | d :: r, 0, _ => by simp [flat]
  | d :: r, i + 1, h => by
    have ih := flat_at r i (by simpa using h)
    have e : flat (d :: r) = [.int .i64 d.k, .int .i64 d.c, .int .i64 d.s, .int .i64 d.q] ++ flat r := by simp [flat]
    rw [e]
    have g : (d :: r).getD (i + 1) dz = r.getD i dz := by simp
    rw [g]
    refine ⟨?_, ?_, ?_, ?_⟩
    · rw [List.getElem?_append_right (by simp; omega)]
      simpa [show (i + 1) * 4 - 4 = i * 4 by omega] using ih.1
    · rw [List.getElem?_append_right (by simp; omega)]
      simpa [show (i + 1) * 4 + 1 - 4 = i * 4 + 1 by omega] using ih.2.1
    · rw [List.getElem?_append_right (by simp; omega)]
      simpa [show (i + 1) * 4 + 2 - 4 = i * 4 + 2 by omega] using ih.2.2.1
    · rw [List.getElem?_append_right (by simp; omega)]
      simpa [show (i + 1) * 4 + 3 - 4 = i * 4 + 3 by omega] using ih.2.2.2

/-- A list of dependencies of the call's own: its slice, and the row that it leads to. -/
structure OwnDeps (w : World) (base g cap : Nat) (ds : List Dp) : Prop where
  le : base ≤ g
  lt : g < w.heap.size
  own : w.ownsRow base 102 4 (.slice (some ⟨g, 0, none⟩) ds.length cap) ds.length (flat ds)

theorem OwnDeps.holds {w : World} {base g cap : Nat} {ds : List Dp} (h : OwnDeps w base g cap ds) : HoldsDeps w g 0 ds := by
  intro i hi
  obtain ⟨_, h1 | ⟨g', cap', cur, hv, _, hb, _, _, _, htake⟩⟩ := h.own
  · obtain ⟨h1, _⟩ := h1
    cases h1
  · have hg : g = g' := by
      injection hv with h1
      injection h1 with h1
      injection h1
    subst hg
    have hc : ∀ j, j < ds.length * 4 → w.cell? ⟨g, j, none⟩ = (flat ds)[j]? := by
      intro j hj
      rw [cell_of_row w g j cur _ _ hb, ← htake, List.getElem?_take_of_lt hj]
      simp
    have ha := flat_at ds i hi
    rw [Nat.zero_add]
    exact ⟨(hc _ (by omega)).trans ha.1, (hc _ (by omega)).trans ha.2.1, (hc _ (by omega)).trans ha.2.2.1, (hc _ (by omega)).trans ha.2.2.2⟩

theorem OwnDeps.hole {w w' : World} {B base g cap : Nat} {ds : List Dp} (h : OwnDeps w base g cap ds) (hh : Hole B w w') (hB : B < base) : OwnDeps w' base g cap ds := by
  refine ⟨h.le, Nat.lt_of_lt_of_le h.lt hh.size, h.own.1, ?_⟩
  rcases h.own.2 with h1 | ⟨g', cap', cur, hv, hb, hblk, r1, r2, r3, r4⟩
  · exact .inl h1
  · have hg : g = g' := by
      injection hv with h1
      injection h1 with h1
      injection h1
    subst hg
    exact .inr ⟨g, cap', cur, hv, hb, (hh.block g h.lt (by have := h.le; omega)).trans hblk, r1, r2, r3, r4⟩

theorem infoDep' : (Tryd.prog.info? 102).map (fun i => (i.zero, i.size, i.bytes)) = some (some (depV 0 0 0 0), 4, 32) := by kernel_rfl

theorem own_start (w : World) (base : Nat) (hb : base ≤ w.heap.size) : OwnDeps (w.alloc (.cells #[] 102)) base w.heap.size 0 [] :=
  ⟨hb, by simp, World.ownsRow_made w #[] 0 hb (by simp [maxLen]) (by simp)⟩

/-- Behind an append of one element. -/
theorem own_next {w W w1 : World} {base g g' cap' : Nat} {ds : List Dp} {d : Dp} (hle : base ≤ g) (hW : Below w.heap.size w W)
    (hown1 : w1.ownsRow base 102 4 (.slice (some ⟨g', 0, none⟩) (ds.length + 1) cap') (ds.length + 1) (flat ds ++ [.int .i64 d.k, .int .i64 d.c, .int .i64 d.s, .int .i64 d.q])) (hgrow : W.grownBy w1 (some g)) (hlt : g' < w1.heap.size) (hb : base ≤ w.heap.size) :
    OwnDeps w1 base g' cap' (ds ++ [d]) ∧ Below base w w1 := by
  have e : (ds ++ [d]).length = ds.length + 1 := by simp
  refine ⟨⟨?_, hlt, by rw [e, flat_snoc]; exact hown1⟩, ?_⟩
  · rcases hown1.2 with h1 | ⟨g2, _, _, hv, hb2, _⟩
    · obtain ⟨h1, _⟩ := h1
      cases h1
    · have hg : g' = g2 := by
        injection hv with h1
        injection h1 with h1
        injection h1
      omega
  · exact (hW.mono hb).trans ((Below.refl base W).grown hgrow (Nat.le_trans hb hW.size) (fun k hk => by injection hk with hk; omega))

set_option maxRecDepth 100000 in
set_option maxHeartbeats 4000000 in
theorem deps_any (B : Nat) (a : Option Addr) (len cap : Nat) (N : Int) (w : World) (hN : N ≤ 5000) (h : Cur w B a len cap N) :
    Calls Tryd.prog 89 #[.pointer (some ⟨B, 0, none⟩)] w fun e w' => ∃ (g cp : Nat) (ds : List Dp), e = .returned (.slice (some ⟨g, 0, none⟩) ds.length cp) ∧ ds.length ≤ 7 ∧ OwnDeps w' w.heap.size g cp ds ∧ Cur w' B a len cap (N + 40) ∧ Hole B w w' := by
  have HC : Hid (Cur w B a len cap N) := h
  have hB := h.lt
  obtain ⟨i0, hi0, hz0, hz1, hz2⟩ := info_parts infoDep'
  have HI0 : Hid (Tryd.prog.info? 102 = some i0) := hi0
  have HZ0 : Hid (i0.zero = some (depV 0 0 0 0)) := hz0
  have HZ1 : Hid (i0.size = 4) := hz1
  have HZ2 : Hid (i0.bytes = 32) := hz2
  clear h hi0 hz0 hz1 hz2
  go_enter Tryd.func89, Tryd.ntmps89
  go_wp2
  go_loopw [3, 4] (fun o i wr => ∃ (j g cp : Nat) (ds : List Dp), j ≤ 6 ∧ ds.length ≤ j ∧ i = .int .i64 j ∧ o = .slice (some ⟨g, 0, none⟩) ds.length cp ∧ Hid (OwnDeps wr w.heap.size g cp ds) ∧ Hid (Cur wr B a len cap (N + 4 * j)) ∧ Hid (Hole B w wr)) (fun _ i _ => 6 - (intOf i).toNat)
  case atStart => exact ⟨0, w.heap.size, 0, [], by omega, by simp, rfl, rfl, own_start w _ (Nat.le_refl _), (HC.out.below ((Below.refl _ _).alloc (Nat.le_refl _) _)).more (by omega), Hole.of_below ((Below.refl _ _).alloc (Nat.le_refl _) _)⟩
  case round =>
    obtain ⟨j, g, cp, ds, hj, hds, rfl, rfl, HO, HC1, HH⟩ := hrel
    by_cases hj' : j < 6
    · have i1 : (j : Int) < 6 := by omega
      go_wp2_with fail
      refine (pick_any B a len cap (N + 4 * j) 4 _ (by omega) (by omega) (by omega) HC1.out).mono ?_
      rintro e w1 ⟨r1, rfl, q10, q11, hc1, hh1⟩
      have HC2 : Hid (Cur w1 B a len cap (N + 4 * j + 1)) := hc1
      have HO2 : Hid (OwnDeps w1 w.heap.size g cp ds) := HO.out.hole hh1 hB
      have HH2 : Hid (Hole B w w1) := HH.out.trans hh1
      clear hc1 hh1 HO HC1 HH
      by_cases k0 : r1 = 0
      · subst k0
        go_wp2_with fail
        refine (pick_any B a len cap (N + 4 * j + 1) 4 _ (by omega) (by omega) (by omega) HC2.out).mono ?_
        rintro e w2 ⟨r2, rfl, q20, q21, hc2, hh2⟩
        have HC3 : Hid (Cur w2 B a len cap (N + 4 * j + 2)) := hc2.more (by omega)
        have HO3 : Hid (OwnDeps w2 w.heap.size g cp ds) := HO2.out.hole hh2 hB
        have HH3 : Hid (Hole B w w2) := HH2.out.trans hh2
        clear hc2 hh2 HO2 HC2 HH2
        go_wp2_with fail
        refine (pick_any B a len cap (N + 4 * j + 2) 4 _ (by omega) (by omega) (by omega) HC3.out).mono ?_
        rintro e w3 ⟨r3, rfl, q30, q31, hc3, hh3⟩
        have HC4 : Hid (Cur w3 B a len cap (N + 4 * j + 3)) := hc3.more (by omega)
        have HO4 : Hid (OwnDeps w3 w.heap.size g cp ds) := HO3.out.hole hh3 hB
        have HH4 : Hid (Hole B w w3) := HH3.out.trans hh3
        clear hc3 hh3 HO3 HC3 HH3
        go_wp2_with fail
        refine (pick_any B a len cap (N + 4 * j + 3) 4 _ (by omega) (by omega) (by omega) HC4.out).mono ?_
        rintro e w4 ⟨r4, rfl, q40, q41, hc4, hh4⟩
        have HC5 : Hid (Cur w4 B a len cap (N + 4 * j + 4)) := hc4.more (by omega)
        have HO5 : Hid (OwnDeps w4 w.heap.size g cp ds) := HO4.out.hole hh4 hB
        have HH5 : Hid (Hole B w w4) := HH4.out.trans hh4
        clear hc4 hh4 HO4 HC4 HH4
        have hzw4 : w.heap.size ≤ w4.heap.size := HH5.out.size
        go_wp2_with (at_builtin; refine wpList_append_lies _ (by rfl) _ _ _ (by rfl) w.heap.size 102 i0 _ 4 32 Tryd.underlying79 HI0.out HZ0.out HZ1.out HZ2.out (by rfl) (by omega) (.slice (some ⟨g, 0, none⟩) ds.length cp) ds.length (flat ds) (by rfl) (HO5.out.own.alloc _) ⟨w4.heap.size, 0, none⟩ 1 1 [.int .i64 (j : Int), .int .i64 (1 + r2), .int .i64 r3, .int .i64 (1 + r4)] (by rfl) (by rfl) (World.news_of_block (cs := #[.int .i64 (j : Int), .int .i64 (1 + r2), .int .i64 r3, .int .i64 (1 + r4)]) (t := 102) (fr := (0, 0)) (heap_alloc_new w4 _)) (by simp [Value.oneCell']) (by omega) (by simp [maxLen]; omega) (by omega) (by simp; omega) (w4.heap.size + 1) (by simp) ?_; intro g' cp' w5 hown1 hgrow hat hlt)
        obtain ⟨hO6, hb6⟩ := own_next (d := ⟨(j : Int), 1 + r2, r3, 1 + r4⟩) HO5.out.le ((Below.refl w4.heap.size w4).alloc (Nat.le_refl _) _) hown1 hgrow hlt hzw4
        have HO6 : Hid (OwnDeps w5 w.heap.size g' cp' (ds ++ [⟨(j : Int), 1 + r2, r3, 1 + r4⟩])) := hO6
        have HC6 : Hid (Cur w5 B a len cap (N + 4 * (j + 1 : Nat))) := (HC5.out.belowAt hb6 hB).more (by omega)
        have HH6 : Hid (Hole B w w5) := HH5.out.belowAt hb6
        clear hO6 hb6 hown1 hgrow hat hlt HO5 HC5 HH5
        have HL : Hid ((ds ++ [(⟨(j : Int), 1 + r2, r3, 1 + r4⟩ : Dp)]).length = ds.length + 1) := by simp [Hid]
        go_wp2
        exact ⟨⟨j + 1, g', cp', ds ++ [⟨(j : Int), 1 + r2, r3, 1 + r4⟩], by omega, by rw [HL.out]; omega, by go_num, by rw [HL.out], HO6, HC6, HH6⟩, by simp [intOf]; omega⟩
      · have k0' : (r1 == 0) = false := by simp [k0]
        clear k0
        have HC3 : Hid (Cur w1 B a len cap (N + 4 * (j + 1 : Nat))) := HC2.out.more (by omega)
        go_wp2
        exact ⟨⟨j + 1, g, cp, ds, by omega, by omega, by go_num, rfl, HO2, HC3, HH2⟩, by simp [intOf]; omega⟩
    · have hj6 : j = 6 := by omega
      subst hj6
      go_wp2_with fail
      refine (once_any B a len cap (N + 24) 16 _ (by omega) (by omega) (by omega) (HC1.out.more (by omega))).mono ?_
      rintro e w1 ⟨b1, rfl, hc1, hh1⟩
      have HC2 : Hid (Cur w1 B a len cap (N + 25)) := hc1.more (by omega)
      have HO2 : Hid (OwnDeps w1 w.heap.size g cp ds) := HO.out.hole hh1 hB
      have HH2 : Hid (Hole B w w1) := HH.out.trans hh1
      clear hc1 hh1 HO HC1 HH
      cases b1
      · go_wp2
        go_ret
        exact ⟨g, cp, ds, rfl, by omega, HO2.out, HC2.out.more (by omega), HH2.out⟩
      · go_wp2_with fail
        refine (raw_any B a len cap (N + 25) _ (by omega) HC2.out).mono ?_
        rintro e w2 ⟨v, rfl, hc2, hh2⟩
        have HC3 : Hid (Cur w2 B a len cap (N + 27)) := hc2.more (by omega)
        have HO3 : Hid (OwnDeps w2 w.heap.size g cp ds) := HO2.out.hole hh2 hB
        have HH3 : Hid (Hole B w w2) := HH2.out.trans hh2
        clear hc2 hh2 HO2 HC2 HH2
        go_wp2_with fail
        refine (tag_any B a len cap (N + 27) _ (by omega) HC3.out).mono ?_
        rintro e w4 ⟨c, s, q, rfl, hc4, hh4⟩
        have HC5 : Hid (Cur w4 B a len cap (N + 36)) := hc4.more (by omega)
        have HO5 : Hid (OwnDeps w4 w.heap.size g cp ds) := HO3.out.hole hh4 hB
        have HH5 : Hid (Hole B w w4) := HH3.out.trans hh4
        clear hc4 hh4 HO3 HC3 HH3
        have hzw4 : w.heap.size ≤ w4.heap.size := HH5.out.size
        go_wp2_with (at_builtin; refine wpList_append_lies _ (by rfl) _ _ _ (by rfl) w.heap.size 102 i0 _ 4 32 Tryd.underlying79 HI0.out HZ0.out HZ1.out HZ2.out (by rfl) (by omega) (.slice (some ⟨g, 0, none⟩) ds.length cp) ds.length (flat ds) (by rfl) (HO5.out.own.alloc _) ⟨w4.heap.size, 0, none⟩ 1 1 [.int .i64 v, .int .i64 c, .int .i64 s, .int .i64 q] (by rfl) (by rfl) (World.news_of_block (cs := #[.int .i64 v, .int .i64 c, .int .i64 s, .int .i64 q]) (t := 102) (fr := (0, 0)) (heap_alloc_new w4 _)) (by simp [Value.oneCell']) (by omega) (by simp [maxLen]; omega) (by omega) (by simp; omega) (w4.heap.size + 1) (by simp) ?_; intro g' cp' w5 hown1 hgrow hat hlt)
        obtain ⟨hO6, hb6⟩ := own_next (d := ⟨v, c, s, q⟩) HO5.out.le ((Below.refl w4.heap.size w4).alloc (Nat.le_refl _) _) hown1 hgrow hlt hzw4
        have HO6 : Hid (OwnDeps w5 w.heap.size g' cp' (ds ++ [⟨v, c, s, q⟩])) := hO6
        have HC6 : Hid (Cur w5 B a len cap (N + 40)) := (HC5.out.belowAt hb6 hB).more (by omega)
        have HH6 : Hid (Hole B w w5) := HH5.out.belowAt hb6
        clear hO6 hb6 hown1 hgrow hat hlt HO5 HC5 HH5
        have HL : Hid ((ds ++ [(⟨v, c, s, q⟩ : Dp)]).length = ds.length + 1) := by simp [Hid]
        go_wp2
        go_ret
        exact ⟨g', cp', ds ++ [⟨v, c, s, q⟩], by rw [HL.out]; rfl, by rw [HL.out]; omega, HO6.out, HC6.out, HH6.out⟩

end Go.Proofs.YtlbcpppmpbbkdacDoor

/- The contract of the cursor's write. -/
namespace Go.Proofs.YtlbcpppmpbbkdacDoor
open Go.ChangeShapes Go.WideShapes Go.ChangeAt Go.RowKit Go.Joins

/-- A write in a block of its own. -/
structure WBox (w : World) (b : Nat) (k c s q v : Int) (de : Bool) (x : Option Addr) (len cap : Nat) : Prop where
  lt : b < w.heap.size
  c0 : w.cell? ⟨b, 0, none⟩ = some (.int .i64 k)
  c1 : w.cell? ⟨b, 1, none⟩ = some (.int .i64 c)
  c2 : w.cell? ⟨b, 2, none⟩ = some (.int .i64 s)
  c3 : w.cell? ⟨b, 3, none⟩ = some (.int .i64 q)
  c4 : w.cell? ⟨b, 4, none⟩ = some (.int .i64 v)
  c5 : w.cell? ⟨b, 5, none⟩ = some (.bool de)
  c6 : w.cell? ⟨b, 6, none⟩ = some (.slice x len cap)
  fz : ∀ o, w.frozen? ⟨b, o, none⟩ = false

theorem WBox.start (w : World) (k c s q v : Int) (de : Bool) (x : Option Addr) (len cap : Nat) (t : Nat) : WBox (w.alloc (.cells #[.int .i64 k, .int .i64 c, .int .i64 s, .int .i64 q, .int .i64 v, .bool de, .slice x len cap] t)) w.heap.size k c s q v de x len cap :=
  ⟨by simp, by simp [go_sem], by simp [go_sem], by simp [go_sem], by simp [go_sem], by simp [go_sem], by simp [go_sem], by simp [go_sem], fun o => by simp [go_sem]⟩

theorem WBox.hole {w w' : World} {B b : Nat} {k c s q v : Int} {de : Bool} {x : Option Addr} {len cap : Nat} (h : WBox w b k c s q v de x len cap) (hh : Hole B w w') (hn : b ≠ B) : WBox w' b k c s q v de x len cap :=
  ⟨Nat.lt_of_lt_of_le h.lt hh.size, (hh.cell h.lt hn).trans h.c0, (hh.cell h.lt hn).trans h.c1, (hh.cell h.lt hn).trans h.c2, (hh.cell h.lt hn).trans h.c3, (hh.cell h.lt hn).trans h.c4, (hh.cell h.lt hn).trans h.c5, (hh.cell h.lt hn).trans h.c6, fun o => (hh.frozen h.lt hn).trans (h.fz o)⟩

theorem WBox.other {w : World} {R b : Nat} {k c s q v : Int} {de : Bool} {x : Option Addr} {len cap : Nat} (h : WBox w b k c s q v de x len cap) (hn : R ≠ b) (o : Nat) (y : Value) : WBox (w.setCell ⟨R, o, none⟩ y) b k c s q v de x len cap := by
  have hne : ∀ o', (Addr.mk R o none) ≠ ⟨b, o', none⟩ := fun o' e => hn (by injection e)
  exact ⟨by simpa [World.setCell] using h.lt, (World.cell?_setCell_other _ _ _ _ (hne _)).trans h.c0, (World.cell?_setCell_other _ _ _ _ (hne _)).trans h.c1, (World.cell?_setCell_other _ _ _ _ (hne _)).trans h.c2, (World.cell?_setCell_other _ _ _ _ (hne _)).trans h.c3, (World.cell?_setCell_other _ _ _ _ (hne _)).trans h.c4, (World.cell?_setCell_other _ _ _ _ (hne _)).trans h.c5, (World.cell?_setCell_other _ _ _ _ (hne _)).trans h.c6, fun o => by rw [World.frozen?_setCell]; exact h.fz o⟩

theorem WBox.set0 {w : World} {b : Nat} {k c s q v : Int} {de : Bool} {x : Option Addr} {len cap : Nat} (h : WBox w b k c s q v de x len cap) (y : Int) : WBox (w.setCell ⟨b, 0, none⟩ (.int .i64 y)) b y c s q v de x len cap :=
  ⟨by simpa [World.setCell] using h.lt, cell_set_same h.c0, cell_set_off h.c1 (by omega), cell_set_off h.c2 (by omega), cell_set_off h.c3 (by omega), cell_set_off h.c4 (by omega), cell_set_off h.c5 (by omega), cell_set_off h.c6 (by omega), fun o => by rw [World.frozen?_setCell]; exact h.fz o⟩

theorem WBox.set1 {w : World} {b : Nat} {k c s q v : Int} {de : Bool} {x : Option Addr} {len cap : Nat} (h : WBox w b k c s q v de x len cap) (y : Int) : WBox (w.setCell ⟨b, 1, none⟩ (.int .i64 y)) b k y s q v de x len cap :=
  ⟨by simpa [World.setCell] using h.lt, cell_set_off h.c0 (by omega), cell_set_same h.c1, cell_set_off h.c2 (by omega), cell_set_off h.c3 (by omega), cell_set_off h.c4 (by omega), cell_set_off h.c5 (by omega), cell_set_off h.c6 (by omega), fun o => by rw [World.frozen?_setCell]; exact h.fz o⟩

theorem WBox.set4 {w : World} {b : Nat} {k c s q v : Int} {de : Bool} {x : Option Addr} {len cap : Nat} (h : WBox w b k c s q v de x len cap) (y : Int) : WBox (w.setCell ⟨b, 4, none⟩ (.int .i64 y)) b k c s q y de x len cap :=
  ⟨by simpa [World.setCell] using h.lt, cell_set_off h.c0 (by omega), cell_set_off h.c1 (by omega), cell_set_off h.c2 (by omega), cell_set_off h.c3 (by omega), cell_set_same h.c4, cell_set_off h.c5 (by omega), cell_set_off h.c6 (by omega), fun o => by rw [World.frozen?_setCell]; exact h.fz o⟩

theorem WBox.set5 {w : World} {b : Nat} {k c s q v : Int} {de : Bool} {x : Option Addr} {len cap : Nat} (h : WBox w b k c s q v de x len cap) (y : Bool) : WBox (w.setCell ⟨b, 5, none⟩ (.bool y)) b k c s q v y x len cap :=
  ⟨by simpa [World.setCell] using h.lt, cell_set_off h.c0 (by omega), cell_set_off h.c1 (by omega), cell_set_off h.c2 (by omega), cell_set_off h.c3 (by omega), cell_set_off h.c4 (by omega), cell_set_same h.c5, cell_set_off h.c6 (by omega), fun o => by rw [World.frozen?_setCell]; exact h.fz o⟩

theorem WBox.set6 {w : World} {b : Nat} {k c s q v : Int} {de : Bool} {x : Option Addr} {len cap : Nat} (h : WBox w b k c s q v de x len cap) (y : Option Addr) (l' c' : Nat) : WBox (w.setCell ⟨b, 6, none⟩ (.slice y l' c')) b k c s q v de y l' c' :=
  ⟨by simpa [World.setCell] using h.lt, cell_set_off h.c0 (by omega), cell_set_off h.c1 (by omega), cell_set_off h.c2 (by omega), cell_set_off h.c3 (by omega), cell_set_off h.c4 (by omega), cell_set_off h.c5 (by omega), cell_set_same h.c6, fun o => by rw [World.frozen?_setCell]; exact h.fz o⟩

theorem HoldsDeps.hole {w w' : World} {B g : Nat} {ds : List Dp} (h : HoldsDeps w g 0 ds) (hh : Hole B w w') (hg : g < w.heap.size) (hn : g ≠ B) : HoldsDeps w' g 0 ds := by
  intro i hi
  obtain ⟨h0, h1, h2, h3⟩ := h i hi
  exact ⟨(hh.cell hg hn).trans h0, (hh.cell hg hn).trans h1, (hh.cell hg hn).trans h2, (hh.cell hg hn).trans h3⟩

/-- What is carried through the drawing of a write: the cursor, what was there, the two boxes, the dependencies. -/
structure Draw (w W : World) (B R T g : Nat) (a : Option Addr) (len cap : Nat) (N : Int) (k c s q v : Int) (de : Bool) (ds : List Dp) (cp : Nat) : Prop where
  cur : Cur W B a len cap N
  hole : Hole B w W
  box : WBox W T k c s q v de (some ⟨g, 0, none⟩) ds.length cp
  res : WBox W R 0 0 0 0 0 false none 0 0
  deps : HoldsDeps W g 0 ds
  glt : g < W.heap.size

theorem Draw.step {w W W' : World} {B R T g : Nat} {a : Option Addr} {len cap : Nat} {N M : Int} {k c s q v : Int} {de : Bool} {ds : List Dp} {cp : Nat} (h : Draw w W B R T g a len cap N k c s q v de ds cp) (hc : Cur W' B a len cap M) (hh : Hole B W W') (hT : T ≠ B) (hR : R ≠ B) (hg : g ≠ B) : Draw w W' B R T g a len cap M k c s q v de ds cp :=
  ⟨hc, h.hole.trans hh, h.box.hole hh hT, h.res.hole hh hR, h.deps.hole hh h.glt hg, Nat.lt_of_lt_of_le h.glt hh.size⟩

theorem Draw.set {w W : World} {B R T g : Nat} {a : Option Addr} {len cap : Nat} {N : Int} {k c s q v k' c' s' q' v' : Int} {de de' : Bool} {ds : List Dp} {cp : Nat} (h : Draw w W B R T g a len cap N k c s q v de ds cp) (o : Nat) (y : Value) (hb : WBox (W.setCell ⟨T, o, none⟩ y) T k' c' s' q' v' de' (some ⟨g, 0, none⟩) ds.length cp) (hT : B < T) (hw : w.heap.size ≤ T) (hR : T ≠ R) (hg : T ≠ g) : Draw w (W.setCell ⟨T, o, none⟩ y) B R T g a len cap N k' c' s' q' v' de' ds cp :=
  ⟨h.cur.setOther hT o y, h.hole.setNew hw o y, hb, h.res.other hR o y, h.deps.set hg y, by simpa [World.setCell] using h.glt⟩

theorem write_end {w W : World} {B R T g : Nat} {a : Option Addr} {len cap : Nat} {N M : Int} {k c s q v : Int} {de : Bool} {ds : List Dp} {cp : Nat} (h : Draw w W B R T g a len cap N k c s q v de ds cp) (hR : w.heap.size ≤ R) (hB : B < w.heap.size) (hg : R ≠ g) (hM : N ≤ M) :
    let W' := ((((((W.setCell ⟨R, 0, none⟩ (.int .i64 k)).setCell ⟨R, 1, none⟩ (.int .i64 c)).setCell ⟨R, 2, none⟩ (.int .i64 s)).setCell ⟨R, 3, none⟩ (.int .i64 q)).setCell ⟨R, 4, none⟩ (.int .i64 v)).setCell ⟨R, 5, none⟩ (.bool de)).setCell ⟨R, 6, none⟩ (.slice (some ⟨g, 0, none⟩) ds.length cp)
    g < W'.heap.size ∧ HoldsDeps W' g 0 ds ∧ Cur W' B a len cap M ∧ Hole B w W' :=
  ⟨by simpa [World.setCell] using h.glt, ((((((h.deps.set hg _).set hg _).set hg _).set hg _).set hg _).set hg _).set hg _,
    (((((((h.cur.setOther (by omega) _ _).setOther (by omega) _ _).setOther (by omega) _ _).setOther (by omega) _ _).setOther (by omega) _ _).setOther (by omega) _ _).setOther (by omega) _ _).more hM,
    ((((((h.hole.setNew hR _ _).setNew hR _ _).setNew hR _ _).setNew hR _ _).setNew hR _ _).setNew hR _ _).setNew hR _ _⟩

set_option maxRecDepth 100000 in
set_option maxHeartbeats 8000000 in
theorem write_any (B : Nat) (a : Option Addr) (len cap : Nat) (N : Int) (w : World) (hN : N ≤ 2000) (h : Cur w B a len cap N) :
    Calls Tryd.prog 68 #[.pointer (some ⟨B, 0, none⟩)] w fun e w' => ∃ (k c s q v : Int) (de : Bool) (g cp : Nat) (ds : List Dp), e = .returned (wrV k c s q v de (some ⟨g, 0, none⟩) ds.length cp) ∧ ds.length ≤ 7 ∧ w.heap.size ≤ g ∧ g < w'.heap.size ∧ HoldsDeps w' g 0 ds ∧ Cur w' B a len cap (N + 80) ∧ Hole B w w' := by
  have HC : Hid (Cur w B a len cap N) := h
  have hB := h.lt
  clear h
  go_enter Tryd.func68, Tryd.ntmps68
  go_wp2_with fail
  have HA : Hid (Below w.heap.size w (w.alloc (.cells #[.int .i64 0, .int .i64 0, .int .i64 0, .int .i64 0, .int .i64 0, .bool false, .slice none 0 0] 81))) := (Below.refl _ _).alloc (Nat.le_refl _) _
  have HR0 : Hid (WBox (w.alloc (.cells #[.int .i64 0, .int .i64 0, .int .i64 0, .int .i64 0, .int .i64 0, .bool false, .slice none 0 0] 81)) w.heap.size 0 0 0 0 0 false none 0 0) := WBox.start _ _ _ _ _ _ _ _ _ _ _
  refine (pick_any B a len cap N 6 _ (by omega) (by omega) (by omega) (HC.out.below HA.out)).mono ?_
  rintro e w1 ⟨k, rfl, q10, q11, hc1, hh1⟩
  have HC1 : Hid (Cur w1 B a len cap (N + 1)) := hc1
  have HR1 : Hid (WBox w1 w.heap.size 0 0 0 0 0 false none 0 0) := HR0.out.hole hh1 (by omega)
  have HH1 : Hid (Hole B w w1) := (Hole.of_below HA.out).trans hh1
  clear hc1 hh1 HR0 HA HC
  go_wp2_with fail
  refine (tag_any B a len cap (N + 1) _ (by omega) HC1.out).mono ?_
  rintro e w2 ⟨c0, s, q, rfl, hc2, hh2⟩
  have HC2 : Hid (Cur w2 B a len cap (N + 10)) := hc2.more (by omega)
  have HR2 : Hid (WBox w2 w.heap.size 0 0 0 0 0 false none 0 0) := HR1.out.hole hh2 (by omega)
  have HH2 : Hid (Hole B w w2) := HH1.out.trans hh2
  clear hc2 hh2 HR1 HH1 HC1
  go_wp2_with fail
  refine (pick_any B a len cap (N + 10) 9 _ (by omega) (by omega) (by omega) HC2.out).mono ?_
  rintro e w3 ⟨r3, rfl, q30, q31, hc3, hh3⟩
  have HC3 : Hid (Cur w3 B a len cap (N + 11)) := hc3.more (by omega)
  have HR3 : Hid (WBox w3 w.heap.size 0 0 0 0 0 false none 0 0) := HR2.out.hole hh3 (by omega)
  have HH3 : Hid (Hole B w w3) := HH2.out.trans hh3
  clear hc3 hh3 HR2 HH2 HC2
  have hz3 := HR3.out.lt
  go_wp2_with fail
  have HA : Hid (Below w3.heap.size w3 (w3.alloc (.cells #[.int .i64 k, .int .i64 (wrap64 (c0 + 4)), .int .i64 s, .int .i64 q, .int .i64 (r3 - 2), .bool false, .slice none 0 0] 81))) := (Below.refl _ _).alloc (Nat.le_refl _) _
  have HT0 : Hid (WBox (w3.alloc (.cells #[.int .i64 k, .int .i64 (wrap64 (c0 + 4)), .int .i64 s, .int .i64 q, .int .i64 (r3 - 2), .bool false, .slice none 0 0] 81)) w3.heap.size k (wrap64 (c0 + 4)) s q (r3 - 2) false none 0 0) := WBox.start _ _ _ _ _ _ _ _ _ _ _
  refine (deps_any B a len cap (N + 11) _ (by omega) (HC3.out.below HA.out)).mono ?_
  rintro e w5 ⟨g, cp, ds, rfl, hds, hO, hc5, hh5⟩
  have hle := hO.le
  have hglt := hO.lt
  have hgT : w3.heap.size < g := by simp at hle; omega
  have HD5 : Hid (HoldsDeps w5 g 0 ds) := hO.holds
  have HC5 : Hid (Cur w5 B a len cap (N + 51)) := hc5.more (by omega)
  have HT5 : Hid (WBox w5 w3.heap.size k (wrap64 (c0 + 4)) s q (r3 - 2) false none 0 0) := HT0.out.hole hh5 (by omega)
  have HR5 : Hid (WBox w5 w.heap.size 0 0 0 0 0 false none 0 0) := (HR3.out.hole (Hole.of_below (B := B) HA.out) (by omega)).hole hh5 (by omega)
  have HH5 : Hid (Hole B w w5) := (HH3.out.trans (Hole.of_below HA.out)).trans hh5
  clear hO hc5 hh5 HA HT0 HC3 HR3 HH3 hle
  generalize wrap64 (c0 + 4) = c at *
  generalize r3 - 2 = v at *
  have H5 : Hid (Draw w (w5.setCell ⟨w3.heap.size, 6, none⟩ (.slice (some ⟨g, 0, none⟩) ds.length cp)) B w.heap.size w3.heap.size g a len cap (N + 51) k c s q v false ds cp) :=
    ⟨HC5.out.setOther (by omega) _ _, HH5.out.setNew (by omega) _ _, HT5.out.set6 _ _ _, HR5.out.other (by omega) _ _, HD5.out.set (by show w3.heap.size ≠ g; omega) _, by simpa [World.setCell] using hglt⟩
  have y6 := HT5.out.c6
  have yf := HT5.out.fz
  go_wp2_with fail
  refine (pick_any B a len cap (N + 51) 5 _ (by omega) (by omega) (by omega) H5.out.cur).mono ?_
  rintro e w6 ⟨r6, rfl, q60, q61, hc6, hh6⟩
  have H6 : Hid (Draw w w6 B w.heap.size w3.heap.size g a len cap (N + 51 + 1) k c s q v false ds cp) := H5.out.step hc6 hh6 (by omega) (by omega) (by omega)
  clear hc6 hh6 H5 HC5 HT5 HR5 HH5 HD5 y6 yf
  by_cases j0 : r6 = 0
  · subst j0
    have y4 := H6.out.box.c4
    have y5 := H6.out.box.c5
    have yf := H6.out.box.fz
    have H7 : Hid (Draw w ((w6.setCell ⟨w3.heap.size, 5, none⟩ (.bool true)).setCell ⟨w3.heap.size, 4, none⟩ (.int .i64 0)) B w.heap.size w3.heap.size g a len cap (N + 51 + 1) k c s q 0 true ds cp) := (H6.out.set 5 (.bool true) (H6.out.box.set5 true) (by omega) (by omega) (by omega) (by omega)).set 4 (.int .i64 0) ((H6.out.box.set5 true).set4 0) (by omega) (by omega) (by omega) (by omega)
    clear H6
    go_wp2_with fail
    refine (once_any B a len cap (N + 51 + 1) 14 _ (by omega) (by omega) (by omega) H7.out.cur).mono ?_
    rintro e w7 ⟨b7, rfl, hc7, hh7⟩
    have H7' : Hid (Draw w w7 B w.heap.size w3.heap.size g a len cap (N + 51 + 1 + 1) k c s q 0 true ds cp) := H7.out.step hc7 hh7 (by omega) (by omega) (by omega)
    clear hc7 hh7 H7 y4 y5 yf
    cases b7
    · have x0 := H7'.out.res.c0
      have x1 := H7'.out.res.c1
      have x2 := H7'.out.res.c2
      have x3 := H7'.out.res.c3
      have x4 := H7'.out.res.c4
      have x5 := H7'.out.res.c5
      have x6 := H7'.out.res.c6
      have xf := H7'.out.res.fz
      have y0 := H7'.out.box.c0
      have y1 := H7'.out.box.c1
      have y2 := H7'.out.box.c2
      have y3 := H7'.out.box.c3
      have y4 := H7'.out.box.c4
      have y5 := H7'.out.box.c5
      have y6 := H7'.out.box.c6
      have yf := H7'.out.box.fz
      go_wp2
      obtain ⟨z1, z2, z3, z4⟩ := write_end (M := N + 80) H7'.out (Nat.le_refl _) hB (by omega) (by omega)
      exact bodyPost_ret (v := wrV k c s q 0 true (some ⟨g, 0, none⟩) ds.length cp) (by simp [results, Tryd.results68, go_sem, x0, x1, x2, x3, x4, x5, x6]) rfl ⟨k, c, s, q, 0, true, g, cp, ds, rfl, hds, by omega, z1, z2, z3, z4⟩
    · go_wp2_with fail
      refine (pick_any B a len cap (N + 51 + 1 + 1) 3 _ (by omega) (by omega) (by omega) H7'.out.cur).mono ?_
      rintro e w8 ⟨r8, rfl, q80, q81, hc8, hh8⟩
      have H8 : Hid (Draw w w8 B w.heap.size w3.heap.size g a len cap (N + 51 + 1 + 1 + 1) k c s q 0 true ds cp) := H7'.out.step hc8 hh8 (by omega) (by omega) (by omega)
      clear hc8 hh8 H7'
      by_cases k0 : r8 = 0
      · subst k0
        go_wp2_with fail
        refine (raw_any B a len cap (N + 51 + 1 + 1 + 1) _ (by omega) H8.out.cur).mono ?_
        rintro e w9 ⟨u, rfl, hc9, hh9⟩
        have H9 : Hid (Draw w w9 B w.heap.size w3.heap.size g a len cap (N + 51 + 1 + 1 + 1 + 2) k c s q 0 true ds cp) := H8.out.step hc9 hh9 (by omega) (by omega) (by omega)
        clear hc9 hh9 H8
        have x0 := H9.out.res.c0
        have x1 := H9.out.res.c1
        have x2 := H9.out.res.c2
        have x3 := H9.out.res.c3
        have x4 := H9.out.res.c4
        have x5 := H9.out.res.c5
        have x6 := H9.out.res.c6
        have xf := H9.out.res.fz
        have y0 := H9.out.box.c0
        have y1 := H9.out.box.c1
        have y2 := H9.out.box.c2
        have y3 := H9.out.box.c3
        have y4 := H9.out.box.c4
        have y5 := H9.out.box.c5
        have y6 := H9.out.box.c6
        have yf := H9.out.box.fz
        go_wp2
        obtain ⟨z1, z2, z3, z4⟩ := write_end (M := N + 80) (H9.out.set 0 (.int .i64 u) (H9.out.box.set0 u) (by omega) (by omega) (by omega) (by omega)) (Nat.le_refl _) hB (by omega) (by omega)
        exact bodyPost_ret (v := wrV u c s q 0 true (some ⟨g, 0, none⟩) ds.length cp) (by simp [results, Tryd.results68, go_sem, x0, x1, x2, x3, x4, x5, x6]) rfl ⟨u, c, s, q, 0, true, g, cp, ds, rfl, hds, by omega, z1, z2, z3, z4⟩
      · by_cases k1 : r8 = 1
        · subst k1
          go_wp2_with fail
          refine (raw_any B a len cap (N + 51 + 1 + 1 + 1) _ (by omega) H8.out.cur).mono ?_
          rintro e w9 ⟨u, rfl, hc9, hh9⟩
          have H9 : Hid (Draw w w9 B w.heap.size w3.heap.size g a len cap (N + 51 + 1 + 1 + 1 + 2) k c s q 0 true ds cp) := H8.out.step hc9 hh9 (by omega) (by omega) (by omega)
          clear hc9 hh9 H8
          have hB9 := H9.out.cur.lt
          go_wp2_with fail
          have HA : Hid (Below w9.heap.size w9 (w9.alloc (.cells ((([u, 1000000, 1000001] : List Int).map (Value.int .i64)).toArray) 3))) := (Below.refl _ _).alloc (Nat.le_refl _) _
          refine (pick_any B a len cap (N + 51 + 1 + 1 + 1 + 2) 3 _ (by omega) (by omega) (by omega) (H9.out.cur.below HA.out)).mono ?_
          rintro e w10 ⟨r10, rfl, q100, q101, hc10, hh10⟩
          have hcell : w10.cell? ⟨w9.heap.size, r10.toNat, none⟩ = some (.int .i64 _) := (hh10.cell (by simp) (by omega)).trans (ints_cell w9 [u, 1000000, 1000001] _ r10.toNat (by simp; omega))
          generalize List.getD [u, 1000000, 1000001] r10.toNat 0 = y at hcell
          have H10 : Hid (Draw w w10 B w.heap.size w3.heap.size g a len cap (N + 51 + 1 + 1 + 1 + 2 + 1) k c s q 0 true ds cp) := H9.out.step hc10 ((Hole.of_below HA.out).trans hh10) (by omega) (by omega) (by omega)
          clear hc10 hh10 H9 HA
          have x0 := H10.out.res.c0
          have x1 := H10.out.res.c1
          have x2 := H10.out.res.c2
          have x3 := H10.out.res.c3
          have x4 := H10.out.res.c4
          have x5 := H10.out.res.c5
          have x6 := H10.out.res.c6
          have xf := H10.out.res.fz
          have y0 := H10.out.box.c0
          have y1 := H10.out.box.c1
          have y2 := H10.out.box.c2
          have y3 := H10.out.box.c3
          have y4 := H10.out.box.c4
          have y5 := H10.out.box.c5
          have y6 := H10.out.box.c6
          have yf := H10.out.box.fz
          go_wp2
          obtain ⟨z1, z2, z3, z4⟩ := write_end (M := N + 80) (H10.out.set 4 (.int .i64 y) (H10.out.box.set4 y) (by omega) (by omega) (by omega) (by omega)) (Nat.le_refl _) hB (by omega) (by omega)
          exact bodyPost_ret (v := wrV k c s q y true (some ⟨g, 0, none⟩) ds.length cp) (by simp [results, Tryd.results68, go_sem, x0, x1, x2, x3, x4, x5, x6]) rfl ⟨k, c, s, q, y, true, g, cp, ds, rfl, hds, by omega, z1, z2, z3, z4⟩
        · have k0' : (r8 == 0) = false := by simp [k0]
          have k1' : (r8 == 1) = false := by simp [k1]
          clear k0 k1
          have x0 := H8.out.res.c0
          have x1 := H8.out.res.c1
          have x2 := H8.out.res.c2
          have x3 := H8.out.res.c3
          have x4 := H8.out.res.c4
          have x5 := H8.out.res.c5
          have x6 := H8.out.res.c6
          have xf := H8.out.res.fz
          have y0 := H8.out.box.c0
          have y1 := H8.out.box.c1
          have y2 := H8.out.box.c2
          have y3 := H8.out.box.c3
          have y4 := H8.out.box.c4
          have y5 := H8.out.box.c5
          have y6 := H8.out.box.c6
          have yf := H8.out.box.fz
          go_wp2
          obtain ⟨z1, z2, z3, z4⟩ := write_end (M := N + 80) (H8.out.set 5 (.bool (!true)) (H8.out.box.set5 (!true)) (by omega) (by omega) (by omega) (by omega)) (Nat.le_refl _) hB (by omega) (by omega)
          exact bodyPost_ret (v := wrV k c s q 0 (!true) (some ⟨g, 0, none⟩) ds.length cp) (by simp [results, Tryd.results68, go_sem, x0, x1, x2, x3, x4, x5, x6]) rfl ⟨k, c, s, q, 0, (!true), g, cp, ds, rfl, hds, by omega, z1, z2, z3, z4⟩
  · have j0' : (r6 == 0) = false := by simp [j0]
    clear j0
    go_wp2_with fail
    refine (once_any B a len cap (N + 51 + 1) 14 _ (by omega) (by omega) (by omega) H6.out.cur).mono ?_
    rintro e w7 ⟨b7, rfl, hc7, hh7⟩
    have H7 : Hid (Draw w w7 B w.heap.size w3.heap.size g a len cap (N + 51 + 1 + 1) k c s q v false ds cp) := H6.out.step hc7 hh7 (by omega) (by omega) (by omega)
    clear hc7 hh7 H6
    cases b7
    · have x0 := H7.out.res.c0
      have x1 := H7.out.res.c1
      have x2 := H7.out.res.c2
      have x3 := H7.out.res.c3
      have x4 := H7.out.res.c4
      have x5 := H7.out.res.c5
      have x6 := H7.out.res.c6
      have xf := H7.out.res.fz
      have y0 := H7.out.box.c0
      have y1 := H7.out.box.c1
      have y2 := H7.out.box.c2
      have y3 := H7.out.box.c3
      have y4 := H7.out.box.c4
      have y5 := H7.out.box.c5
      have y6 := H7.out.box.c6
      have yf := H7.out.box.fz
      go_wp2
      obtain ⟨z1, z2, z3, z4⟩ := write_end (M := N + 80) H7.out (Nat.le_refl _) hB (by omega) (by omega)
      exact bodyPost_ret (v := wrV k c s q v false (some ⟨g, 0, none⟩) ds.length cp) (by simp [results, Tryd.results68, go_sem, x0, x1, x2, x3, x4, x5, x6]) rfl ⟨k, c, s, q, v, false, g, cp, ds, rfl, hds, by omega, z1, z2, z3, z4⟩
    · go_wp2_with fail
      refine (pick_any B a len cap (N + 51 + 1 + 1) 3 _ (by omega) (by omega) (by omega) H7.out.cur).mono ?_
      rintro e w8 ⟨r8, rfl, q80, q81, hc8, hh8⟩
      have H8 : Hid (Draw w w8 B w.heap.size w3.heap.size g a len cap (N + 51 + 1 + 1 + 1) k c s q v false ds cp) := H7.out.step hc8 hh8 (by omega) (by omega) (by omega)
      clear hc8 hh8 H7
      by_cases k0 : r8 = 0
      · subst k0
        go_wp2_with fail
        refine (raw_any B a len cap (N + 51 + 1 + 1 + 1) _ (by omega) H8.out.cur).mono ?_
        rintro e w9 ⟨u, rfl, hc9, hh9⟩
        have H9 : Hid (Draw w w9 B w.heap.size w3.heap.size g a len cap (N + 51 + 1 + 1 + 1 + 2) k c s q v false ds cp) := H8.out.step hc9 hh9 (by omega) (by omega) (by omega)
        clear hc9 hh9 H8
        have x0 := H9.out.res.c0
        have x1 := H9.out.res.c1
        have x2 := H9.out.res.c2
        have x3 := H9.out.res.c3
        have x4 := H9.out.res.c4
        have x5 := H9.out.res.c5
        have x6 := H9.out.res.c6
        have xf := H9.out.res.fz
        have y0 := H9.out.box.c0
        have y1 := H9.out.box.c1
        have y2 := H9.out.box.c2
        have y3 := H9.out.box.c3
        have y4 := H9.out.box.c4
        have y5 := H9.out.box.c5
        have y6 := H9.out.box.c6
        have yf := H9.out.box.fz
        go_wp2
        obtain ⟨z1, z2, z3, z4⟩ := write_end (M := N + 80) (H9.out.set 0 (.int .i64 u) (H9.out.box.set0 u) (by omega) (by omega) (by omega) (by omega)) (Nat.le_refl _) hB (by omega) (by omega)
        exact bodyPost_ret (v := wrV u c s q v false (some ⟨g, 0, none⟩) ds.length cp) (by simp [results, Tryd.results68, go_sem, x0, x1, x2, x3, x4, x5, x6]) rfl ⟨u, c, s, q, v, false, g, cp, ds, rfl, hds, by omega, z1, z2, z3, z4⟩
      · by_cases k1 : r8 = 1
        · subst k1
          go_wp2_with fail
          refine (raw_any B a len cap (N + 51 + 1 + 1 + 1) _ (by omega) H8.out.cur).mono ?_
          rintro e w9 ⟨u, rfl, hc9, hh9⟩
          have H9 : Hid (Draw w w9 B w.heap.size w3.heap.size g a len cap (N + 51 + 1 + 1 + 1 + 2) k c s q v false ds cp) := H8.out.step hc9 hh9 (by omega) (by omega) (by omega)
          clear hc9 hh9 H8
          have hB9 := H9.out.cur.lt
          go_wp2_with fail
          have HA : Hid (Below w9.heap.size w9 (w9.alloc (.cells ((([u, 1000000, 1000001] : List Int).map (Value.int .i64)).toArray) 3))) := (Below.refl _ _).alloc (Nat.le_refl _) _
          refine (pick_any B a len cap (N + 51 + 1 + 1 + 1 + 2) 3 _ (by omega) (by omega) (by omega) (H9.out.cur.below HA.out)).mono ?_
          rintro e w10 ⟨r10, rfl, q100, q101, hc10, hh10⟩
          have hcell : w10.cell? ⟨w9.heap.size, r10.toNat, none⟩ = some (.int .i64 _) := (hh10.cell (by simp) (by omega)).trans (ints_cell w9 [u, 1000000, 1000001] _ r10.toNat (by simp; omega))
          generalize List.getD [u, 1000000, 1000001] r10.toNat 0 = y at hcell
          have H10 : Hid (Draw w w10 B w.heap.size w3.heap.size g a len cap (N + 51 + 1 + 1 + 1 + 2 + 1) k c s q v false ds cp) := H9.out.step hc10 ((Hole.of_below HA.out).trans hh10) (by omega) (by omega) (by omega)
          clear hc10 hh10 H9 HA
          have x0 := H10.out.res.c0
          have x1 := H10.out.res.c1
          have x2 := H10.out.res.c2
          have x3 := H10.out.res.c3
          have x4 := H10.out.res.c4
          have x5 := H10.out.res.c5
          have x6 := H10.out.res.c6
          have xf := H10.out.res.fz
          have y0 := H10.out.box.c0
          have y1 := H10.out.box.c1
          have y2 := H10.out.box.c2
          have y3 := H10.out.box.c3
          have y4 := H10.out.box.c4
          have y5 := H10.out.box.c5
          have y6 := H10.out.box.c6
          have yf := H10.out.box.fz
          go_wp2
          obtain ⟨z1, z2, z3, z4⟩ := write_end (M := N + 80) (H10.out.set 4 (.int .i64 y) (H10.out.box.set4 y) (by omega) (by omega) (by omega) (by omega)) (Nat.le_refl _) hB (by omega) (by omega)
          exact bodyPost_ret (v := wrV k c s q y false (some ⟨g, 0, none⟩) ds.length cp) (by simp [results, Tryd.results68, go_sem, x0, x1, x2, x3, x4, x5, x6]) rfl ⟨k, c, s, q, y, false, g, cp, ds, rfl, hds, by omega, z1, z2, z3, z4⟩
        · have k0' : (r8 == 0) = false := by simp [k0]
          have k1' : (r8 == 1) = false := by simp [k1]
          clear k0 k1
          have x0 := H8.out.res.c0
          have x1 := H8.out.res.c1
          have x2 := H8.out.res.c2
          have x3 := H8.out.res.c3
          have x4 := H8.out.res.c4
          have x5 := H8.out.res.c5
          have x6 := H8.out.res.c6
          have xf := H8.out.res.fz
          have y0 := H8.out.box.c0
          have y1 := H8.out.box.c1
          have y2 := H8.out.box.c2
          have y3 := H8.out.box.c3
          have y4 := H8.out.box.c4
          have y5 := H8.out.box.c5
          have y6 := H8.out.box.c6
          have yf := H8.out.box.fz
          go_wp2
          obtain ⟨z1, z2, z3, z4⟩ := write_end (M := N + 80) (H8.out.set 5 (.bool (!false)) (H8.out.box.set5 (!false)) (by omega) (by omega) (by omega) (by omega)) (Nat.le_refl _) hB (by omega) (by omega)
          exact bodyPost_ret (v := wrV k c s q v (!false) (some ⟨g, 0, none⟩) ds.length cp) (by simp [results, Tryd.results68, go_sem, x0, x1, x2, x3, x4, x5, x6]) rfl ⟨k, c, s, q, v, (!false), g, cp, ds, rfl, hds, by omega, z1, z2, z3, z4⟩

end Go.Proofs.YtlbcpppmpbbkdacDoor

/- The contract of the cursor's size. -/
namespace Go.Proofs.YtlbcpppmpbbkdacDoor
open Go.ChangeShapes Go.WideShapes Go.ChangeAt Go.RowKit Go.Joins

set_option maxHeartbeats 1000000 in
theorem size_any (B : Nat) (a : Option Addr) (len cap : Nat) (N n : Int) (w : World) (hN : N ≤ 1000000) (hn : 1 ≤ n) (hn' : n ≤ 1000) (h : Cur w B a len cap N) :
    Calls Tryd.prog 67 #[.pointer (some ⟨B, 0, none⟩), .int .i64 n] w fun e w' => ∃ r : Int, e = .returned (.int .i64 r) ∧ 0 ≤ r ∧ r ≤ n ∧ Cur w' B a len cap (N + 1) ∧ Hole B w w' := by
  have HC : Hid (Cur w B a len cap N) := h
  obtain ⟨at_, seed, hc, _, _, hl⟩ := h
  have c0 := hc.c0
  clear hc
  go_enter Tryd.func67, Tryd.ntmps67
  by_cases hb : n < 1 + ((len / 8 : Nat) : Int)
  · go_wp2_with fail
    refine (pick_any B a len cap N (n + 1) _ hN (by omega) (by omega) HC.out).mono ?_
    rintro e w1 ⟨r, rfl, r0, r1, hc1, hh1⟩
    have HC1 := Lib.hid hc1
    have HH1 := Lib.hid hh1
    clear hc1 hh1
    go_wp2
    go_ret
    exact ⟨r, rfl, r0, by omega, HC1.out, HH1.out⟩
  · go_wp2_with fail
    refine (pick_any B a len cap N _ _ hN (by omega) (by omega) HC.out).mono ?_
    rintro e w1 ⟨r, rfl, r0, r1, hc1, hh1⟩
    have HC1 := Lib.hid hc1
    have HH1 := Lib.hid hh1
    clear hc1 hh1
    go_wp2
    go_ret
    exact ⟨r, rfl, r0, by omega, HC1.out, HH1.out⟩

end Go.Proofs.YtlbcpppmpbbkdacDoor

/- As Slots, where each operation has a reach of its own ('R', by the slot that it fills), and where a fact may last only till one operation has come ('U'): for regions in which an append lies. No Go text in sight. -/
namespace Go.Proofs.YtlbcpppmpbbkdacDoor

abbrev ReachU := Option Tmp → World → World → Prop

def oblU (P : Program) (a0 : Act) (S : World → Prop) (E : Option Tmp → World → Prop) (R : ReachU) (n : List (Tmp × Bool)) (o : Oper) (Ts : Facts) (T : Fact) : Prop :=
  ∀ ρ w, Plain ρ → S w → E o.dst w → needs Ts a0 ρ w n → got P (fun v w' => R o.dst w w' ∧ T v w') ((execOp ρ o).run P w)

/-- A fact of slot dst lasts, whichever other operation comes, but for the one at which it ends. -/
def lastsU (U : Tmp → Option Tmp) (R : ReachU) (dst : Option Tmp) (T : Fact) : Prop := ∀ d', d' ≠ dst → (∀ d u, dst = some d → U d = some u → d' ≠ some u) → lasts (R d') T

theorem lastsU_eq (U : Tmp → Option Tmp) (R : ReachU) (dst : Option Tmp) (e : Value) : lastsU U R dst (fun v _ => v = e) := fun _ _ _ _ _ _ h _ => h

def wpSlotsU (P : Program) (a0 : Act) (S : World → Prop) (E : Option Tmp → World → Prop) (U : Tmp → Option Tmp) (R : ReachU) (Fin : Facts → Prop) : List (List (Tmp × Bool)) → List Oper → Facts → Prop
  | n :: N, o :: l, Ts => ∃ T : Fact, lastsU U R o.dst T ∧ oblU P a0 S E R n o Ts T ∧ wpSlotsU P a0 S E U R Fin N l (addFact o T Ts)
  | [], [], Ts => Fin Ts
  | _, _, _ => False

theorem collectU {P : Program} {a0 : Act} {S : World → Prop} {E : Option Tmp → World → Prop} {U : Tmp → Option Tmp} {R : ReachU} {Fin : Facts → Prop} : ∀ (N : List (List (Tmp × Bool))) (l : List Oper) (Ts : Facts), wpSlotsU P a0 S E U R Fin N l Ts → distB l (Ts.map (·.1)) = true →
    ∃ Tf, Fin Tf ∧ (∀ x p, Ts.lookup x = some p → Tf.lookup x = some p) ∧ (∀ d p, (d, p) ∈ Tf → (d, p) ∈ Ts ∨ (Tf.lookup d = some p ∧ ∃ (k : Nat) (o : Oper), l[k]? = some o ∧ o.dst = some d)) ∧ ∀ (k : Nat) (n : List (Tmp × Bool)) (o : Oper), N[k]? = some n → l[k]? = some o → ∃ T : Fact, lastsU U R o.dst T ∧ oblU P a0 S E R n o Tf T ∧ ∀ d, o.dst = some d → Tf.lookup d = some T
  | [], [], Ts, h, _ => ⟨Ts, h, fun _ _ h => h, fun _ _ h => .inl h, fun k n o hn _ => by simp at hn⟩
  | [], _ :: _, _, h, _ => h.elim
  | _ :: _, [], _, h, _ => h.elim
  | n :: N, o :: l, Ts, h, hd => by
    obtain ⟨T, hl, ho, hrest⟩ := h
    have hsub : ∀ x p, Ts.lookup x = some p → (addFact o T Ts).lookup x = some p := by
      intro x p hx
      unfold addFact
      cases hod : o.dst with
      | none => exact hx
      | some d =>
        simp only [distB, hod, Bool.and_eq_true, Bool.not_eq_true'] at hd
        have hne : x ≠ d := fun e => by rw [e, lookup_none_of hd.1] at hx; cases hx
        rw [List.lookup_cons, beq_eq_false_iff_ne.2 hne]
        exact hx
    have hd' : distB l ((addFact o T Ts).map (·.1)) = true := by
      unfold addFact
      cases hod : o.dst with
      | none => simpa [distB, hod] using hd
      | some d =>
        simp only [distB, hod, Bool.and_eq_true] at hd
        simpa using hd.2
    obtain ⟨Tf, hfin, hmono, hmem, hall⟩ := collectU N l (addFact o T Ts) hrest hd'
    have hhead : ∀ d, o.dst = some d → Tf.lookup d = some T := fun d hod => hmono d T (by unfold addFact; rw [hod]; simp)
    refine ⟨Tf, hfin, fun x p hx => hmono x p (hsub x p hx), fun d p hdp => ?_, fun k n' o' hn ho' => ?_⟩
    · rcases hmem d p hdp with h1 | ⟨h1, k, o', hk, hod⟩
      · unfold addFact at h1
        cases hod : o.dst with
        | none => rw [hod] at h1; exact .inl h1
        | some d' =>
          rw [hod] at h1
          rcases List.mem_cons.1 h1 with h2 | h2
          · obtain ⟨rfl, rfl⟩ := Prod.mk.inj h2
            exact .inr ⟨hhead _ hod, 0, o, rfl, hod⟩
          · exact .inl h2
      · exact .inr ⟨h1, k + 1, o', by simpa using hk, hod⟩
    cases k with
    | zero =>
      simp only [List.getElem?_cons_zero, Option.some.injEq] at hn ho'
      subst hn ho'
      refine ⟨T, hl, fun ρ w hp hS hE hn => ho ρ w hp hS hE (needs_mono (fun x p hx => hmono x p (hsub x p hx)) hn), hhead⟩
    | succ k =>
      exact hall k n' o' (by simpa using hn) (by simpa using ho')

/-- The facts that stand at the end, by their values. -/
@[simp] def factsAtU (U : Tmp → Option Tmp) (vs : Tmp → Value) (w : World) : Facts → Prop
  | [] => True
  | (d, p) :: r => (U d = none → p (vs d) w) ∧ factsAtU U vs w r

theorem factsAtU_of {U : Tmp → Option Tmp} {vs : Tmp → Value} {w : World} : ∀ {Tf : Facts}, (∀ d p, (d, p) ∈ Tf → U d = none → p (vs d) w) → factsAtU U vs w Tf
  | [], _ => trivial
  | (d, p) :: r, h => ⟨h d p (by simp), factsAtU_of fun d' p' h' => h d' p' (List.mem_cons_of_mem _ h')⟩

/-- The operation at which slot d's fact ends has not come. -/
def Still (U : Tmp → Option Tmp) (ops : Array Oper) (listed : Array Bool) (d : Tmp) : Prop := ∀ u, U d = some u → ∀ (i : Nat) (o : Oper), ops[i]? = some o → o.dst = some u → listed.getD i false = false

structure InvU (E : Option Tmp → World → Prop) (U : Tmp → Option Tmp) (ops : Array Oper) (a0 : Act) (S : World → Prop) (Tf : Facts) (listed : Array Bool) (a : Act) (w : World) : Prop where
  size : listed.size = ops.size
  ok : S w
  ex : ∀ (i : Nat) (o : Oper), ops[i]? = some o → listed.getD i false = false → E o.dst w
  defers : a.defers = a0.defers
  len : a.tmps.size = a0.tmps.size
  down : ∀ i o, ops[i]? = some o → listed.getD i false = true → ∀ e ∈ o.after, Region.binds .any e = true → listed.getD e.on false = true
  fresh : ∀ i o d p, ops[i]? = some o → listed.getD i false = true → o.dst = some d → Tf.lookup d = some p → Still U ops listed d → p (a.eval (.tmp d)) w
  old : ∀ x, (∀ i o, ops[i]? = some o → listed.getD i false = true → o.dst ≠ some x) → a.eval (.tmp x) = a0.eval (.tmp x)

theorem needs_ofU {E : Option Tmp → World → Prop} {U : Tmp → Option Tmp} {ops : Array Oper} {a0 : Act} {S : World → Prop} {Tf : Facts} {listed : Array Bool} {a : Act} {w : World} (hI : InvU E U ops a0 S Tf listed a w) {j : Nat} {o : Oper} (hj : ops[j]? = some o) (hun : listed.getD j false = false)
    (hall : ∀ e ∈ o.after, Region.binds .any e = true → listed.getD e.on false = true) : ∀ (n : List (Tmp × Bool)), tabRowB ops j o n = true → (∀ x, (x, true) ∈ n → Still U ops listed x) → needs0 Tf a0 a.eval w n
  | [], _, _ => trivial
  | (x, true) :: r, h, hst => by
    simp only [tabRowB, Bool.and_eq_true] at h
    refine ⟨?_, needs_ofU hI hj hun hall r h.2 (fun x hx => hst x (List.mem_cons_of_mem _ hx))⟩
    cases hl : Tf.lookup x with
    | none => trivial
    | some p =>
      obtain ⟨e, he, hb⟩ := Array.any_eq_true'.1 h.1
      simp only [Bool.and_eq_true, beq_iff_eq] at hb
      obtain ⟨oi, hoi, hdi⟩ := Option.bind_eq_some_iff.1 hb.2
      exact hI.fresh e.on oi x p hoi (hall e he hb.1) hdi hl (hst x (by simp))
  | (x, false) :: r, h, hst => by
    simp only [tabRowB, Bool.and_eq_true] at h
    refine ⟨hI.old x fun i oi hoi hli hdi => ?_, needs_ofU hI hj hun hall r h.2 (fun x hx => hst x (List.mem_cons_of_mem _ hx))⟩
    have hlt : i < ops.size := (Array.getElem?_eq_some_iff.1 hoi).1
    have h1 := List.all_eq_true.1 h.1 i (List.mem_range.2 hlt)
    simp only [hoi, hdi, beq_self_eq_true, Bool.not_true, Bool.false_or, Bool.or_eq_true, beq_iff_eq] at h1
    rcases h1 with rfl | hw
    · rw [hun] at hli
      cases hli
    · obtain ⟨e, he, hb⟩ := Array.any_eq_true'.1 hw
      simp only [Bool.and_eq_true, beq_iff_eq] at hb
      have := hI.down i oi hoi hli e he hb.1
      rw [hb.2, hun] at this
      cases this

theorem inv_stepU {E : Option Tmp → World → Prop} {U : Tmp → Option Tmp} {ops : Array Oper} {a0 : Act} {S S' : World → Prop} {R : ReachU} {Tf : Facts} {j : Nat} {o : Oper} (hS : ∀ w w', S w → R o.dst w w' → S' w') (hE : ∀ (i : Nat) (oi : Oper), ops[i]? = some oi → i ≠ j → ∀ w w', E oi.dst w → R o.dst w w' → E oi.dst w') (hl : ∀ d p, Tf.lookup d = some p → lastsU U R (some d) p)
    (hbd : ∀ (i : Nat) (o : Oper) (d : Tmp), ops[i]? = some o → o.dst = some d → d < a0.tmps.size) {listed : Array Bool} {a : Act} {w w' : World} (hI : InvU E U ops a0 S Tf listed a w) (hj : ops[j]? = some o)
    (hall : ∀ e ∈ o.after, Region.binds .any e = true → listed.getD e.on false = true) {T : Fact} (hT : ∀ d, o.dst = some d → Tf.lookup d = some T) {v : Value} (hR : R o.dst w w') (hv : T v w') :
    InvU E U ops a0 S' Tf (listed.setIfInBounds j true) (a.put o.dst v) w' where
  size := by simpa using hI.size
  ok := hS _ _ hI.ok hR
  ex := by
    intro i oi hoi hli
    by_cases e : j = i
    · subst e
      have hlt : j < listed.size := by rw [hI.size]; exact (Array.getElem?_eq_some_iff.1 hj).1
      simp [hlt] at hli
    · rw [getD_set_ne false e] at hli
      exact hE i oi hoi (Ne.symm e) _ _ (hI.ex i oi hoi hli) hR
  defers := (put_def _ _ _).trans hI.defers
  len := (putA_len _ _ _).trans hI.len
  down := by
    intro i oi hoi hli e he hb
    by_cases hij : j = i
    · subst hij
      obtain rfl := Option.some.inj (hj.symm.trans hoi)
      exact getD_set_true (hall e he hb)
    · rw [getD_set_ne false hij] at hli
      exact getD_set_true (hI.down i oi hoi hli e he hb)
  fresh := by
    intro i oi d p hoi hli hdi hp hst
    by_cases hd : o.dst = some d
    · rw [hd, put_at _ _ _ (by rw [hI.len]; exact hbd j o d hj hd)]
      obtain rfl := Option.some.inj ((hT d hd).symm.trans hp)
      exact hv
    · have hij : j ≠ i := fun e => by
        subst e
        obtain rfl := Option.some.inj (hj.symm.trans hoi)
        exact hd hdi
      rw [getD_set_ne false hij] at hli
      rw [put_off _ _ _ _ hd]
      have hst' : Still U ops listed d := fun u hu i' o' ho' hd' => by
        have h1 := hst u hu i' o' ho' hd'
        by_cases e : j = i'
        · subst e
          have hlt : j < listed.size := by rw [hI.size]; exact (Array.getElem?_eq_some_iff.1 hj).1
          simp [hlt] at h1
        · rwa [getD_set_ne false e] at h1
      refine hl d p hp o.dst hd (fun d0 u h0 hu => ?_) _ _ _ (hI.fresh i oi d p hoi hli hdi hp hst') hR
      obtain rfl := Option.some.inj h0
      intro e
      have h1 := hst u hu j o hj e
      have hlt : j < listed.size := by rw [hI.size]; exact (Array.getElem?_eq_some_iff.1 hj).1
      simp [hlt] at h1
  old := by
    intro x hx
    have hd : o.dst ≠ some x := hx j o hj (by
      have hlt : j < listed.size := by rw [hI.size]; exact (Array.getElem?_eq_some_iff.1 hj).1
      simp [hlt])
    rw [put_off _ _ _ _ hd]
    exact hI.old x fun i oi hoi hli => hx i oi hoi (getD_set_true hli)

/-- Whatever order is picked. -/
theorem any_slotsU {P : Program} {E : Option Tmp → World → Prop} {U : Tmp → Option Tmp} {ops : Array Oper} {a0 : Act} {S SF : World → Prop} {SS : Nat → World → Prop} {R : ReachU} {Tf : Facts} {Q : Exit → Act → World → Prop} {m : Nat} (hmle : m ≤ ops.size) (hseal : sealB ops m = true) (hstep : ∀ d f w w', SS (f + 1) w → R d w w' → SS f w') (hSS : ∀ f w, f < ops.size → SS (f + 1) w → S w) (hF : ∀ f w, f ≤ ops.size → SS f w → SF w) (hE : ∀ (j : Nat) (o : Oper), ops[j]? = some o → ∀ (i : Nat) (oi : Oper), ops[i]? = some oi → i ≠ j → ∀ w w', E oi.dst w → R o.dst w w' → E oi.dst w') (hl : ∀ d p, Tf.lookup d = some p → lastsU U R (some d) p)
    (hbd : ∀ (i : Nat) (o : Oper) (d : Tmp), ops[i]? = some o → o.dst = some d → d < a0.tmps.size) (hg : ∀ (i : Nat) (o : Oper), i < m → ops[i]? = some o → o.guard = none) (hlt : ∀ (i : Nat) (o : Oper), ops[i]? = some o → ∀ e ∈ o.after, Region.binds .any e = true → e.on < i)
    (hobl : ∀ (j : Nat) (o : Oper), j < m → ops[j]? = some o → ∃ n T, tabRowB ops j o n = true ∧ (∀ x, (x, true) ∈ n → ∀ u, U x = some u → ∀ (i : Nat) (o' : Oper), ops[i]? = some o' → o'.dst = some u → i = j) ∧ oblU P a0 S E R n o Tf T ∧ ∀ d, o.dst = some d → Tf.lookup d = some T)
    (hfin : ∀ a w, SF w → a.defers = a0.defers → a.tmps.size = a0.tmps.size → (∀ (i : Nat) (o : Oper) (d : Tmp) p, i < m → ops[i]? = some o → o.dst = some d → Tf.lookup d = some p → U d = none → p (a.eval (.tmp d)) w) → (∀ x, (∀ (i : Nat) (o : Oper), i < m → ops[i]? = some o → o.dst ≠ some x) → a.eval (.tmp x) = a0.eval (.tmp x)) → wpList P ops Q (ops.toList.drop m) a w) :
    ∀ (fuel : Nat) (listed : Array Bool) (a : Act) (w : World), listed.toList.count false = fuel → (∀ j, m ≤ j → j < ops.size → listed.getD j true = false) → InvU E U ops a0 (SS fuel) Tf listed a w → wpAny P .any ops Q fuel listed a w := by
  intro fuel
  induction fuel with
  | zero =>
    intro listed a w hc hm2 hI
    have hno : ∀ i, i < ops.size → listed.getD i false = true := fun i hi => by
      have hi' : i < listed.size := by rw [hI.size]; exact hi
      have : listed[i] ≠ false := fun h => by
        have := List.count_eq_zero.1 hc
        exact this (by rw [← h]; simp)
      simpa [hi'] using this
    have hms : m = ops.size := by
      rcases Nat.lt_or_ge m ops.size with h' | h'
      · have h3 := hno m h'
        rw [listed_ne hI.size h' (hm2 m (Nat.le_refl _) h')] at h3
        cases h3
      · omega
    refine any_tail hseal hlt 0 m listed a w (Nat.le_refl _) (by omega) hI.size (fun j hj => hno j (by omega)) hm2 ?_
    exact hfin a w (hF 0 w (Nat.zero_le _) hI.ok) hI.defers hI.len (fun i o d p _ ho hd hp hu => hI.fresh i o d p ho (hno i (Array.getElem?_eq_some_iff.1 ho).1) hd hp (fun u h => by rw [hu] at h; cases h)) (fun x hx => hI.old x fun i o ho _ => hx i o (by rw [hms]; exact (Array.getElem?_eq_some_iff.1 ho).1) ho)
  | succ fuel ih =>
    intro listed a w hc hm2 hI
    by_cases hdone : ∀ j, j < m → listed.getD j false = true
    · have hcnt := count_drop hI.size hmle hdone hm2
      refine any_tail hseal hlt (fuel + 1) m listed a w (Nat.le_refl _) (by omega) hI.size hdone hm2 ?_
      refine hfin a w (hF _ w (by have := List.count_le_length (a := false) (l := listed.toList); rw [hc, Array.length_toList, hI.size] at this; exact this) hI.ok) hI.defers hI.len (fun i o d p hi ho hd hp hu => hI.fresh i o d p ho (hdone i hi) hd hp (fun u h => by rw [hu] at h; cases h)) (fun x hx => hI.old x fun i o ho hli => ?_)
      refine hx i o ?_ ho
      rcases Nat.lt_or_ge i m with h' | h'
      · exact h'
      · have hil := (Array.getElem?_eq_some_iff.1 ho).1
        rw [listed_ne hI.size hil (hm2 i h' hil)] at hli
        cases hli
    · refine ⟨fun hr => absurd ?_ hdone, fun j hj => ?_⟩
      · -- the first that has not come up may come up
        have hall : ∀ k, k ≤ m → ∀ i, i < k → listed.getD i false = true := by
          intro k
          induction k with
          | zero => intro _ i hi; omega
          | succ k ihk =>
            intro hk i hi
            by_cases hik : i < k
            · exact ihk (by omega) i hik
            · have : i = k := by omega
              subst this
              have hi' : i < ops.size := by omega
              cases hb : listed.getD i true with
              | true =>
                have hi2 : i < listed.size := by rw [hI.size]; exact hi'
                simpa [hi2] using hb
              | false =>
                have hmem : i ∈ Region.ready .any ops listed := mem_ready.2 ⟨hb, ops[i], by simp [hi'], fun e he hbi => ihk (by omega) e.on (hlt i _ (by simp [hi']) e he hbi)⟩
                rw [hr] at hmem
                cases hmem
        exact hall m (Nat.le_refl _)
      · obtain ⟨h0, o, ho, hall⟩ := mem_ready.1 hj
        have hjlt := (Array.getElem?_eq_some_iff.1 ho).1
        have hjm : j < m := by
          rcases Nat.lt_or_ge j m with h' | h'
          · exact h'
          · exact absurd (fun i hi => sealed hseal hI.down ho h' hall (Nat.lt_of_lt_of_le hi h')) hdone
        obtain ⟨n, T, htab, huse, hob, hT⟩ := hobl j o hjm ho
        have hun := listed_ne hI.size hjlt h0
        have hgot := hob a.eval w (plain_eval a) (hSS fuel w (by have := List.count_le_length (a := false) (l := listed.toList); rw [hc, Array.length_toList, hI.size] at this; exact this) hI.ok) (hI.ex j o ho hun) (needs_iff.2 (needs_ofU hI ho hun hall n htab (fun x hx u hu i' o' ho' hd' => by rw [huse x hx u hu i' o' ho' hd']; exact hun)))
        unfold wpOp
        simp only [ho]
        rw [if_pos (by simp [Region.wanted, hg j o hjm ho])]
        refine .inl (upon_of_got (got_mono (fun v w' ⟨hR, hv⟩ => ?_) hgot))
        have hI' := inv_stepU (hstep o.dst fuel) (hE j o ho) hl hbd hI ho hall hT hR hv
        refine ih _ _ _ ?_ (fun i hi hi2 => by rw [getD_set_ne true (by omega)]; exact hm2 i hi hi2) hI'
        have hcs := count_set (by rw [hI.size]; exact hjlt) h0
        omega

theorem dist_out : ∀ (l : List Oper) (ks : List Tmp), distB l ks = true → ∀ (i : Nat) (o : Oper) (d : Tmp), l[i]? = some o → o.dst = some d → ks.contains d = false
  | [], _, _, i, o, d, h, _ => by simp at h
  | o :: l, ks, h, 0, o', d, ho, hd => by
    simp only [List.getElem?_cons_zero, Option.some.injEq] at ho
    subst ho
    simp only [distB, hd, Bool.and_eq_true, Bool.not_eq_true'] at h
    exact h.1
  | o :: l, ks, h, i + 1, o', d, ho, hd => by
    simp only [List.getElem?_cons_succ] at ho
    cases hod : o.dst with
    | none =>
      simp only [distB, hod] at h
      exact dist_out l ks h i o' d ho hd
    | some e =>
      simp only [distB, hod, Bool.and_eq_true] at h
      have := dist_out l (e :: ks) h.2 i o' d ho hd
      simp only [List.contains_cons, Bool.or_eq_false_iff] at this
      exact this.2

theorem dist_inj : ∀ (l : List Oper) (ks : List Tmp), distB l ks = true → ∀ (i i' : Nat) (o o' : Oper) (d : Tmp), l[i]? = some o → l[i']? = some o' → o.dst = some d → o'.dst = some d → i = i'
  | [], _, _, i, _, o, _, d, h, _, _, _ => by simp at h
  | p :: l, ks, h, 0, 0, o, o', d, _, _, _, _ => rfl
  | p :: l, ks, h, 0, i' + 1, o, o', d, ho, ho', hd, hd' => by
    simp only [List.getElem?_cons_zero, Option.some.injEq, List.getElem?_cons_succ] at ho ho'
    subst ho
    simp only [distB, hd, Bool.and_eq_true] at h
    have := dist_out l _ h.2 i' o' d ho' hd'
    simp at this
  | p :: l, ks, h, i + 1, 0, o, o', d, ho, ho', hd, hd' => by
    simp only [List.getElem?_cons_zero, Option.some.injEq, List.getElem?_cons_succ] at ho ho'
    subst ho'
    simp only [distB, hd', Bool.and_eq_true] at h
    have := dist_out l _ h.2 i o d ho hd
    simp at this
  | p :: l, ks, h, i + 1, i' + 1, o, o', d, ho, ho', hd, hd' => by
    simp only [List.getElem?_cons_succ] at ho ho'
    cases hod : p.dst with
    | none =>
      simp only [distB, hod] at h
      rw [dist_inj l ks h i i' o o' d ho ho' hd hd']
    | some e =>
      simp only [distB, hod, Bool.and_eq_true] at h
      rw [dist_inj l (e :: ks) h.2 i i' o o' d ho ho' hd hd']

/-- THE LAW, with a count of the operations that are still to come: the first operations 'l' in whatever order; those behind them ('r'), each of which waits for all ahead of it, in the order of the text. -/
theorem wp_region_slots_u {P : Program} {id : Nat} {Q : Exit → Act → World → Prop} {a0 : Act} {w0 : World} {all : List Oper} (m : Nat) (N : List (List (Tmp × Bool))) (S SF : World → Prop) (SS : Nat → World → Prop) (E : Option Tmp → World → Prop) (U : Tmp → Option Tmp) (R : ReachU)
    (hm : P.follows .mixedOrders = true) (hB : tidyB all.toArray m N = true) (hz : (all.all fun o => match o.dst with | some d => decide (d < a0.tmps.size) | none => true) = true)
    (h0 : SS all.length w0.drew) (hD : distB all [] = true) (hE0 : ∀ d, E d w0.drew) (hEn : ∀ w, E none w) (hE : ∀ d d', d ≠ d' → ∀ w w', E d' w → R d w w' → E d' w') (hU : ∀ (j : Nat) (n : List (Tmp × Bool)), N[j]? = some n → ∀ x, (x, true) ∈ n → ∀ u, U x = some u → ∀ (i : Nat) (o' : Oper), all[i]? = some o' → o'.dst = some u → i = j) (hstep : ∀ d f w w', SS (f + 1) w → R d w w' → SS f w') (hSS : ∀ f w, f < all.length → SS (f + 1) w → S w) (hF : ∀ f w, f ≤ all.length → SS f w → SF w)
    (h : wpSlotsU P a0 S E U R (fun Ts => ∀ vs w, SF w → factsAtU U vs w Ts → wpList P all.toArray Q (all.drop m) (putAll vs (all.take m) a0) w) N (all.take m) []) : (Code.region id all.toArray true).wp P Q a0 w0 := by
  simp only [tidyB, Bool.and_eq_true, beq_iff_eq, decide_eq_true_eq] at hB
  obtain ⟨⟨⟨⟨⟨hdist, hguard⟩, hlen⟩, hmle⟩, hseal⟩, htab⟩ := hB
  have hops : ∀ (i : Nat) (o : Oper), all.toArray[i]? = some o → all[i]? = some o := fun i o h => by simpa using h
  have hmemo : ∀ (i : Nat) (o : Oper), all.toArray[i]? = some o → o ∈ all := fun i o h => List.mem_of_getElem? (hops i o h)
  have htk : ∀ (i : Nat) (o : Oper), i < m → all.toArray[i]? = some o → (all.take m)[i]? = some o := fun i o hi h => by rw [List.getElem?_take_of_lt hi]; exact hops i o h
  have hbd : ∀ (i : Nat) (o : Oper) (d : Tmp), all.toArray[i]? = some o → o.dst = some d → d < a0.tmps.size := fun i o d ho hd => by
    have := List.all_eq_true.1 hz o (hmemo i o ho)
    simpa [hd] using this
  obtain ⟨Tf, hfin, _, hmem, hall⟩ := collectU N (all.take m) [] h (by simpa using hdist)
  have hrow : ∀ (j : Nat) (o : Oper), all.toArray[j]? = some o → (∀ e ∈ o.after, Region.binds .any e = true → e.on < j) ∧ (j < m → ∃ n, N[j]? = some n ∧ tabRowB all.toArray j o n = true) := fun j o ho => by
    have hj := (Array.getElem?_eq_some_iff.1 ho).1
    have h1 := List.all_eq_true.1 htab j (List.mem_range.2 hj)
    rw [ho] at h1
    simp only [Bool.and_eq_true] at h1
    refine ⟨fun e he hb => ?_, fun hjm => ?_⟩
    · have h2 := Array.all_eq_true'.1 h1.1 e he
      simpa [hb] using h2
    · have hjN : j < N.length := by rw [hlen]; exact hjm
      have h2 := h1.2
      rw [List.getElem?_eq_getElem hjN] at h2
      exact ⟨_, List.getElem?_eq_getElem hjN, h2⟩
  have hback : ∀ (k : Nat) (o : Oper), (all.take m)[k]? = some o → k < m ∧ all.toArray[k]? = some o := fun k o hk => by
    have hkl := (List.getElem?_eq_some_iff.1 hk).1
    have hkm : k < m := by
      rw [List.length_take] at hkl
      omega
    rw [List.getElem?_take_of_lt hkm] at hk
    exact ⟨hkm, by simpa using hk⟩
  refine wp_region_any hm ?_
  refine any_slotsU (E := E) (U := U) (m := m) (Tf := Tf) (a0 := a0) (SS := SS) (S := S) (SF := SF) hmle hseal hstep (fun f w hf => hSS f w (by simpa using hf)) (fun f w hf => hF f w (by simpa using hf)) (fun j o ho i oi hoi hne w w' h1 h2 => ?_) (fun d p hp => ?_) hbd (fun i o hi ho => ?_) (fun i o ho => (hrow i o ho).1) (fun j o hj ho => ?_) (fun a w hSw hdef hsz hfr hold => ?_) _ _ _ _ ?_ ?_ ?_
  · by_cases hd : oi.dst = none
    · rw [hd]
      exact hEn _
    · refine hE o.dst oi.dst (fun e => ?_) _ _ h1 h2
      obtain ⟨d, hd'⟩ := Option.ne_none_iff_exists'.1 hd
      exact hne (dist_inj all [] hD i j oi o d (hops i oi hoi) (hops j o ho) hd' (e.trans hd'))
  · -- each fact lasts
    rcases hmem d p (lookup_mem hp) with h1 | ⟨_, k, o, hk, hod⟩
    · cases h1
    · obtain ⟨hkm, hk'⟩ := hback k o hk
      obtain ⟨n, hn, _⟩ := (hrow k o hk').2 hkm
      obtain ⟨T, hT, _, hT2⟩ := hall k n o hn hk
      obtain rfl := Option.some.inj ((hT2 d hod).symm.trans hp)
      rw [← hod]
      exact hT
  · have := List.all_eq_true.1 hguard o (List.mem_of_getElem? (htk i o hi ho))
    simpa using this
  · obtain ⟨n, hn, h1⟩ := (hrow j o ho).2 hj
    obtain ⟨T, _, hT1, hT2⟩ := hall j n o hn (htk j o hj ho)
    exact ⟨n, T, h1, fun x hx u hu i o' ho' hd' => hU j n hn x hx u hu i o' (hops i o' ho') hd', hT1, hT2⟩
  · obtain ⟨p1, p2, p3⟩ := putAll_spec (fun d => a.eval (.tmp d)) (all.take m) a0 (fun o ho d hd => by
      obtain ⟨i, hi, he⟩ := List.getElem_of_mem ho
      obtain ⟨_, hi'⟩ := hback i o (by rw [List.getElem?_eq_getElem hi, he])
      exact hbd i o d hi' hd)
    have e : a = putAll (fun d => a.eval (.tmp d)) (all.take m) a0 := by
      refine act_ext (hdef.trans p1.symm) (hsz.trans p2.symm) fun x => ?_
      by_cases hx : ∃ o ∈ all.take m, o.dst = some x
      · exact ((p3 x).1 hx).symm
      · rw [(p3 x).2 hx]
        exact hold x fun i o hi ho hd => hx ⟨o, List.mem_of_getElem? (htk i o hi ho), hd⟩
    rw [e]
    refine hfin _ w hSw (factsAtU_of fun d p hdp hun => ?_)
    rcases hmem d p hdp with h1 | ⟨hlk, k, o, hk, hod⟩
    · cases h1
    · obtain ⟨hkm, hk'⟩ := hback k o hk
      exact hfr k o d p hkm hk' hod hlk hun
  · simp
  · intro j _ hj
    simp at hj
    simp [hj]
  · refine ⟨by simp, by simpa using h0, fun _ _ _ _ => hE0 _, rfl, rfl, fun i o ho hli => ?_, fun i o d p ho hli => ?_, fun x _ => rfl⟩
    · rw [rep_false] at hli
      cases hli
    · rw [rep_false] at hli
      cases hli

theorem slotU_eq {P : Program} {a0 : Act} {S : World → Prop} {E : Option Tmp → World → Prop} {U : Tmp → Option Tmp} {R : ReachU} {Fin : Facts → Prop} {n : List (Tmp × Bool)} {N : List (List (Tmp × Bool))} {o : Oper} {l : List Oper} {Ts : Facts} {e : Value}
    (h : oblU P a0 S E R n o Ts (fun v _ => v = e)) (hr : wpSlotsU P a0 S E U R Fin N l (addFact o (fun v _ => v = e) Ts)) : wpSlotsU P a0 S E U R Fin (n :: N) (o :: l) Ts :=
  ⟨_, lastsU_eq _ _ _ _, h, hr⟩

theorem slotU_fact {P : Program} {a0 : Act} {S : World → Prop} {E : Option Tmp → World → Prop} {U : Tmp → Option Tmp} {R : ReachU} {Fin : Facts → Prop} {n : List (Tmp × Bool)} {N : List (List (Tmp × Bool))} {o : Oper} {l : List Oper} {Ts : Facts} (T : Fact) (hT : lastsU U R o.dst T)
    (h : oblU P a0 S E R n o Ts T) (hr : wpSlotsU P a0 S E U R Fin N l (addFact o T Ts)) : wpSlotsU P a0 S E U R Fin (n :: N) (o :: l) Ts :=
  ⟨T, hT, h, hr⟩

theorem slotU_end {P : Program} {a0 : Act} {S : World → Prop} {E : Option Tmp → World → Prop} {U : Tmp → Option Tmp} {R : ReachU} {Fin : Facts → Prop} {Ts : Facts} (h : Fin Ts) : wpSlotsU P a0 S E U R Fin [] [] Ts := h

end Go.Proofs.YtlbcpppmpbbkdacDoor
