/- The contract of the cursor's deps. -/
import Derived.Test.YtfapebnilbdheabCurTag
import Derived.Test.YtfapebnilbdheabDeps
import Derived.Deep.AppendLies
import Derived.OwnWalk
namespace Go.Proofs.Ytfapebnilbdheab
open Go.ChangeShapes Go.WideShapes Go.ChangeAt Go.RowKit Go.Joins

theorem Cur.belowAt {w w' : World} {B c : Nat} {a : Option Addr} {len cap : Nat} {N : Int} (h : Cur w B a len cap N) (hb : Below c w w') (hB : B < c) : Cur w' B a len cap N := by
  obtain ⟨at_, seed, hc, hN, hk, hl⟩ := h
  have hcell : ∀ b o, b < c → w'.cell? ⟨b, o, none⟩ = w.cell? ⟨b, o, none⟩ := fun b o h => hb.cell (p := ⟨b, o, none⟩) h
  refine ⟨at_, seed, ⟨Nat.lt_of_lt_of_le hc.lt hb.size, (hcell _ _ hB).trans hc.c0, (hcell _ _ hB).trans hc.c1, (hcell _ _ hB).trans hc.c2, fun o => (hb.frozen (p := ⟨B, o, none⟩) hB).trans (hc.fz o), hc.p0, hc.s0, hc.s1⟩, hN, ?_, hl⟩
  rcases hk with h0 | ⟨b, o, ha, hlt, hz⟩
  · exact .inl h0
  · refine .inr ⟨b, o, ha, hlt, fun i hi => ?_⟩
    obtain ⟨z, z0, z1, hcz⟩ := hz i hi
    exact ⟨z, z0, z1, (hcell _ _ (by omega)).trans hcz⟩

theorem Hole.belowAt {B : Nat} {w0 w w' : World} (h : Hole B w0 w) (hb : Below w0.heap.size w w') : Hole B w0 w' :=
  ⟨hb.os.trans h.os, hb.tape.trans h.tape, hb.output.trans h.output, Nat.le_trans h.size hb.size, fun k hk hn => (hb.block k hk).trans (h.block k hk hn)⟩

def flat (ds : List Dp) : List Value := ds.flatMap fun d => [.int .i64 d.k, .int .i64 d.c, .int .i64 d.s, .int .i64 d.q]

theorem flat_length : ∀ ds : List Dp, (flat ds).length = ds.length * 4
  | [] => rfl
  | d :: r => by
    have := flat_length r
    simp only [flat, List.flatMap_cons, List.length_append, List.length_cons, List.length_nil] at this ⊢
    omega

theorem flat_snoc (ds : List Dp) (d : Dp) : flat (ds ++ [d]) = flat ds ++ [.int .i64 d.k, .int .i64 d.c, .int .i64 d.s, .int .i64 d.q] := by
  simp [flat]

theorem flat_at : ∀ (ds : List Dp) (i : Nat), i < ds.length → (flat ds)[i * 4]? = some (.int .i64 (ds.getD i dz).k) ∧ (flat ds)[i * 4 + 1]? = some (.int .i64 (ds.getD i dz).c) ∧ (flat ds)[i * 4 + 2]? = some (.int .i64 (ds.getD i dz).s) ∧ (flat ds)[i * 4 + 3]? = some (.int .i64 (ds.getD i dz).q)
  | [], _, h => by simp at h
  | d :: r, 0, _ => by simp [flat]
  | d :: r, i + 1, h => by
    have ih := flat_at r i (by simpa using h)
    have e : flat (d :: r) = [.int .i64 d.k, .int .i64 d.c, .int .i64 d.s, .int .i64 d.q] ++ flat r := by simp [flat]
    rw [e]
    have g : (d :: r).getD (i + 1) dz = r.getD i dz := by simp
    rw [g]
    refine ⟨?_, ?_, ?_, ?_⟩
    · rw [List.getElem?_append_right (by simp; omega)]
      simpa [show (i + 1) * 4 - 4 = i * 4 by omega] using ih.1
    · rw [List.getElem?_append_right (by simp; omega)]
      simpa [show (i + 1) * 4 + 1 - 4 = i * 4 + 1 by omega] using ih.2.1
    · rw [List.getElem?_append_right (by simp; omega)]
      simpa [show (i + 1) * 4 + 2 - 4 = i * 4 + 2 by omega] using ih.2.2.1
    · rw [List.getElem?_append_right (by simp; omega)]
      simpa [show (i + 1) * 4 + 3 - 4 = i * 4 + 3 by omega] using ih.2.2.2

/-- A list of dependencies of the call's own: its slice, and the row that it leads to. -/
structure OwnDeps (w : World) (base g cap : Nat) (ds : List Dp) : Prop where
  le : base ≤ g
  lt : g < w.heap.size
  own : w.ownsRow base 60 4 (.slice (some ⟨g, 0, none⟩) ds.length cap) ds.length (flat ds)

theorem OwnDeps.holds {w : World} {base g cap : Nat} {ds : List Dp} (h : OwnDeps w base g cap ds) : HoldsDeps w g 0 ds := by
  intro i hi
  obtain ⟨_, h1 | ⟨g', cap', cur, hv, _, hb, _, _, _, htake⟩⟩ := h.own
  · obtain ⟨h1, _⟩ := h1
    cases h1
  · have hg : g = g' := by
      injection hv with h1
      injection h1 with h1
      injection h1
    subst hg
    have hc : ∀ j, j < ds.length * 4 → w.cell? ⟨g, j, none⟩ = (flat ds)[j]? := by
      intro j hj
      rw [cell_of_row w g j cur _ _ hb, ← htake, List.getElem?_take_of_lt hj]
      simp
    have ha := flat_at ds i hi
    rw [Nat.zero_add]
    exact ⟨(hc _ (by omega)).trans ha.1, (hc _ (by omega)).trans ha.2.1, (hc _ (by omega)).trans ha.2.2.1, (hc _ (by omega)).trans ha.2.2.2⟩

theorem OwnDeps.hole {w w' : World} {B base g cap : Nat} {ds : List Dp} (h : OwnDeps w base g cap ds) (hh : Hole B w w') (hB : B < base) : OwnDeps w' base g cap ds := by
  refine ⟨h.le, Nat.lt_of_lt_of_le h.lt hh.size, h.own.1, ?_⟩
  rcases h.own.2 with h1 | ⟨g', cap', cur, hv, hb, hblk, r1, r2, r3, r4⟩
  · exact .inl h1
  · have hg : g = g' := by
      injection hv with h1
      injection h1 with h1
      injection h1
    subst hg
    exact .inr ⟨g, cap', cur, hv, hb, (hh.block g h.lt (by have := h.le; omega)).trans hblk, r1, r2, r3, r4⟩

theorem infoDep' : (Try.prog.info? 60).map (fun i => (i.zero, i.size, i.bytes)) = some (some (depV 0 0 0 0), 4, 32) := by kernel_rfl

theorem own_start (w : World) (base : Nat) (hb : base ≤ w.heap.size) : OwnDeps (w.alloc (.cells #[] 60)) base w.heap.size 0 [] :=
  ⟨hb, by simp, World.ownsRow_made w #[] 0 hb (by simp [maxLen]) (by simp)⟩

/-- Behind an append of one element. -/
theorem own_next {w W w1 : World} {base g g' cap' : Nat} {ds : List Dp} {d : Dp} (hle : base ≤ g) (hW : Below w.heap.size w W)
    (hown1 : w1.ownsRow base 60 4 (.slice (some ⟨g', 0, none⟩) (ds.length + 1) cap') (ds.length + 1) (flat ds ++ [.int .i64 d.k, .int .i64 d.c, .int .i64 d.s, .int .i64 d.q])) (hgrow : W.grownBy w1 (some g)) (hlt : g' < w1.heap.size) (hb : base ≤ w.heap.size) :
    OwnDeps w1 base g' cap' (ds ++ [d]) ∧ Below base w w1 := by
  have e : (ds ++ [d]).length = ds.length + 1 := by simp
  refine ⟨⟨?_, hlt, by rw [e, flat_snoc]; exact hown1⟩, ?_⟩
  · rcases hown1.2 with h1 | ⟨g2, _, _, hv, hb2, _⟩
    · obtain ⟨h1, _⟩ := h1
      cases h1
    · have hg : g' = g2 := by
        injection hv with h1
        injection h1 with h1
        injection h1
      omega
  · exact (hW.mono hb).trans ((Below.refl base W).grown hgrow (Nat.le_trans hb hW.size) (fun k hk => by injection hk with hk; omega))

set_option maxRecDepth 100000 in
set_option maxHeartbeats 4000000 in
theorem deps_any (B : Nat) (a : Option Addr) (len cap : Nat) (N : Int) (w : World) (hN : N ≤ 5000) (h : Cur w B a len cap N) :
    Calls Try.prog 36 #[.pointer (some ⟨B, 0, none⟩)] w fun e w' => ∃ (g cp : Nat) (ds : List Dp), e = .returned (.slice (some ⟨g, 0, none⟩) ds.length cp) ∧ ds.length ≤ 7 ∧ OwnDeps w' w.heap.size g cp ds ∧ Cur w' B a len cap (N + 40) ∧ Hole B w w' := by
  have HC : Hid (Cur w B a len cap N) := h
  have hB := h.lt
  obtain ⟨i0, hi0, hz0, hz1, hz2⟩ := info_parts infoDep'
  have HI0 : Hid (Try.prog.info? 60 = some i0) := hi0
  have HZ0 : Hid (i0.zero = some (depV 0 0 0 0)) := hz0
  have HZ1 : Hid (i0.size = 4) := hz1
  have HZ2 : Hid (i0.bytes = 32) := hz2
  clear h hi0 hz0 hz1 hz2
  go_enter Try.func36, Try.ntmps36
  go_wp2
  go_loopw [3, 4] (fun o i wr => ∃ (j g cp : Nat) (ds : List Dp), j ≤ 6 ∧ ds.length ≤ j ∧ i = .int .i64 j ∧ o = .slice (some ⟨g, 0, none⟩) ds.length cp ∧ Hid (OwnDeps wr w.heap.size g cp ds) ∧ Hid (Cur wr B a len cap (N + 4 * j)) ∧ Hid (Hole B w wr)) (fun _ i _ => 6 - (intOf i).toNat)
  case atStart => exact ⟨0, w.heap.size, 0, [], by omega, by simp, rfl, rfl, own_start w _ (Nat.le_refl _), (HC.out.below ((Below.refl _ _).alloc (Nat.le_refl _) _)).more (by omega), Hole.of_below ((Below.refl _ _).alloc (Nat.le_refl _) _)⟩
  case round =>
    obtain ⟨j, g, cp, ds, hj, hds, rfl, rfl, HO, HC1, HH⟩ := hrel
    by_cases hj' : j < 6
    · have i1 : (j : Int) < 6 := by omega
      go_wp2_with fail
      refine (pick_any B a len cap (N + 4 * j) 4 _ (by omega) (by omega) (by omega) HC1.out).mono ?_
      rintro e w1 ⟨r1, rfl, q10, q11, hc1, hh1⟩
      have HC2 : Hid (Cur w1 B a len cap (N + 4 * j + 1)) := hc1
      have HO2 : Hid (OwnDeps w1 w.heap.size g cp ds) := HO.out.hole hh1 hB
      have HH2 : Hid (Hole B w w1) := HH.out.trans hh1
      clear hc1 hh1 HO HC1 HH
      by_cases k0 : r1 = 0
      · subst k0
        go_wp2_with fail
        refine (pick_any B a len cap (N + 4 * j + 1) 4 _ (by omega) (by omega) (by omega) HC2.out).mono ?_
        rintro e w2 ⟨r2, rfl, q20, q21, hc2, hh2⟩
        have HC3 : Hid (Cur w2 B a len cap (N + 4 * j + 2)) := hc2.more (by omega)
        have HO3 : Hid (OwnDeps w2 w.heap.size g cp ds) := HO2.out.hole hh2 hB
        have HH3 : Hid (Hole B w w2) := HH2.out.trans hh2
        clear hc2 hh2 HO2 HC2 HH2
        go_wp2_with fail
        refine (pick_any B a len cap (N + 4 * j + 2) 4 _ (by omega) (by omega) (by omega) HC3.out).mono ?_
        rintro e w3 ⟨r3, rfl, q30, q31, hc3, hh3⟩
        have HC4 : Hid (Cur w3 B a len cap (N + 4 * j + 3)) := hc3.more (by omega)
        have HO4 : Hid (OwnDeps w3 w.heap.size g cp ds) := HO3.out.hole hh3 hB
        have HH4 : Hid (Hole B w w3) := HH3.out.trans hh3
        clear hc3 hh3 HO3 HC3 HH3
        go_wp2_with fail
        refine (pick_any B a len cap (N + 4 * j + 3) 4 _ (by omega) (by omega) (by omega) HC4.out).mono ?_
        rintro e w4 ⟨r4, rfl, q40, q41, hc4, hh4⟩
        have HC5 : Hid (Cur w4 B a len cap (N + 4 * j + 4)) := hc4.more (by omega)
        have HO5 : Hid (OwnDeps w4 w.heap.size g cp ds) := HO4.out.hole hh4 hB
        have HH5 : Hid (Hole B w w4) := HH4.out.trans hh4
        clear hc4 hh4 HO4 HC4 HH4
        have hzw4 : w.heap.size ≤ w4.heap.size := HH5.out.size
        go_wp2_with (at_builtin; refine wpList_append_lies _ (by rfl) _ _ _ (by rfl) w.heap.size 60 i0 _ 4 32 Try.underlying29 HI0.out HZ0.out HZ1.out HZ2.out (by rfl) (by omega) (.slice (some ⟨g, 0, none⟩) ds.length cp) ds.length (flat ds) (by rfl) (HO5.out.own.alloc _) ⟨w4.heap.size, 0, none⟩ 1 1 [.int .i64 (j : Int), .int .i64 (1 + r2), .int .i64 r3, .int .i64 (1 + r4)] (by rfl) (by rfl) (World.news_of_block (cs := #[.int .i64 (j : Int), .int .i64 (1 + r2), .int .i64 r3, .int .i64 (1 + r4)]) (t := 60) (fr := (0, 0)) (heap_alloc_new w4 _)) (by simp [Value.oneCell']) (by omega) (by simp [maxLen]; omega) (by omega) (by simp; omega) (w4.heap.size + 1) (by simp) ?_; intro g' cp' w5 hown1 hgrow hat hlt)
        obtain ⟨hO6, hb6⟩ := own_next (d := ⟨(j : Int), 1 + r2, r3, 1 + r4⟩) HO5.out.le ((Below.refl w4.heap.size w4).alloc (Nat.le_refl _) _) hown1 hgrow hlt hzw4
        have HO6 : Hid (OwnDeps w5 w.heap.size g' cp' (ds ++ [⟨(j : Int), 1 + r2, r3, 1 + r4⟩])) := hO6
        have HC6 : Hid (Cur w5 B a len cap (N + 4 * (j + 1 : Nat))) := (HC5.out.belowAt hb6 hB).more (by omega)
        have HH6 : Hid (Hole B w w5) := HH5.out.belowAt hb6
        clear hO6 hb6 hown1 hgrow hat hlt HO5 HC5 HH5
        have HL : Hid ((ds ++ [(⟨(j : Int), 1 + r2, r3, 1 + r4⟩ : Dp)]).length = ds.length + 1) := by simp [Hid]
        go_wp2
        exact ⟨⟨j + 1, g', cp', ds ++ [⟨(j : Int), 1 + r2, r3, 1 + r4⟩], by omega, by rw [HL.out]; omega, by go_num, by rw [HL.out], HO6, HC6, HH6⟩, by simp [intOf]; omega⟩
      · have k0' : (r1 == 0) = false := by simp [k0]
        clear k0
        have HC3 : Hid (Cur w1 B a len cap (N + 4 * (j + 1 : Nat))) := HC2.out.more (by omega)
        go_wp2
        exact ⟨⟨j + 1, g, cp, ds, by omega, by omega, by go_num, rfl, HO2, HC3, HH2⟩, by simp [intOf]; omega⟩
    · have hj6 : j = 6 := by omega
      subst hj6
      go_wp2_with fail
      refine (once_any B a len cap (N + 24) 16 _ (by omega) (by omega) (by omega) (HC1.out.more (by omega))).mono ?_
      rintro e w1 ⟨b1, rfl, hc1, hh1⟩
      have HC2 : Hid (Cur w1 B a len cap (N + 25)) := hc1.more (by omega)
      have HO2 : Hid (OwnDeps w1 w.heap.size g cp ds) := HO.out.hole hh1 hB
      have HH2 : Hid (Hole B w w1) := HH.out.trans hh1
      clear hc1 hh1 HO HC1 HH
      cases b1
      · go_wp2
        go_ret
        exact ⟨g, cp, ds, rfl, by omega, HO2.out, HC2.out.more (by omega), HH2.out⟩
      · go_wp2_with fail
        refine (raw_any B a len cap (N + 25) _ (by omega) HC2.out).mono ?_
        rintro e w2 ⟨v, rfl, hc2, hh2⟩
        have HC3 : Hid (Cur w2 B a len cap (N + 27)) := hc2.more (by omega)
        have HO3 : Hid (OwnDeps w2 w.heap.size g cp ds) := HO2.out.hole hh2 hB
        have HH3 : Hid (Hole B w w2) := HH2.out.trans hh2
        clear hc2 hh2 HO2 HC2 HH2
        go_wp2_with fail
        refine (tag_any B a len cap (N + 27) _ (by omega) HC3.out).mono ?_
        rintro e w4 ⟨c, s, q, rfl, hc4, hh4⟩
        have HC5 : Hid (Cur w4 B a len cap (N + 36)) := hc4.more (by omega)
        have HO5 : Hid (OwnDeps w4 w.heap.size g cp ds) := HO3.out.hole hh4 hB
        have HH5 : Hid (Hole B w w4) := HH3.out.trans hh4
        clear hc4 hh4 HO3 HC3 HH3
        have hzw4 : w.heap.size ≤ w4.heap.size := HH5.out.size
        go_wp2_with (at_builtin; refine wpList_append_lies _ (by rfl) _ _ _ (by rfl) w.heap.size 60 i0 _ 4 32 Try.underlying29 HI0.out HZ0.out HZ1.out HZ2.out (by rfl) (by omega) (.slice (some ⟨g, 0, none⟩) ds.length cp) ds.length (flat ds) (by rfl) (HO5.out.own.alloc _) ⟨w4.heap.size, 0, none⟩ 1 1 [.int .i64 v, .int .i64 c, .int .i64 s, .int .i64 q] (by rfl) (by rfl) (World.news_of_block (cs := #[.int .i64 v, .int .i64 c, .int .i64 s, .int .i64 q]) (t := 60) (fr := (0, 0)) (heap_alloc_new w4 _)) (by simp [Value.oneCell']) (by omega) (by simp [maxLen]; omega) (by omega) (by simp; omega) (w4.heap.size + 1) (by simp) ?_; intro g' cp' w5 hown1 hgrow hat hlt)
        obtain ⟨hO6, hb6⟩ := own_next (d := ⟨v, c, s, q⟩) HO5.out.le ((Below.refl w4.heap.size w4).alloc (Nat.le_refl _) _) hown1 hgrow hlt hzw4
        have HO6 : Hid (OwnDeps w5 w.heap.size g' cp' (ds ++ [⟨v, c, s, q⟩])) := hO6
        have HC6 : Hid (Cur w5 B a len cap (N + 40)) := (HC5.out.belowAt hb6 hB).more (by omega)
        have HH6 : Hid (Hole B w w5) := HH5.out.belowAt hb6
        clear hO6 hb6 hown1 hgrow hat hlt HO5 HC5 HH5
        have HL : Hid ((ds ++ [(⟨v, c, s, q⟩ : Dp)]).length = ds.length + 1) := by simp [Hid]
        go_wp2
        go_ret
        exact ⟨g', cp', ds ++ [⟨v, c, s, q⟩], by rw [HL.out]; rfl, by rw [HL.out]; omega, HO6.out, HC6.out, HH6.out⟩

end Go.Proofs.Ytfapebnilbdheab
