import Derived.Test.YtidpcjcnhklmpacDoorPack15
import Derived.Test.YtidpcjcnhklmpacDoorPack13
/- The contract of the cursor's amap. -/
namespace Go.Proofs.YtidpcjcnhklmpacDoor
open Go.ChangeShapes Go.WideShapes Go.ChangeAt Go.RowKit Go.Joins
attribute [local go_sem ↓] Go.wp_at_zero Go.wp_at_succ

set_option maxHeartbeats 1000000 in
theorem pick_one (B : Nat) (w : World) :
    Calls Tryd.prog 27 #[.pointer (some ⟨B, 0, none⟩), .int .i64 1] w fun e w' => e = .returned (.int .i64 0) ∧ w' = w := by
  go_enter Tryd.func27, Tryd.ntmps27
  go_wp2
  go_ret
  exact ⟨rfl, rfl⟩

theorem pick_len (B : Nat) (a : Option Addr) (len cap : Nat) (N : Int) (n : Nat) (w : World) (hN : N ≤ 1000000) (hn : 1 ≤ n) (hn' : n ≤ 100000) (h : Cur w B a len cap N) :
    Calls Tryd.prog 27 #[.pointer (some ⟨B, 0, none⟩), .int .i64 (n : Int)] w fun e w' => ∃ r : Nat, e = .returned (.int .i64 (r : Int)) ∧ r < n ∧ Cur w' B a len cap (N + 1) ∧ Hole B w w' := by
  by_cases h1 : n = 1
  · subst h1
    refine (pick_one B w).mono ?_
    rintro e w' ⟨rfl, rfl⟩
    exact ⟨0, rfl, by omega, h.more (by omega), Hole.refl _ _⟩
  · refine (pick_any B a len cap N n w hN (by omega) (by omega) h).mono ?_
    rintro e w' ⟨r, rfl, h2, h3, h4, h5⟩
    obtain ⟨r', rfl⟩ := Int.eq_ofNat_of_zero_le h2
    exact ⟨r', rfl, by omega, h4, h5⟩

def setK (e : En) (k : Int) : En := ⟨⟨k, e.x.c, e.x.s, e.x.q, e.x.v, e.x.de, e.x.xs⟩, e.g, e.cp⟩

theorem vals_set : ∀ (es : List En) (i : Nat) (k : Int), i < es.length → (es.flatMap wrVals).set (i * 7) (.int .i64 k) = (es.set i (setK (es.getD i ez) k)).flatMap wrVals
  | [], i, k, h => by simp at h
  | e :: r, 0, k, _ => by
    rw [List.flatMap_cons]
    simp [wrVals, setK]
  | e :: r, i + 1, k, h => by
    have ih := vals_set r i k (by simpa using h)
    rw [List.flatMap_cons, List.set_append_right _ _ (by simp [wrVals]; omega)]
    rw [show (i + 1) * 7 - (wrVals e).length = i * 7 by simp [wrVals]; omega, ih]
    simp

theorem RowEs.setKey {w : World} {base g cap : Nat} {es : List En} (h : RowEs w base g cap es) {i : Nat} (hi : i < es.length) (k : Int) : RowEs (w.setCell ⟨g, i * 7, none⟩ (.int .i64 k)) base g cap (es.set i (setK (es.getD i ez) k)) where
  le := h.le
  lt := by simpa [World.setCell] using h.lt
  own := by
    rw [List.length_set, ← vals_set es i k hi]
    exact (h.own.stored (i * 7) (.int .i64 k)).1
  deps := fun e he => by
    have : ∀ d : En, (base ≤ d.g ∧ d.g < w.heap.size ∧ d.g ≠ g ∧ HoldsDeps w d.g 0 d.x.xs) → base ≤ d.g ∧ d.g < (w.setCell ⟨g, i * 7, none⟩ (.int .i64 k)).heap.size ∧ d.g ≠ g ∧ HoldsDeps (w.setCell ⟨g, i * 7, none⟩ (.int .i64 k)) d.g 0 d.x.xs := fun d ⟨h1, h2, h3, h4⟩ =>
      ⟨h1, by simpa [World.setCell] using h2, h3, h4.set (Ne.symm h3) _⟩
    rcases List.mem_or_eq_of_mem_set he with h1 | h1
    · exact this e (h.deps e h1)
    · subst h1
      have hm : es.getD i ez ∈ es := by simp [List.getD, hi]
      exact this (es.getD i ez) (h.deps _ hm)

set_option maxRecDepth 100000 in
set_option maxHeartbeats 4000000 in
theorem amap_any (B : Nat) (a : Option Addr) (len cap : Nat) (N : Int) (ag : Option Addr) (n cg base : Nat) (es : List EnG) (w : World) (hN : N ≤ 1500) (h : Cur w B a len cap N) (hr : RowG w base (.slice ag n cg) es) (hBb : B < base) (hn : es.length = n) (hn10 : n ≤ 10) (hf : ∀ d ∈ es, d.x.xs.length ≤ 10) :
    Calls Tryd.prog 42 #[.pointer (some ⟨B, 0, none⟩), .slice ag n cg] w fun e w' => ∃ g cp es2 L, e = .returned (.slice (some ⟨g, 0, none⟩) L cp) ∧ es2.length = L ∧ L ≤ 11 ∧ (∀ d ∈ es2, d.x.xs.length ≤ 10) ∧ RowEs w' w.heap.size g cp es2 ∧ Cur w' B a len cap (N + 100) ∧ Hole B w w' := by
  have hB := h.lt
  have HC : Hid (Cur w B a len cap N) := h
  have HS : Hid (RowG w base (.slice ag n cg) es) := hr
  have HFS := Lib.hid hf
  have HN := Lib.hid hn
  clear h hr hf hn
  obtain ⟨i0, hi0, hx0⟩ := Option.map_eq_some_iff.1 infoWr
  simp only [Prod.mk.injEq] at hx0
  have HI0 := Lib.hid hi0
  have HX0 := Lib.hid hx0
  clear hi0 hx0
  have HB0 : Hid (Below w.heap.size w (w.alloc (.cells #[] 81))) := (Below.refl _ _).alloc (Nat.le_refl _) _
  have HR0 : Hid (RowEs (w.alloc (.cells #[] 81)) w.heap.size w.heap.size 0 []) := rowEs_start w _ (Nat.le_refl _)
  have HFX : Hid (Few (es.map (·.x))) := few_iff.2 fun y hy => by
    obtain ⟨d, hd, rfl⟩ := List.mem_map.1 hy
    have := HFS.out d hd
    omega
  go_enter Tryd.func42, Tryd.ntmps42
  go_wp2
  go_loopw [5, 6] (fun t i wr => ∃ (p L g cp : Nat) (es2 : List En), p ≤ n ∧ L ≤ p ∧ i = .int .i64 p ∧ t = .slice (some ⟨g, 0, none⟩) L cp ∧ Hid (es2.length = L) ∧ Hid (∀ d ∈ es2, d.x.xs.length ≤ 10) ∧ Hid (RowEs wr w.heap.size g cp es2) ∧ Hid (Cur wr B a len cap (N + p)) ∧ Hid (Hole B w wr)) (fun _ i _ => n - (intOf i).toNat)
  case atStart => exact ⟨0, 0, w.heap.size, 0, [], Nat.zero_le _, Nat.le_refl _, rfl, rfl, rfl, fun d hd => by simp at hd, HR0, Lib.hid (by simpa using HC.out.below HB0.out), Hole.of_below HB0.out⟩
  case round =>
    clear HR0 HB0 HC
    obtain ⟨p, L, g, cp, es2, hp, hL, rfl, rfl, HL, HF, HR, HC, HH⟩ := hrel
    by_cases hp' : p < n
    · have i4 : (0 : Int) ≤ (p : Int) := by omega
      have i5 : (p : Int) < (n : Int) := by omega
      go_wp2_with fail
      refine (pick_any B a len cap _ 2 _ (by omega) (by omega) (by omega) HC.out).mono ?_
      rintro e w5 ⟨r5, rfl, r50, r51, hc5, hh5⟩
      have HC5 : Hid (Cur w5 B a len cap (N + ((p + 1 : Nat) : Int))) := hc5.more (by push_cast; omega)
      have HH5 := Lib.hid (HH.out.trans hh5)
      have HR5 := Lib.hid (HR.out.hole hh5 hB)
      clear hc5 hh5 HC HR HH
      by_cases hr5 : r5 = 0
      · subst hr5
        obtain ⟨bb, oo, ad, cq, rfl, hz, ⟨e0, e1, e2, e3, e4, e5, e6⟩, hd⟩ := ((HS.out.hole HH5.out hBb).isWs HFX.out).at (Below.refl _ _) (n := n) (by rw [List.length_map, HN.out]) hp'
        have hxl : ((es.map (·.x)).getD p wz).xs.length ≤ 10 := by
          obtain ⟨d, hd, h1⟩ := List.mem_map.1 (getD_mem (ws := es.map (·.x)) (p := p) (by rw [List.length_map, HN.out]; exact hp'))
          rw [← h1]
          exact HFS.out d hd
        have HD := Lib.hid hd
        have HF2 : Hid (Few (es2.map (·.x))) := few_iff.2 fun y hy => by
          obtain ⟨d, hd, rfl⟩ := List.mem_map.1 hy
          have := HF.out d hd
          omega
        have HLL : Hid ((es2.map (·.x)).length = L) := by
          rw [List.length_map]
          exact HL
        have HW2 := Lib.hid ((HR5.out.holds (ws := es2.map (·.x)) rfl).isWs HF2.out)
        clear hd
        generalize (es.map (·.x)).getD p wz = x at *
        obtain ⟨xk, xc, xs', xq, xv, xd, xx⟩ := x
        simp only at e0 e1 e2 e3 e4 e5 e6 hxl HD
        go_wp2_with fail
        refine (put_gen _ L cp (es2.map (·.x)) ⟨xk, xc, xs', xq, xv, xd, xx⟩ ad cq _ HLL.out (by omega) HF2.out HW2.out (by show xx.length ≤ 1048576; omega) HD.out).mono ?_
        rintro e w6 ⟨g2, cp2, es3, L2, rfl, hl2, he2, hr2, hb2⟩
        have hL2 : L2 ≤ L + 1 := by
          have h1 := put_len (es2.map (·.x)) ⟨xk, xc, xs', xq, xv, xd, xx⟩
          rw [← he2, HLL.out, List.length_map, hl2] at h1
          exact h1
        have HL2 := Lib.hid hl2
        have HE2 : Hid (∀ d ∈ es3, d.x.xs.length ≤ 10) := fun y hy => by
          have h1 : y.x ∈ putW (es2.map (·.x)) ⟨xk, xc, xs', xq, xv, xd, xx⟩ := by
            rw [← he2]
            exact List.mem_map.2 ⟨y, hy, rfl⟩
          rcases put_mem _ _ _ h1 with h2 | h2
          · rw [h2]
            exact hxl
          · obtain ⟨d, hd, h3⟩ := List.mem_map.1 h2
            rw [← h3]
            exact HF.out d hd
        have HR6 := Lib.hid (hr2.mono (base' := w.heap.size) (by have := HH5.out.size; omega))
        have HC6 := Lib.hid (HC5.out.below hb2)
        have HH6 := Lib.hid (HH5.out.trans (Hole.of_below hb2))
        clear hl2 he2 hr2 hb2 HC5 HH5 HR5 HF HL
        go_wp2
        exact ⟨⟨p + 1, L2, g2, cp2, es3, by omega, by omega, by go_num, rfl, HL2, HE2, HR6, HC6, HH6⟩, by simp [intOf]; omega⟩
      · go_wp2
        exact ⟨⟨p + 1, L, g, cp, es2, by omega, by omega, by go_num, rfl, HL, HF, HR5, HC5, HH5⟩, by simp [intOf]; omega⟩
    · have hpp : p = n := by omega
      subst hpp
      clear HS HFX HFS
      go_wp2_with fail
      refine (once_any B a len cap _ 14 _ (by omega) (by omega) (by omega) HC.out).mono ?_
      rintro e w5 ⟨r5, rfl, hc5, hh5⟩
      have HC5 := Lib.hid hc5
      have HH5 := Lib.hid (HH.out.trans hh5)
      have HR5 := Lib.hid (HR.out.hole hh5 hB)
      clear hc5 hh5 HC HR HH
      cases r5
      · go_wp2
        go_ret
        exact ⟨g, cp, es2, L, rfl, HL.out, by omega, HF.out, HR5.out, HC5.out.more (by omega), HH5.out⟩
      · go_wp2_with fail
        refine (pick_any B a len cap _ 2 _ (by omega) (by omega) (by omega) HC5.out).mono ?_
        rintro e w6 ⟨r6, rfl, r60, r61, hc6, hh6⟩
        have HC6 := Lib.hid hc6
        have HH6 := Lib.hid (HH5.out.trans hh6)
        have HR6 := Lib.hid (HR5.out.hole hh6 hB)
        clear hc6 hh6 HC5 HR5 HH5
        by_cases hr6 : r6 = 0
        · subst hr6
          go_wp2_with fail
          refine (write_any B a len cap _ _ (by omega) HC6.out).mono ?_
          rintro e w7 ⟨k7, c7, s7, q7, v7, de7, g7, cp7, ds7, rfl, hl7, hg7, hg7', hd7, hc7, hh7⟩
          have HC7 := Lib.hid hc7
          have HH7 := Lib.hid (HH6.out.trans hh7)
          have HR7 := Lib.hid (HR6.out.hole hh7 hB)
          have HD7 := Lib.hid hd7
          have hgg : g7 ≠ g := by have := HR6.out.lt; omega
          have hgl : w.heap.size ≤ g7 := Nat.le_trans HH6.out.size hg7
          clear hc7 hh7 hd7 HC6 HR6 HH6
          have HBA : Hid (Below w7.heap.size w7 (w7.alloc (.cells #[.int .i64 k7, .int .i64 c7, .int .i64 s7, .int .i64 q7, .int .i64 v7, .bool de7, .slice (some ⟨g7, 0, none⟩) ds7.length cp7] 81))) := (Below.refl _ _).alloc (Nat.le_refl _) _
          have HW := Lib.hid (HR7.out.below HBA.out)
          have HOW : Hid ((w7.alloc (.cells #[.int .i64 k7, .int .i64 c7, .int .i64 s7, .int .i64 q7, .int .i64 v7, .bool de7, .slice (some ⟨g7, 0, none⟩) ds7.length cp7] 81)).ownsRow w.heap.size 81 7 (.slice (some ⟨g, 0, none⟩) L cp) L (es2.flatMap wrVals)) := by
            have := HW.out.own
            rw [HL.out] at this
            exact this
          have hsz : w.heap.size ≤ w7.heap.size := HH7.out.size
          have HCA := Lib.hid (HC7.out.below HBA.out)
          have HHA := Lib.hid (HH7.out.trans (Hole.of_below HBA.out))
          go_wp2_with (at_builtin; refine wpList_append_lies _ (by rfl) _ _ _ (by rfl) w.heap.size 81 i0 (wrV 0 0 0 0 0 false none 0 0) 7 72 Tryd.underlying37 HI0.out HX0.out.1 HX0.out.2.1 HX0.out.2.2 (by rfl) (by omega) (.slice (some ⟨g, 0, none⟩) L cp) L (es2.flatMap wrVals) (by rfl) HOW.out ⟨w7.heap.size, 0, none⟩ 1 1 (wrVals ⟨⟨k7, c7, s7, q7, v7, de7, ds7⟩, g7, cp7⟩) (by rfl) (by rfl) (one_cells w7 _ ⟨⟨k7, c7, s7, q7, v7, de7, ds7⟩, g7, cp7⟩) (by simpa using vals_one [⟨⟨k7, c7, s7, q7, v7, de7, ds7⟩, g7, cp7⟩]) (by omega) (by unfold maxLen; omega) (by omega) (by simp; omega) _ rfl ?_; intro g3 cp3 W5 hown hgrow hg3 _; refine Hid.out ?_)
          refine Lib.hid ?_
          have HR8 : Hid (RowEs W5 w.heap.size g3 cp3 (es2 ++ [⟨⟨k7, c7, s7, q7, v7, de7, ds7⟩, g7, cp7⟩])) := by
            refine HW.out.more ⟨hgl, by simp; omega, hgg, HD7.out.below HBA.out hg7'⟩ (by rw [HL.out]; exact hown) hgrow hg3
          have hgw : w.heap.size ≤ g := HR7.out.le
          have HC8 : Hid (Cur W5 B a len cap (N + 100)) := (HCA.out.stay hgrow.size fun b hb => hgrow.block b (Nat.lt_of_le_of_lt hb HCA.out.lt) (by simp [Value.ownBlock]; omega)).more (by omega)
          have HH8 : Hid (Hole B w W5) := ⟨hgrow.os.trans HHA.out.os, hgrow.tape.trans HHA.out.tape, hgrow.output.trans HHA.out.output, Nat.le_trans HHA.out.size hgrow.size, fun b hb hne => (hgrow.block b (Nat.lt_of_lt_of_le hb HHA.out.size) (by simp [Value.ownBlock]; omega)).trans (HHA.out.block b hb hne)⟩
          have HF8 : Hid (∀ d ∈ es2 ++ [(⟨⟨k7, c7, s7, q7, v7, de7, ds7⟩, g7, cp7⟩ : En)], d.x.xs.length ≤ 10) := fun d hd => by
            rcases List.mem_append.1 hd with hd | hd
            · exact HF.out d hd
            · have hd : d = ⟨⟨k7, c7, s7, q7, v7, de7, ds7⟩, g7, cp7⟩ := by simpa using hd
              subst hd
              show ds7.length ≤ 10
              omega
          clear hown hgrow HW HOW HCA HHA HBA
          go_wp2
          go_ret
          exact ⟨g3, cp3, _, L + 1, rfl, by rw [List.length_append, HL.out]; rfl, by omega, HF8.out, HR8.out, HC8.out, HH8.out⟩
        · by_cases hL0 : L = 0
          · subst hL0
            go_wp2
            go_ret
            exact ⟨g, cp, es2, 0, rfl, HL.out, by omega, HF.out, HR6.out, HC6.out.more (by omega), HH6.out⟩
          · have i6 : (0 : Int) < (L : Int) := by omega
            go_wp2_with fail
            refine (pick_len B a len cap _ L _ (by omega) (by omega) (by omega) HC6.out).mono ?_
            rintro e w7 ⟨r7, rfl, hr7, hc7, hh7⟩
            have HC7 := Lib.hid hc7
            have HH7 := Lib.hid (HH6.out.trans hh7)
            have HR7 := Lib.hid (HR6.out.hole hh7 hB)
            clear hc7 hh7 HC6 HR6 HH6
            go_wp2_with fail
            refine (raw_any B a len cap _ _ (by omega) HC7.out).mono ?_
            rintro e w8 ⟨r8, rfl, hc8, hh8⟩
            have HC8 := Lib.hid hc8
            have HH8 := Lib.hid (HH7.out.trans hh8)
            have HR8 := Lib.hid (HR7.out.hole hh8 hB)
            have hrl : r7 < es2.length := by rw [HL.out]; exact hr7
            have hgw : w.heap.size ≤ g := HR8.out.le
            have c0 : w8.cell? ⟨g, r7 * 7, none⟩ = some (.int .i64 (es2.getD r7 ez).x.k) := (seen_at HR8.out hrl).1
            have fz : ∀ o, w8.frozen? ⟨g, o, none⟩ = false := fun o => HR8.out.own.frozenAt o
            have i7 : (0 : Int) ≤ (r7 : Int) := by omega
            have i8 : (r7 : Int) < (L : Int) := by omega
            have HR9 := Lib.hid (HR8.out.setKey hrl r8)
            have HC9 : Hid (Cur (w8.setCell ⟨g, r7 * 7, none⟩ (.int .i64 r8)) B a len cap (N + 100)) := (HC8.out.setOther (by omega) _ _).more (by omega)
            have HH9 := Lib.hid (HH8.out.setNew hgw (r7 * 7) (.int .i64 r8))
            have HF9 : Hid (∀ d ∈ es2.set r7 (setK (es2.getD r7 ez) r8), d.x.xs.length ≤ 10) := fun d hd => by
              rcases List.mem_or_eq_of_mem_set hd with h1 | h1
              · exact HF.out d h1
              · subst h1
                have hm : es2.getD r7 ez ∈ es2 := by simp [List.getD, hrl]
                have h2 := HF.out (es2.getD r7 ez) hm
                exact h2
            clear hc8 hh8 HC7 HR7 HH7 HC8 HR8 HH8
            go_wp2
            go_ret
            exact ⟨g, cp, _, L, rfl, by rw [List.length_set]; exact HL.out, by omega, HF9.out, HR9.out, HC9.out, HH9.out⟩

end Go.Proofs.YtidpcjcnhklmpacDoor

/- The contracts of the draws of maps. -/
namespace Go.Proofs.YtidpcjcnhklmpacDoor
open Go.ChangeShapes Go.WideShapes Go.ChangeAt Go.RowKit Go.Joins
attribute [local go_sem ↓] Go.wp_at_zero Go.wp_at_succ

/-- A drawn map: a row of writes of one's own, a few, each with a few dependencies. -/
def DrawnM (w : World) (base : Nat) (v : Value) (es : List En) : Prop := ∃ g cp, v = .slice (some ⟨g, 0, none⟩) es.length cp ∧ es.length ≤ 40 ∧ (∀ d ∈ es, d.x.xs.length ≤ 10) ∧ RowEs w base g cp es

theorem joinW_len : ∀ (b a : List Wr), (joinW a b).length ≤ a.length + b.length
  | [], a => by simp [joinW]
  | x :: r, a => by
    have h1 := joinW_len r (putW a x)
    have h2 := put_len a x
    show (joinW (putW a x) r).length ≤ _
    simp only [List.length_cons]
    omega

theorem joinW_mem : ∀ (b a : List Wr) (z : Wr), z ∈ joinW a b → z ∈ a ∨ z ∈ b
  | [], a, z, h => .inl h
  | x :: r, a, z, h => by
    rcases joinW_mem r (putW a x) z h with h1 | h1
    · rcases put_mem a x z h1 with h2 | h2
      · exact .inr (by simp [h2])
      · exact .inl h2
    · exact .inr (by simp [h1])

theorem few_of {es : List En} (h : ∀ d ∈ es, d.x.xs.length ≤ 10) : Few (es.map (·.x)) := few_iff.2 fun y hy => by
  obtain ⟨d, hd, rfl⟩ := List.mem_map.1 hy
  have := h d hd
  omega

end Go.Proofs.YtidpcjcnhklmpacDoor

/- The contract of DrawRepair. -/
namespace Go.Proofs.YtidpcjcnhklmpacDoor
open Go.ChangeShapes Go.WideShapes Go.ChangeAt Go.RowKit Go.Joins
attribute [local go_sem ↓] Go.wp_at_zero Go.wp_at_succ

set_option maxRecDepth 100000 in
set_option maxHeartbeats 4000000 in
theorem drawRepair_any (a : Option Addr) (len cap : Nat) (w : World) (h : Bytes w a len) (hl : len ≤ 1048576) :
    Calls Tryd.prog 14 #[.slice a len cap] w fun e w' => ∃ v1 v2 es1 es2, e = .returned (.tuple #[v1, v2]) ∧ DrawnM w' w.heap.size v1 es1 ∧ DrawnM w' w.heap.size v2 es2 ∧ Below w.heap.size w w' := by
  have HO := Lib.hid (open_any a len cap w h hl)
  clear h
  go_enter Tryd.func14, Tryd.ntmps14
  go_wp2_with fail
  refine HO.out.mono ?_
  rintro e w1 ⟨rfl, hc1, hb1⟩
  have HC1 := Lib.hid hc1
  have HB1 := Lib.hid hb1
  have hlt1 := hc1.lt
  clear hc1 hb1 HO
  go_wp2_with fail
  refine (story_any w.heap.size a len cap 0 _ (by omega) HC1.out).mono ?_
  rintro e w2 ⟨v, es, rfl, hl1, hl2, hf, hr, hc2, hh2⟩
  obtain ⟨ag, cg, hv, -⟩ := hr.form
  subst hv
  have HF := Lib.hid hf
  have HR2 := Lib.hid hr
  have HC2 := Lib.hid hc2
  have HH2 := Lib.hid hh2
  clear hf hr hc2 hh2 HC1
  go_wp2_with fail
  refine (amap_any w.heap.size a len cap _ ag es.length cg w1.heap.size es _ (by omega) HC2.out HR2.out hlt1 rfl hl1 HF.out).mono ?_
  rintro e w3 ⟨g3, cp3, es3, L3, rfl, rfl, hL3, hf3, hr3, hc3, hh3⟩
  have HF3 := Lib.hid hf3
  have HR3 := Lib.hid hr3
  have HC3 := Lib.hid hc3
  have HH3 := Lib.hid hh3
  have hs2 : w1.heap.size ≤ w2.heap.size := HH2.out.size
  have HRS := Lib.hid (HR2.out.hole hh3 hlt1)
  clear hf3 hr3 hc3 hh3 HC2 HR2
  go_wp2_with fail
  refine (amap_any w.heap.size a len cap _ ag es.length cg w1.heap.size es _ (by omega) HC3.out HRS.out hlt1 rfl hl1 HF.out).mono ?_
  rintro e w4 ⟨g4, cp4, es4, L4, rfl, rfl, hL4, hf4, hr4, hc4, hh4⟩
  have hs3 : w2.heap.size ≤ w3.heap.size := HH3.out.size
  have HR5 := Lib.hid ((HR3.out.hole hh4 (by omega)).mono (base' := w.heap.size) (by omega))
  have HR4 := Lib.hid (hr4.mono (base' := w.heap.size) (by omega))
  have HF4 := Lib.hid hf4
  have HB4 : Hid (Below w.heap.size w w4) := Hole.below HB1.out ((HH2.out.trans HH3.out).trans hh4) (Nat.le_refl _) HB1.out.size
  clear hr4 hc4 hh4 hf4 HR3 HC3
  go_wp2
  exact bodyPost_ret (v := .tuple #[.slice (some ⟨g3, 0, none⟩) es3.length cp3, .slice (some ⟨g4, 0, none⟩) es4.length cp4]) (by simp [results, Tryd.results14, go_sem]) rfl ⟨_, _, es3, es4, rfl, ⟨g3, cp3, rfl, by omega, HF3.out, HR5.out⟩, ⟨g4, cp4, rfl, by omega, HF4.out, HR4.out⟩, HB4.out⟩

end Go.Proofs.YtidpcjcnhklmpacDoor

/- The laws' own big; a row's bytes, opened. -/
namespace Go.Proofs.YtidpcjcnhklmpacDoor
open Go.ChangeShapes Go.WideShapes Go.ChangeAt Go.RowKit Go.Joins

namespace lawBytes

set_option maxRecDepth 100000 in
theorem big_is (a : Option Addr) (len cap : Nat) (r : Bool) (h : decide (1048576 < len) = r) (hm : len ≤ maxLen) (w : World) :
    Calls Tryd.prog 5 #[.slice a len cap] w fun e w' => e = .returned (.bool r) ∧ w' = w := by
  unfold maxLen at hm
  cases r
  · have h' : len ≤ 1048576 := by simpa using h
    clear h
    go_enter Tryd.func5, Tryd.ntmps5
    go_wp2
    go_ret
    exact ⟨by simp; omega, rfl⟩
  · have h' : 1048576 < len := by simpa using h
    clear h
    go_enter Tryd.func5, Tryd.ntmps5
    go_wp2
    go_ret
    exact ⟨by simp; omega, rfl⟩

set_option maxRecDepth 100000 in
theorem open_bytes {H : Type} {enc : TypeId × Value → H} {w : World} {base b0 : Nat} {held : Bool} {r : Go.Reach} {v : Value} {d : DataW H} {p : List MemPlace} (hv : Value.okWide Tryd.prog w r b0 22 v) (h : DataW.Trod enc Tryd.prog w base (fun _ => true) held 22 v d p) :
    ∃ (a : Option Addr) (len cap : Nat), v = .slice a len cap ∧ (len ≤ maxLen ∧ Bytes w a len) := by
  obtain ⟨a, len, cap, rfl⟩ := okWide_slice Tryd.underlying22 hv
  obtain ⟨fuel, hf⟩ := h
  refine ⟨a, len, cap, rfl, ?_⟩
  rcases open_ints Tryd.underlying22 Tryd.underlying5 (by kernel_rfl) hf with ⟨hcs, _⟩ | ⟨x, l, c, zs, hcs, _, hl, hm, hz, _, hcell, hwz⟩
  · simp [Value.cells] at hcs
    obtain ⟨rfl, rfl, rfl⟩ := hcs
    exact ⟨Nat.zero_le _, .inl rfl⟩
  · simp [Value.cells] at hcs
    obtain ⟨rfl, rfl, rfl⟩ := hcs
    refine ⟨by omega, ?_⟩
    by_cases h0 : len = 0
    · exact .inl h0
    · have hzl : zs.length = cap := by simpa using hz
      have hx : x = ⟨x.block, x.off, none⟩ := by
        have h1 := hcell 0 (by omega)
        simp [Addr.add] at h1
        cases x with
        | mk b o s =>
          cases s with
          | none => rfl
          | some s =>
            simp only [World.cell?] at h1
            split at h1 <;> simp at h1
      refine .inr ⟨x.block, x.off, by rw [← hx], ?_, fun i hi => ?_⟩
      · have h1 := hcell 0 (by omega)
        have := World.block_lt_of_cell? w _ h1
        simpa [Addr.add] using this
      · have h1 := hcell i (by omega)
        have hw : (Lit.int .u8 (zs.getD i 0)).wf = true := hwz _ (by rw [List.getD_eq_getElem?_getD, List.getElem?_eq_getElem (by omega)]; exact List.getElem_mem _)
        have hb := bounds_u8 hw
        refine ⟨zs.getD i 0, hb.1, hb.2, ?_⟩
        rw [hx] at h1
        have e : (Addr.mk x.block x.off none).add i = ⟨x.block, x.off + i, none⟩ := by
          unfold Addr.add
          split
          · rename_i h
            rw [h]
            rfl
          · rfl
        rw [e] at h1
        exact h1

end lawBytes

end Go.Proofs.YtidpcjcnhklmpacDoor
