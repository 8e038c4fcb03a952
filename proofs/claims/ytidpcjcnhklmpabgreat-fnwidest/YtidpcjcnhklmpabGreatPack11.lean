import Derived.Test.YtidpcjcnhklmpabGreatPack10
import Derived.Test.YtidpcjcnhklmpabGreatPack6
import Derived.Test.YtidpcjcnhklmpabGreatPack9
import Derived.Test.YtidpcjcnhklmpabGreatPack7
/- The contract of the cursor's amap. -/
namespace Go.Proofs.YtidpcjcnhklmpabGreat
open Go.ChangeShapes Go.WideShapes Go.ChangeAt Go.RowKit Go.Joins
attribute [local go_sem ↓] Go.wp_at_zero Go.wp_at_succ

set_option maxHeartbeats 1000000 in
theorem pick_one (B : Nat) (w : World) :
    Calls Tryz.prog 41 #[.pointer (some ⟨B, 0, none⟩), .int .i64 1] w fun e w' => e = .returned (.int .i64 0) ∧ w' = w := by
  go_enter Tryz.func41, Tryz.ntmps41
  go_wp2
  go_ret
  exact ⟨rfl, rfl⟩

theorem pick_len (B : Nat) (a : Option Addr) (len cap : Nat) (N : Int) (n : Nat) (w : World) (hN : N ≤ 1000000) (hn : 1 ≤ n) (hn' : n ≤ 100000) (h : Cur w B a len cap N) :
    Calls Tryz.prog 41 #[.pointer (some ⟨B, 0, none⟩), .int .i64 (n : Int)] w fun e w' => ∃ r : Nat, e = .returned (.int .i64 (r : Int)) ∧ r < n ∧ Cur w' B a len cap (N + 1) ∧ Hole B w w' := by
  by_cases h1 : n = 1
  · subst h1
    refine (pick_one B w).mono ?_
    rintro e w' ⟨rfl, rfl⟩
    exact ⟨0, rfl, by omega, h.more (by omega), Hole.refl _ _⟩
  · refine (pick_any B a len cap N n w hN (by omega) (by omega) h).mono ?_
    rintro e w' ⟨r, rfl, h2, h3, h4, h5⟩
    obtain ⟨r', rfl⟩ := Int.eq_ofNat_of_zero_le h2
    exact ⟨r', rfl, by omega, h4, h5⟩

def setK (e : En) (k : Int) : En := ⟨⟨k, e.x.c, e.x.s, e.x.q, e.x.v, e.x.de, e.x.xs⟩, e.g, e.cp⟩

theorem vals_set : ∀ (es : List En) (i : Nat) (k : Int), i < es.length → (es.flatMap wrVals).set (i * 7) (.int .i64 k) = (es.set i (setK (es.getD i ez) k)).flatMap wrVals
  | [], i, k, h => by simp at h
  | e :: r, 0, k, _ => by
    rw [List.flatMap_cons]
    simp [wrVals, setK]
  | e :: r, i + 1, k, h => by
    have ih := vals_set r i k (by simpa using h)
    rw [List.flatMap_cons, List.set_append_right _ _ (by simp [wrVals]; omega)]
    rw [show (i + 1) * 7 - (wrVals e).length = i * 7 by simp [wrVals]; omega, ih]
    simp

theorem RowEs.setKey {w : World} {base g cap : Nat} {es : List En} (h : RowEs w base g cap es) {i : Nat} (hi : i < es.length) (k : Int) : RowEs (w.setCell ⟨g, i * 7, none⟩ (.int .i64 k)) base g cap (es.set i (setK (es.getD i ez) k)) where
  le := h.le
  lt := by simpa [World.setCell] using h.lt
  own := by
    rw [List.length_set, ← vals_set es i k hi]
    exact (h.own.stored (i * 7) (.int .i64 k)).1
  deps := fun e he => by
    have : ∀ d : En, (base ≤ d.g ∧ d.g < w.heap.size ∧ d.g ≠ g ∧ HoldsDeps w d.g 0 d.x.xs) → base ≤ d.g ∧ d.g < (w.setCell ⟨g, i * 7, none⟩ (.int .i64 k)).heap.size ∧ d.g ≠ g ∧ HoldsDeps (w.setCell ⟨g, i * 7, none⟩ (.int .i64 k)) d.g 0 d.x.xs := fun d ⟨h1, h2, h3, h4⟩ =>
      ⟨h1, by simpa [World.setCell] using h2, h3, h4.set (Ne.symm h3) _⟩
    rcases List.mem_or_eq_of_mem_set he with h1 | h1
    · exact this e (h.deps e h1)
    · subst h1
      have hm : es.getD i ez ∈ es := by simp [List.getD, hi]
      exact this (es.getD i ez) (h.deps _ hm)

set_option maxRecDepth 100000 in
set_option maxHeartbeats 4000000 in
theorem amap_any (B : Nat) (a : Option Addr) (len cap : Nat) (N : Int) (ag : Option Addr) (n cg base : Nat) (es : List EnG) (w : World) (hN : N ≤ 1500) (h : Cur w B a len cap N) (hr : RowG w base (.slice ag n cg) es) (hBb : B < base) (hn : es.length = n) (hn10 : n ≤ 10) (hf : ∀ d ∈ es, d.x.xs.length ≤ 10) :
    Calls Tryz.prog 43 #[.pointer (some ⟨B, 0, none⟩), .slice ag n cg] w fun e w' => ∃ g cp es2 L, e = .returned (.slice (some ⟨g, 0, none⟩) L cp) ∧ es2.length = L ∧ L ≤ 11 ∧ (∀ d ∈ es2, d.x.xs.length ≤ 10) ∧ RowEs w' w.heap.size g cp es2 ∧ Cur w' B a len cap (N + 100) ∧ Hole B w w' := by
  have hB := h.lt
  have HC : Hid (Cur w B a len cap N) := h
  have HS : Hid (RowG w base (.slice ag n cg) es) := hr
  have HFS := Lib.hid hf
  have HN := Lib.hid hn
  clear h hr hf hn
  obtain ⟨i0, hi0, hx0⟩ := Option.map_eq_some_iff.1 infoWr
  simp only [Prod.mk.injEq] at hx0
  have HI0 := Lib.hid hi0
  have HX0 := Lib.hid hx0
  clear hi0 hx0
  have HB0 : Hid (Below w.heap.size w (w.alloc (.cells #[] 35))) := (Below.refl _ _).alloc (Nat.le_refl _) _
  have HR0 : Hid (RowEs (w.alloc (.cells #[] 35)) w.heap.size w.heap.size 0 []) := rowEs_start w _ (Nat.le_refl _)
  have HFX : Hid (Few (es.map (·.x))) := few_iff.2 fun y hy => by
    obtain ⟨d, hd, rfl⟩ := List.mem_map.1 hy
    have := HFS.out d hd
    omega
  go_enter Tryz.func43, Tryz.ntmps43
  go_wp2
  go_loopw [5, 6] (fun t i wr => ∃ (p L g cp : Nat) (es2 : List En), p ≤ n ∧ L ≤ p ∧ i = .int .i64 p ∧ t = .slice (some ⟨g, 0, none⟩) L cp ∧ Hid (es2.length = L) ∧ Hid (∀ d ∈ es2, d.x.xs.length ≤ 10) ∧ Hid (RowEs wr w.heap.size g cp es2) ∧ Hid (Cur wr B a len cap (N + p)) ∧ Hid (Hole B w wr)) (fun _ i _ => n - (intOf i).toNat)
  case atStart => exact ⟨0, 0, w.heap.size, 0, [], Nat.zero_le _, Nat.le_refl _, rfl, rfl, rfl, fun d hd => by simp at hd, HR0, Lib.hid (by simpa using HC.out.below HB0.out), Hole.of_below HB0.out⟩
  case round =>
    clear HR0 HB0 HC
    obtain ⟨p, L, g, cp, es2, hp, hL, rfl, rfl, HL, HF, HR, HC, HH⟩ := hrel
    by_cases hp' : p < n
    · have i4 : (0 : Int) ≤ (p : Int) := by omega
      have i5 : (p : Int) < (n : Int) := by omega
      go_wp2_with fail
      refine (pick_any B a len cap _ 2 _ (by omega) (by omega) (by omega) HC.out).mono ?_
      rintro e w5 ⟨r5, rfl, r50, r51, hc5, hh5⟩
      have HC5 : Hid (Cur w5 B a len cap (N + ((p + 1 : Nat) : Int))) := hc5.more (by push_cast; omega)
      have HH5 := Lib.hid (HH.out.trans hh5)
      have HR5 := Lib.hid (HR.out.hole hh5 hB)
      clear hc5 hh5 HC HR HH
      by_cases hr5 : r5 = 0
      · subst hr5
        obtain ⟨bb, oo, ad, cq, rfl, hz, ⟨e0, e1, e2, e3, e4, e5, e6⟩, hd⟩ := ((HS.out.hole HH5.out hBb).isWs HFX.out).at (Below.refl _ _) (n := n) (by rw [List.length_map, HN.out]) hp'
        have hxl : ((es.map (·.x)).getD p wz).xs.length ≤ 10 := by
          obtain ⟨d, hd, h1⟩ := List.mem_map.1 (getD_mem (ws := es.map (·.x)) (p := p) (by rw [List.length_map, HN.out]; exact hp'))
          rw [← h1]
          exact HFS.out d hd
        have HD := Lib.hid hd
        have HF2 : Hid (Few (es2.map (·.x))) := few_iff.2 fun y hy => by
          obtain ⟨d, hd, rfl⟩ := List.mem_map.1 hy
          have := HF.out d hd
          omega
        have HLL : Hid ((es2.map (·.x)).length = L) := by
          rw [List.length_map]
          exact HL
        have HW2 := Lib.hid ((HR5.out.holds (ws := es2.map (·.x)) rfl).isWs HF2.out)
        clear hd
        generalize (es.map (·.x)).getD p wz = x at *
        obtain ⟨xk, xc, xs', xq, xv, xd, xx⟩ := x
        simp only at e0 e1 e2 e3 e4 e5 e6 hxl HD
        go_wp2_with fail
        refine (put_gen _ L cp (es2.map (·.x)) ⟨xk, xc, xs', xq, xv, xd, xx⟩ ad cq _ HLL.out (by omega) HF2.out HW2.out (by show xx.length ≤ 1048576; omega) HD.out).mono ?_
        rintro e w6 ⟨g2, cp2, es3, L2, rfl, hl2, he2, hr2, hb2⟩
        have hL2 : L2 ≤ L + 1 := by
          have h1 := put_len (es2.map (·.x)) ⟨xk, xc, xs', xq, xv, xd, xx⟩
          rw [← he2, HLL.out, List.length_map, hl2] at h1
          exact h1
        have HL2 := Lib.hid hl2
        have HE2 : Hid (∀ d ∈ es3, d.x.xs.length ≤ 10) := fun y hy => by
          have h1 : y.x ∈ putW (es2.map (·.x)) ⟨xk, xc, xs', xq, xv, xd, xx⟩ := by
            rw [← he2]
            exact List.mem_map.2 ⟨y, hy, rfl⟩
          rcases put_mem _ _ _ h1 with h2 | h2
          · rw [h2]
            exact hxl
          · obtain ⟨d, hd, h3⟩ := List.mem_map.1 h2
            rw [← h3]
            exact HF.out d hd
        have HR6 := Lib.hid (hr2.mono (base' := w.heap.size) (by have := HH5.out.size; omega))
        have HC6 := Lib.hid (HC5.out.below hb2)
        have HH6 := Lib.hid (HH5.out.trans (Hole.of_below hb2))
        clear hl2 he2 hr2 hb2 HC5 HH5 HR5 HF HL
        go_wp2
        exact ⟨⟨p + 1, L2, g2, cp2, es3, by omega, by omega, by go_num, rfl, HL2, HE2, HR6, HC6, HH6⟩, by simp [intOf]; omega⟩
      · go_wp2
        exact ⟨⟨p + 1, L, g, cp, es2, by omega, by omega, by go_num, rfl, HL, HF, HR5, HC5, HH5⟩, by simp [intOf]; omega⟩
    · have hpp : p = n := by omega
      subst hpp
      clear HS HFX HFS
      go_wp2_with fail
      refine (once_any B a len cap _ 14 _ (by omega) (by omega) (by omega) HC.out).mono ?_
      rintro e w5 ⟨r5, rfl, hc5, hh5⟩
      have HC5 := Lib.hid hc5
      have HH5 := Lib.hid (HH.out.trans hh5)
      have HR5 := Lib.hid (HR.out.hole hh5 hB)
      clear hc5 hh5 HC HR HH
      cases r5
      · go_wp2
        go_ret
        exact ⟨g, cp, es2, L, rfl, HL.out, by omega, HF.out, HR5.out, HC5.out.more (by omega), HH5.out⟩
      · go_wp2_with fail
        refine (pick_any B a len cap _ 2 _ (by omega) (by omega) (by omega) HC5.out).mono ?_
        rintro e w6 ⟨r6, rfl, r60, r61, hc6, hh6⟩
        have HC6 := Lib.hid hc6
        have HH6 := Lib.hid (HH5.out.trans hh6)
        have HR6 := Lib.hid (HR5.out.hole hh6 hB)
        clear hc6 hh6 HC5 HR5 HH5
        by_cases hr6 : r6 = 0
        · subst hr6
          go_wp2_with fail
          refine (write_any B a len cap _ _ (by omega) HC6.out).mono ?_
          rintro e w7 ⟨k7, c7, s7, q7, v7, de7, g7, cp7, ds7, rfl, hl7, hg7, hg7', hd7, hc7, hh7⟩
          have HC7 := Lib.hid hc7
          have HH7 := Lib.hid (HH6.out.trans hh7)
          have HR7 := Lib.hid (HR6.out.hole hh7 hB)
          have HD7 := Lib.hid hd7
          have hgg : g7 ≠ g := by have := HR6.out.lt; omega
          have hgl : w.heap.size ≤ g7 := Nat.le_trans HH6.out.size hg7
          clear hc7 hh7 hd7 HC6 HR6 HH6
          have HBA : Hid (Below w7.heap.size w7 (w7.alloc (.cells #[.int .i64 k7, .int .i64 c7, .int .i64 s7, .int .i64 q7, .int .i64 v7, .bool de7, .slice (some ⟨g7, 0, none⟩) ds7.length cp7] 35))) := (Below.refl _ _).alloc (Nat.le_refl _) _
          have HW := Lib.hid (HR7.out.below HBA.out)
          have HOW : Hid ((w7.alloc (.cells #[.int .i64 k7, .int .i64 c7, .int .i64 s7, .int .i64 q7, .int .i64 v7, .bool de7, .slice (some ⟨g7, 0, none⟩) ds7.length cp7] 35)).ownsRow w.heap.size 35 7 (.slice (some ⟨g, 0, none⟩) L cp) L (es2.flatMap wrVals)) := by
            have := HW.out.own
            rw [HL.out] at this
            exact this
          have hsz : w.heap.size ≤ w7.heap.size := HH7.out.size
          have HCA := Lib.hid (HC7.out.below HBA.out)
          have HHA := Lib.hid (HH7.out.trans (Hole.of_below HBA.out))
          go_wp2_with (at_builtin; refine wpList_append_lies _ (by rfl) _ _ _ (by rfl) w.heap.size 35 i0 (wrV 0 0 0 0 0 false none 0 0) 7 72 Tryz.underlying24 HI0.out HX0.out.1 HX0.out.2.1 HX0.out.2.2 (by rfl) (by omega) (.slice (some ⟨g, 0, none⟩) L cp) L (es2.flatMap wrVals) (by rfl) HOW.out ⟨w7.heap.size, 0, none⟩ 1 1 (wrVals ⟨⟨k7, c7, s7, q7, v7, de7, ds7⟩, g7, cp7⟩) (by rfl) (by rfl) (one_cells w7 _ ⟨⟨k7, c7, s7, q7, v7, de7, ds7⟩, g7, cp7⟩) (by simpa using vals_one [⟨⟨k7, c7, s7, q7, v7, de7, ds7⟩, g7, cp7⟩]) (by omega) (by unfold maxLen; omega) (by omega) (by simp; omega) _ rfl ?_; intro g3 cp3 W5 hown hgrow hg3 _; refine Hid.out ?_)
          refine Lib.hid ?_
          have HR8 : Hid (RowEs W5 w.heap.size g3 cp3 (es2 ++ [⟨⟨k7, c7, s7, q7, v7, de7, ds7⟩, g7, cp7⟩])) := by
            refine HW.out.more ⟨hgl, by simp; omega, hgg, HD7.out.below HBA.out hg7'⟩ (by rw [HL.out]; exact hown) hgrow hg3
          have hgw : w.heap.size ≤ g := HR7.out.le
          have HC8 : Hid (Cur W5 B a len cap (N + 100)) := (HCA.out.stay hgrow.size fun b hb => hgrow.block b (Nat.lt_of_le_of_lt hb HCA.out.lt) (by simp [Value.ownBlock]; omega)).more (by omega)
          have HH8 : Hid (Hole B w W5) := ⟨hgrow.os.trans HHA.out.os, hgrow.tape.trans HHA.out.tape, hgrow.output.trans HHA.out.output, Nat.le_trans HHA.out.size hgrow.size, fun b hb hne => (hgrow.block b (Nat.lt_of_lt_of_le hb HHA.out.size) (by simp [Value.ownBlock]; omega)).trans (HHA.out.block b hb hne)⟩
          have HF8 : Hid (∀ d ∈ es2 ++ [(⟨⟨k7, c7, s7, q7, v7, de7, ds7⟩, g7, cp7⟩ : En)], d.x.xs.length ≤ 10) := fun d hd => by
            rcases List.mem_append.1 hd with hd | hd
            · exact HF.out d hd
            · have hd : d = ⟨⟨k7, c7, s7, q7, v7, de7, ds7⟩, g7, cp7⟩ := by simpa using hd
              subst hd
              show ds7.length ≤ 10
              omega
          clear hown hgrow HW HOW HCA HHA HBA
          go_wp2
          go_ret
          exact ⟨g3, cp3, _, L + 1, rfl, by rw [List.length_append, HL.out]; rfl, by omega, HF8.out, HR8.out, HC8.out, HH8.out⟩
        · by_cases hL0 : L = 0
          · subst hL0
            go_wp2
            go_ret
            exact ⟨g, cp, es2, 0, rfl, HL.out, by omega, HF.out, HR6.out, HC6.out.more (by omega), HH6.out⟩
          · have i6 : (0 : Int) < (L : Int) := by omega
            go_wp2_with fail
            refine (pick_len B a len cap _ L _ (by omega) (by omega) (by omega) HC6.out).mono ?_
            rintro e w7 ⟨r7, rfl, hr7, hc7, hh7⟩
            have HC7 := Lib.hid hc7
            have HH7 := Lib.hid (HH6.out.trans hh7)
            have HR7 := Lib.hid (HR6.out.hole hh7 hB)
            clear hc7 hh7 HC6 HR6 HH6
            go_wp2_with fail
            refine (raw_any B a len cap _ _ (by omega) HC7.out).mono ?_
            rintro e w8 ⟨r8, rfl, hc8, hh8⟩
            have HC8 := Lib.hid hc8
            have HH8 := Lib.hid (HH7.out.trans hh8)
            have HR8 := Lib.hid (HR7.out.hole hh8 hB)
            have hrl : r7 < es2.length := by rw [HL.out]; exact hr7
            have hgw : w.heap.size ≤ g := HR8.out.le
            have c0 : w8.cell? ⟨g, r7 * 7, none⟩ = some (.int .i64 (es2.getD r7 ez).x.k) := (seen_at HR8.out hrl).1
            have fz : ∀ o, w8.frozen? ⟨g, o, none⟩ = false := fun o => HR8.out.own.frozenAt o
            have i7 : (0 : Int) ≤ (r7 : Int) := by omega
            have i8 : (r7 : Int) < (L : Int) := by omega
            have HR9 := Lib.hid (HR8.out.setKey hrl r8)
            have HC9 : Hid (Cur (w8.setCell ⟨g, r7 * 7, none⟩ (.int .i64 r8)) B a len cap (N + 100)) := (HC8.out.setOther (by omega) _ _).more (by omega)
            have HH9 := Lib.hid (HH8.out.setNew hgw (r7 * 7) (.int .i64 r8))
            have HF9 : Hid (∀ d ∈ es2.set r7 (setK (es2.getD r7 ez) r8), d.x.xs.length ≤ 10) := fun d hd => by
              rcases List.mem_or_eq_of_mem_set hd with h1 | h1
              · exact HF.out d h1
              · subst h1
                have hm : es2.getD r7 ez ∈ es2 := by simp [List.getD, hrl]
                have h2 := HF.out (es2.getD r7 ez) hm
                exact h2
            clear hc8 hh8 HC7 HR7 HH7 HC8 HR8 HH8
            go_wp2
            go_ret
            exact ⟨g, cp, _, L, rfl, by rw [List.length_set]; exact HL.out, by omega, HF9.out, HR9.out, HC9.out, HH9.out⟩

end Go.Proofs.YtidpcjcnhklmpabGreat

/- The contracts of the draws of maps. -/
namespace Go.Proofs.YtidpcjcnhklmpabGreat
open Go.ChangeShapes Go.WideShapes Go.ChangeAt Go.RowKit Go.Joins
attribute [local go_sem ↓] Go.wp_at_zero Go.wp_at_succ

/-- A drawn map: a row of writes of one's own, a few, each with a few dependencies. -/
def DrawnM (w : World) (base : Nat) (v : Value) (es : List En) : Prop := ∃ g cp, v = .slice (some ⟨g, 0, none⟩) es.length cp ∧ es.length ≤ 40 ∧ (∀ d ∈ es, d.x.xs.length ≤ 10) ∧ RowEs w base g cp es

theorem joinW_len : ∀ (b a : List Wr), (joinW a b).length ≤ a.length + b.length
  | [], a => by simp [joinW]
  | x :: r, a => by
    have h1 := joinW_len r (putW a x)
    have h2 := put_len a x
    show (joinW (putW a x) r).length ≤ _
    simp only [List.length_cons]
    omega

theorem joinW_mem : ∀ (b a : List Wr) (z : Wr), z ∈ joinW a b → z ∈ a ∨ z ∈ b
  | [], a, z, h => .inl h
  | x :: r, a, z, h => by
    rcases joinW_mem r (putW a x) z h with h1 | h1
    · rcases put_mem a x z h1 with h2 | h2
      · exact .inr (by simp [h2])
      · exact .inl h2
    · exact .inr (by simp [h1])

theorem few_of {es : List En} (h : ∀ d ∈ es, d.x.xs.length ≤ 10) : Few (es.map (·.x)) := few_iff.2 fun y hy => by
  obtain ⟨d, hd, rfl⟩ := List.mem_map.1 hy
  have := h d hd
  omega

end Go.Proofs.YtidpcjcnhklmpabGreat

/- Contracts of the specification's Lacks, Covered, l03Right. -/
namespace Go.Proofs.YtidpcjcnhklmpabGreat
open Go.ChangeShapes Go.WideShapes Go.ChangeAt Go.RowKit Go.Joins
attribute [local go_sem ↓] Go.wp_at_zero Go.wp_at_succ

def lacking (ws : List Wr) (d : Dp) : Bool := !hasB ws d.k d.c d.s d.q

def lacksL (ws : List Wr) (ds : List Dp) : List Dp := ds.filter (lacking ws)

def covB (ws : List Wr) (ds : List Dp) : Bool := (lacksL ws ds).length == 0

theorem take_next (ds : List Dp) (k : Nat) (h : k < ds.length) : ds.take (k + 1) = ds.take k ++ [ds.getD k dz] := by
  rw [List.take_add_one, List.getElem?_eq_getElem h]
  simp [List.getD, h]

theorem lacks_more {ws : List Wr} {ds : List Dp} {k : Nat} (h : k < ds.length) (hd : lacking ws (ds.getD k dz) = true) : lacksL ws (ds.take (k + 1)) = lacksL ws (ds.take k) ++ [ds.getD k dz] := by
  unfold lacksL
  rw [take_next ds k h, List.filter_append]
  generalize ds.getD k dz = d at *
  simp [hd]

theorem lacks_same {ws : List Wr} {ds : List Dp} {k : Nat} (h : k < ds.length) (hd : lacking ws (ds.getD k dz) = false) : lacksL ws (ds.take (k + 1)) = lacksL ws (ds.take k) := by
  unfold lacksL
  rw [take_next ds k h, List.filter_append]
  generalize ds.getD k dz = d at *
  simp [hd]

theorem lacks_len (ws : List Wr) (ds : List Dp) (k : Nat) : (lacksL ws (ds.take k)).length ≤ k := by
  unfold lacksL
  have h1 := List.length_filter_le (lacking ws) (ds.take k)
  have h2 : (ds.take k).length ≤ k := by simp; omega
  omega

set_option maxHeartbeats 4000000 in
theorem specLacks_any (a ad : Option Addr) (n m cap cd : Nat) (ws : List Wr) (ds : List Dp) (w : World) (hn : ws.length = n) (hm : n ≤ 1048576) (hx : Few ws) (hl : ds.length = m) (hml : m ≤ 1048576) (hh : IsWs w a ws) (hd : IsDeps w ad ds) :
    Calls Tryz.prog 86 #[.slice a n cap, .slice ad m cd] w fun e w' => ∃ v, e = .returned v ∧ RowD w' w.heap.size v (lacksL ws ds) ∧ Below w.heap.size w w' := by
  have HH : Hid (IsWs w a ws) := hh
  have HD : Hid (IsDeps w ad ds) := hd
  have HN : Hid (ws.length = n) := hn
  have HL : Hid (ds.length = m) := hl
  have HX : Hid (Few ws) := hx
  clear hh hd hn hl hx
  obtain ⟨i0, hi0, hx0⟩ := Option.map_eq_some_iff.1 infoDep
  simp only [Prod.mk.injEq] at hx0
  have HI0 := Lib.hid hi0
  have HX0 := Lib.hid hx0
  clear hi0 hx0
  have HR0 : Hid (RowD (w.alloc (.cells #[] 63)) w.heap.size (.slice (some ⟨w.heap.size, 0, none⟩) 0 0) (lacksL ws (ds.take 0))) := World.ownsRow_made w #[] 0 (Nat.le_refl _) (by simp [maxLen]) (by simp)
  go_enter Tryz.func86, Tryz.ntmps86
  go_wp2
  go_loopw [5, 6] (fun t i wr => ∃ (k : Nat) (v : Value), k ≤ m ∧ i = .int .i64 k ∧ v = t ∧ Hid (RowD wr w.heap.size v (lacksL ws (ds.take k))) ∧ Hid (Below w.heap.size w wr)) (fun _ i _ => m - (intOf i).toNat)
  case atStart => exact ⟨0, _, Nat.zero_le _, rfl, rfl, HR0, (Below.refl _ _).alloc (Nat.le_refl _) _⟩
  case round =>
    clear HR0
    obtain ⟨k, v, hk, rfl, rfl, HR, HB⟩ := hrel
    by_cases hk' : k < m
    · have hkd : k < ds.length := by rw [HL.out]; exact hk'
      obtain ⟨b, o, rfl, hz, e0, e1, e2, e3⟩ := HD.out.at HB.out hkd
      have i1 : (0 : Int) ≤ (k : Int) := by omega
      have i2 : (k : Int) < (m : Int) := by omega
      have hln := lacks_len ws ds k
      have HC : Hid (∀ p : Aft wr.heap.size wr, Calls Tryz.prog 90 #[.slice a n cap, .int .i64 (ds.getD k dz).k, tagV (ds.getD k dz).c (ds.getD k dz).s (ds.getD k dz).q] p.now fun e w' => e = .returned (.bool (hasB ws (ds.getD k dz).k (ds.getD k dz).c (ds.getD k dz).s (ds.getD k dz).q)) ∧ Below p.now.heap.size p.now w') := fun p =>
        specMapHas_gen a n cap _ _ _ _ ws _ HN.out hm HX.out (HH.out.below (below_step HB.out HB.out.size p.below))
      have HM : Hid (hasB ws (ds.getD k dz).k (ds.getD k dz).c (ds.getD k dz).s (ds.getD k dz).q = false → lacksL ws (ds.take (k + 1)) = lacksL ws (ds.take k) ++ [ds.getD k dz]) := fun h => lacks_more hkd (by unfold lacking; rw [h]; rfl)
      have HS : Hid (hasB ws (ds.getD k dz).k (ds.getD k dz).c (ds.getD k dz).s (ds.getD k dz).q = true → lacksL ws (ds.take (k + 1)) = lacksL ws (ds.take k)) := fun h => lacks_same hkd (by unfold lacking; rw [h]; rfl)
      clear HD
      generalize ds.getD k dz = d at *
      obtain ⟨dk, dc, dd, dq⟩ := d
      simp only at e0 e1 e2 e3 HC HM HS
      cases hb : hasB ws dk dc dd dq
      · have HE := Lib.hid (HM.out hb)
        rw [hb] at HC
        clear hb HM HS
        generalize lacksL ws (ds.take k) = zs at *
        go_wp2_with fail
        have ge0 := aft_cell hz e0
        have ge1 := aft_cell hz e1
        have ge2 := aft_cell hz e2
        have ge3 := aft_cell hz e3
        have ne := aft_some wr
        refine wp_region_aft (by kernel_rfl) (by kernel_rfl) ?_
        repeat (first | go_big_quiet_step (first | (go_at_call 90; exact aft_of (HC.out _))))
        refine wpQuiet_nil ?_
        intro wq hq
        have HBQ : Hid (Below w.heap.size w wq) := below_step HB.out HB.out.size hq
        have HRQ := Lib.hid (HR.out.below hq)
        replace e0 := held_cell hq e0 hz
        replace e1 := held_cell hq e1 hz
        replace e2 := held_cell hq e2 hz
        replace e3 := held_cell hq e3 hz
        have hwq : w.heap.size ≤ wq.heap.size := HBQ.out.size
        clear hq ge0 ge1 ge2 ge3 ne HC HR HB
        have HBC : Hid (Below wq.heap.size wq (wq.alloc (.cells #[.int .i64 dk, .int .i64 dc, .int .i64 dd, .int .i64 dq] 63))) := (Below.refl _ _).alloc (Nat.le_refl _) _
        have HRC := Lib.hid (HRQ.out.below HBC.out)
        have HBD := Lib.hid (below_step HBQ.out HBQ.out.size HBC.out)
        go_wp2_with (at_builtin; refine wpList_append_lies _ (by rfl) _ _ _ (by rfl) w.heap.size 63 i0 (depV 0 0 0 0) 4 32 Tryz.underlying33 HI0.out HX0.out.1 HX0.out.2.1 HX0.out.2.2 (by rfl) (by omega) v zs.length (zs.flatMap dpVals) (by rfl) HRC.out ⟨wq.heap.size, 0, none⟩ 1 1 (dpVals ⟨dk, dc, dd, dq⟩) (by rfl) (by rfl) (oneD_cells wq _ ⟨dk, dc, dd, dq⟩) (dp_one _) (by omega) (by unfold maxLen; omega) (by omega) (by simp; omega) _ rfl ?_; intro g3 cp3 w5 hown hgrow hg3 _; refine Hid.out ?_)
        refine Lib.hid ?_
        have HB5 : Hid (Below w.heap.size w w5) := HBD.out.grown hgrow HBD.out.size fun j hj => (World.ownsRow.lt HRC.out j hj).1
        have HR5 : Hid (RowD w5 w.heap.size (.slice (some ⟨g3, 0, none⟩) (zs.length + 1) cp3) (lacksL ws (ds.take (k + 1)))) := by
          refine Lib.hid ?_
          rw [HE.out]
          unfold RowD
          rw [List.length_append, List.flatMap_append]
          simpa using hown
        clear hown hgrow
        go_wp2
        exact ⟨⟨k + 1, _, by omega, by go_num, rfl, HR5, HB5⟩, by simp [intOf]; omega⟩
      · have HE := Lib.hid (HS.out hb)
        rw [hb] at HC
        clear hb HM HS
        go_wp2_with fail
        have ge0 := aft_cell hz e0
        have ge1 := aft_cell hz e1
        have ge2 := aft_cell hz e2
        have ge3 := aft_cell hz e3
        have ne := aft_some wr
        refine wp_region_aft (by kernel_rfl) (by kernel_rfl) ?_
        repeat (first | go_big_quiet_step (first | (go_at_call 90; exact aft_of (HC.out _))))
        refine wpQuiet_nil ?_
        intro wq hq
        have HBQ : Hid (Below w.heap.size w wq) := below_step HB.out HB.out.size hq
        have HRQ : Hid (RowD wq w.heap.size v (lacksL ws (ds.take (k + 1)))) := by
          rw [HE.out]
          exact HR.out.below hq
        clear hq ge0 ge1 ge2 ge3 ne HC HR HB
        go_wp2
        exact ⟨⟨k + 1, _, by omega, by go_num, rfl, HRQ, HBQ⟩, by simp [intOf]; omega⟩
    · have hkk : k = m := by omega
      subst hkk
      have HF : Hid (RowD wr w.heap.size v (lacksL ws ds)) := by
        have h := HR.out
        rw [List.take_of_length_le (by rw [HL.out]; exact Nat.le_refl _)] at h
        exact h
      go_wp2
      go_ret
      exact ⟨_, rfl, HF.out, HB.out⟩

set_option maxHeartbeats 1000000 in
theorem specCovered_any (a ad : Option Addr) (n m cap cd : Nat) (ws : List Wr) (ds : List Dp) (w : World) (hn : ws.length = n) (hm : n ≤ 1048576) (hx : Few ws) (hl : ds.length = m) (hml : m ≤ 1048576) (hh : IsWs w a ws) (hd : IsDeps w ad ds) :
    Calls Tryz.prog 75 #[.slice a n cap, .slice ad m cd] w fun e w' => e = .returned (.bool (covB ws ds)) ∧ Below w.heap.size w w' := by
  have HC : Hid (Calls Tryz.prog 86 #[.slice a n cap, .slice ad m cd] w fun e w' => ∃ v, e = .returned v ∧ RowD w' w.heap.size v (lacksL ws ds) ∧ Below w.heap.size w w') := specLacks_any a ad n m cap cd ws ds w hn hm hx hl hml hh hd
  have HE : Hid (covB ws ds = (((lacksL ws ds).length : Int) == 0)) := by
    unfold covB
    show _ = _
    rw [Bool.eq_iff_iff]
    simp
  clear hh hd hn hl hx
  go_enter Tryz.func75, Tryz.ntmps75
  go_wp2_with fail
  refine HC.out.mono ?_
  rintro e w1 ⟨v, rfl, hrow, hb⟩
  obtain ⟨al, cl, rfl, -⟩ := hrow.form
  have HB := Lib.hid hb
  clear hrow hb HC
  go_wp2
  go_ret
  exact ⟨ret_bool HE.out.symm, HB.out⟩

def rightB (ws more : List Wr) : Bool := mapOkB ws && more.all okW

theorem right_false {ws more : List Wr} {k : Nat} (h : k < more.length) (hk : okW (more.getD k wz) = false) : rightB ws more = false := by
  unfold rightB
  rw [Bool.and_eq_false_iff]
  refine .inr ?_
  rw [List.all_eq_false]
  refine ⟨more.getD k wz, ?_, by rw [hk]; simp⟩
  have e : more.getD k wz = more[k] := by simp [List.getD, h]
  rw [e]
  exact List.getElem_mem h

set_option maxHeartbeats 2000000 in
theorem l03Right_any (a b : Option Addr) (n m cap cap' : Nat) (us vs : List Wr) (w : World) (hn : us.length = n) (hm : vs.length = m) (hn1 : n ≤ 1048576) (hm1 : m ≤ 1048576) (hx : Few us) (hy : Few vs) (hi : IsWs w a us) (hj : IsWs w b vs) :
    Calls Tryz.prog 29 #[.slice a n cap, .slice b m cap'] w fun e w' => e = .returned (.bool (rightB us vs)) ∧ Below w.heap.size w w' := by
  have HJ : Hid (IsWs w b vs) := hj
  have HM : Hid (vs.length = m) := hm
  have HY : Hid (Few vs) := hy
  have HC : Hid (Calls Tryz.prog 13 #[.slice a n cap] w fun e w' => e = .returned (.bool (mapOkB us)) ∧ Below w.heap.size w w') := specMapOk_gen a n cap us w hn hn1 hx hi
  clear hi hj hn hm hx hy
  cases ha : mapOkB us
  · have HE : Hid (rightB us vs = false) := by unfold rightB; rw [ha, Bool.false_and]; exact Lib.hid rfl
    rw [ha] at HC
    clear ha
    go_enter Tryz.func29, Tryz.ntmps29
    go_wp2_with fail
    refine HC.out.mono ?_
    rintro e w1 ⟨rfl, hb⟩
    have HB1 := Lib.hid hb
    clear hb
    go_wp2
    go_ret
    exact ⟨ret_bool HE.out.symm, HB1.out⟩
  have HA := Lib.hid ha
  rw [ha] at HC
  clear ha
  go_enter Tryz.func29, Tryz.ntmps29
  go_wp2_with fail
  refine HC.out.mono ?_
  rintro e w1 ⟨rfl, hb⟩
  have HB1 := Lib.hid hb
  clear hb HC
  go_wp2
  go_loopw [5] (fun i wr => ∃ k : Nat, k ≤ m ∧ i = .int .i64 k ∧ Hid (∀ j, j < k → okW (vs.getD j wz) = true) ∧ Hid (Below w.heap.size w wr)) (fun i _ => m - (intOf i).toNat)
  case atStart => exact ⟨0, Nat.zero_le _, rfl, fun j hj => absurd hj (Nat.not_lt_zero j), HB1⟩
  case round =>
    clear HB1
    obtain ⟨k, hk, rfl, HK, HB⟩ := hrel
    by_cases hk' : k < m
    · obtain ⟨b1, o1, ad, cp, rfl, hz, ⟨e0, e1, e2, e3, e4, e5, e6⟩, hd⟩ := HJ.out.at HB.out HM.out hk'
      have i1 : (0 : Int) ≤ (k : Int) := by omega
      have i2 : (k : Int) < (m : Int) := by omega
      have hkm : k < vs.length := by rw [HM.out]; exact hk'
      have HW : Hid (Calls Tryz.prog 32 #[wrOf (vs.getD k wz) ad cp] wr fun e w' => e = .returned (.bool (okW (vs.getD k wz))) ∧ Below wr.heap.size wr w') := specWriteOk_gen _ _ _ _ _ _ ad (vs.getD k wz).xs _ cp wr rfl (HY.out k hkm) hd
      clear hd HJ
      cases h1 : okW (vs.getD k wz)
      · have HF : Hid (rightB us vs = false) := right_false hkm h1
        rw [h1] at HW
        clear h1
        generalize vs.getD k wz = x at *
        obtain ⟨xk, xc, xs', xq, xv, xd, xx⟩ := x
        simp only at e0 e1 e2 e3 e4 e5 e6 HW
        go_wp2_with fail
        refine HW.out.mono ?_
        rintro e w2 ⟨rfl, hb⟩
        have HB2 : Hid (Below w.heap.size w w2) := below_step HB.out HB.out.size hb
        clear hb
        go_wp2
        go_ret
        exact ⟨ret_bool HF.out.symm, HB2.out⟩
      · have HK2 : Hid (∀ j, j < k + 1 → okW (vs.getD j wz) = true) := fun j hj => by
          by_cases h : j < k
          · exact HK.out j h
          · have : j = k := by omega
            rw [this]
            exact h1
        rw [h1] at HW
        clear h1
        generalize vs.getD k wz = x at *
        obtain ⟨xk, xc, xs', xq, xv, xd, xx⟩ := x
        simp only at e0 e1 e2 e3 e4 e5 e6 HW
        go_wp2_with fail
        refine HW.out.mono ?_
        rintro e w2 ⟨rfl, hb⟩
        have HB2 : Hid (Below w.heap.size w w2) := below_step HB.out HB.out.size hb
        clear hb
        go_wp2
        exact ⟨⟨k + 1, by omega, by go_num, HK2, HB2⟩, by simp [intOf]; omega⟩
    · have hkk : k = m := by omega
      subst hkk
      have HF : Hid (rightB us vs = true) := by
        unfold rightB
        rw [HA.out, Bool.true_and]
        show _ = _
        rw [List.all_eq_true]
        intro x hx
        obtain ⟨i, hi, rfl⟩ := List.mem_iff_getElem.1 hx
        have := HK.out i (by rw [← HM.out]; exact hi)
        simpa [List.getD, hi] using this
      go_wp2
      go_ret
      exact ⟨ret_bool HF.out.symm, HB.out⟩

end Go.Proofs.YtidpcjcnhklmpabGreat

/- The specification's l03Stay: which of some writes fit. -/
namespace Go.Proofs.YtidpcjcnhklmpabGreat
open Go.ChangeShapes Go.WideShapes Go.ChangeAt Go.RowKit Go.Joins
attribute [local go_sem ↓] Go.wp_at_zero Go.wp_at_succ

/-- The map with those of the first k writes that are marked. -/
def allTo (us vs : List Wr) (st : Nat → Bool) : Nat → List Wr
  | 0 => us
  | k + 1 => match st k with
    | true => putW (allTo us vs st k) (vs.getD k wz)
    | false => allTo us vs st k

theorem allTo_yes {us vs : List Wr} {st : Nat → Bool} {k : Nat} (h : st k = true) : allTo us vs st (k + 1) = putW (allTo us vs st k) (vs.getD k wz) := by
  unfold allTo
  rw [h]
  cases k <;> rfl

theorem allTo_no {us vs : List Wr} {st : Nat → Bool} {k : Nat} (h : st k = false) : allTo us vs st (k + 1) = allTo us vs st k := by
  rw [allTo, h]

def allOf (us vs : List Wr) (st : Nat → Bool) : List Wr := allTo us vs st vs.length

/-- One round: who stays. -/
def nextS (us vs : List Wr) (st : Nat → Bool) (j : Nat) : Bool := st j && covB (allOf us vs st) (vs.getD j wz).xs

def stayAt (us vs : List Wr) : Nat → (Nat → Bool)
  | 0 => fun _ => true
  | n + 1 => nextS us vs (stayAt us vs n)

def midS (us vs : List Wr) (st : Nat → Bool) (k j : Nat) : Bool := if j < k then nextS us vs st j else st j

theorem allTo_len (us vs : List Wr) (st : Nat → Bool) : ∀ k, (allTo us vs st k).length ≤ us.length + k
  | 0 => Nat.le_refl _
  | k + 1 => by
    have h := allTo_len us vs st k
    cases hb : st k
    · rw [allTo_no hb]
      omega
    · rw [allTo_yes hb]
      have := put_len (allTo us vs st k) (vs.getD k wz)
      omega

theorem allTo_few {us vs : List Wr} (st : Nat → Bool) (hu : Few us) (hv : Few vs) : ∀ k, k ≤ vs.length → Few (allTo us vs st k)
  | 0, _ => hu
  | k + 1, hk => by
    have h := allTo_few st hu hv k (by omega)
    cases hb : st k
    · rw [allTo_no hb]
      exact h
    · rw [allTo_yes hb]
      exact put_few h (hv k (by omega))

def cnt (st : Nat → Bool) : Nat → Nat
  | 0 => 0
  | k + 1 => cnt st k + (st k).toNat

theorem cnt_congr {s t : Nat → Bool} : ∀ {m}, (∀ j, j < m → s j = t j) → cnt s m = cnt t m
  | 0, _ => rfl
  | m + 1, h => by
    unfold cnt
    rw [cnt_congr (fun j hj => h j (by omega)), h m (by omega)]

theorem cnt_le {s t : Nat → Bool} : ∀ {m}, (∀ j, j < m → s j = true → t j = true) → cnt s m ≤ cnt t m
  | 0, _ => Nat.le_refl _
  | m + 1, h => by
    unfold cnt
    have h1 := cnt_le (m := m) (s := s) (t := t) (fun j hj => h j (by omega))
    have h2 := h m (by omega)
    cases e : s m <;> cases e' : t m <;> simp [e, e'] at h2 ⊢ <;> omega

theorem cnt_lt {s t : Nat → Bool} : ∀ {m}, (∀ j, j < m → s j = true → t j = true) → (∃ j, j < m ∧ t j = true ∧ s j = false) → cnt s m < cnt t m
  | 0, _, h => by obtain ⟨j, hj, _⟩ := h; omega
  | m + 1, h, h' => by
    obtain ⟨j, hj, h3, h4⟩ := h'
    unfold cnt
    by_cases hm : j = m
    · subst hm
      have h1 := cnt_le (m := j) (s := s) (t := t) (fun i hi => h i (by omega))
      rw [h3, h4]
      simp
      omega
    · have h1 := cnt_lt (m := m) (s := s) (t := t) (fun i hi => h i (by omega)) ⟨j, by omega, h3, h4⟩
      have h2 := h m (by omega)
      cases e : s m <;> cases e' : t m <;> simp [e, e'] at h2 ⊢ <;> omega

def boolAt (w : World) (g j : Nat) : Bool := match w.cell? ⟨g, j, none⟩ with
  | some (.bool b) => b
  | _ => false

def cntW (w : World) (g m : Nat) : Nat := cnt (boolAt w g) m

def bfill (st : Nat → Bool) (j : Nat) : Value := .bool (st j)

theorem cntW_row {w : World} {g t m : Nat} {st : Nat → Bool} (h : w.rowIs g t m (bfill st)) : cntW w g m = cnt st m :=
  cnt_congr fun j hj => by
    unfold boolAt
    rw [h.cell hj]
    rfl

theorem next_le {us vs : List Wr} {st : Nat → Bool} {j : Nat} (h : nextS us vs st j = true) : st j = true := by
  unfold nextS at h
  rw [Bool.and_eq_true] at h
  exact h.1

/-- What the second loop knows of the first k: whether all stay. -/
def Sames (us vs : List Wr) (st : Nat → Bool) (sb : Bool) (k : Nat) : Prop :=
  (sb = true → ∀ j, j < k → nextS us vs st j = st j) ∧ (sb = false → ∃ j, j < k ∧ st j = true ∧ nextS us vs st j = false)

theorem sames_start (us vs : List Wr) (st : Nat → Bool) : Sames us vs st true 0 := ⟨fun _ j hj => by omega, fun h => by simp at h⟩

theorem sames_stay {us vs : List Wr} {st : Nat → Bool} {sb : Bool} {k : Nat} (h : Sames us vs st sb k) (hk : nextS us vs st k = st k) : Sames us vs st sb (k + 1) :=
  ⟨fun hs j hj => by
    by_cases h' : j < k
    · exact h.1 hs j h'
    · have : j = k := by omega
      rw [this, hk], fun hs => by
    obtain ⟨j, hj, h1⟩ := h.2 hs
    exact ⟨j, by omega, h1⟩⟩

theorem sames_go {us vs : List Wr} {st : Nat → Bool} {k : Nat} (h1 : st k = true) (h2 : nextS us vs st k = false) : Sames us vs st false (k + 1) :=
  ⟨fun hs => by simp at hs, fun _ => ⟨k, by omega, h1, h2⟩⟩

theorem mid_stay {us vs : List Wr} {st : Nat → Bool} {k : Nat} (hk : nextS us vs st k = st k) (j : Nat) : midS us vs st (k + 1) j = midS us vs st k j := by
  unfold midS
  by_cases h : j < k
  · rw [if_pos h, if_pos (by omega)]
  · rw [if_neg h]
    by_cases h' : j = k
    · rw [if_pos (by omega), h', hk]
    · rw [if_neg (by omega)]

theorem mid_go {us vs : List Wr} {st : Nat → Bool} {k : Nat} (hk : nextS us vs st k = false) (j : Nat) : (if j = k then Value.bool false else bfill (midS us vs st k) j) = bfill (midS us vs st (k + 1)) j := by
  unfold bfill midS
  by_cases h' : j = k
  · rw [if_pos h', if_pos (by omega), h', hk]
  · rw [if_neg h']
    by_cases h : j < k
    · rw [if_pos h, if_pos (by omega)]
    · rw [if_neg h, if_neg (by omega)]

theorem mid_end {us vs : List Wr} {st : Nat → Bool} {m : Nat} {j : Nat} (hj : j < m) : bfill (midS us vs st m) j = bfill (nextS us vs st) j := by
  unfold bfill midS
  rw [if_pos hj]

theorem bstart_go (k j : Nat) : (if j = k then Value.bool true else bfill (fun j => decide (j < k)) j) = bfill (fun j => decide (j < k + 1)) j := by
  unfold bfill
  by_cases h' : j = k
  · rw [if_pos h', h']
    simp
  · rw [if_neg h']
    congr 1
    simp only [decide_eq_decide]
    omega

theorem infoBool : (Tryz.prog.info? 4).map (fun i => (i.zero, i.size, i.bytes)) = some (some (.bool false), 1, 1) := by kernel_rfl

theorem run_make_bools (n : Nat) (hn : n ≤ 1048576) (w : World) :
    (Instr.makeSlice 79 (.int .i64 (n : Int)) (.int .i64 (n : Int))).run Tryz.prog w = .ok (.slice (some ⟨w.heap.size, 0, none⟩) n n) (w.alloc (.cells (madeCells #[.bool false] n) 4)) := by
  obtain ⟨i, hi, hzz⟩ := Option.map_eq_some_iff.1 infoBool
  simp only [Prod.mk.injEq] at hzz
  obtain ⟨hz, hs, hb⟩ := hzz
  have hr := run_make (P := Tryz.prog) w 79 4 i _ Tryz.underlying79 hi hz .i64 .i64 n n (by omega) (Int.le_refl _) (by rw [hb]; omega) (by omega)
  simp only [Int.toNat_natCast, hs, Nat.mul_one] at hr
  exact hr

theorem brow_start (w : World) (t n : Nat) : (w.alloc (.cells (madeCells #[.bool false] n) t)).rowIs w.heap.size t n (bfill fun j => decide (j < 0)) := by
  refine ⟨_, Go.Deep.blk_alloc_new _ _, size_madeCells _ _, fun i hi => ?_⟩
  simp [madeCells, hi, bfill, Nat.mod_one]

set_option maxRecDepth 100000 in
set_option maxHeartbeats 8000000 in
theorem l03Stay_any (a b : Option Addr) (n m cap cap' : Nat) (us vs : List Wr) (w : World) (hn : us.length = n) (hm : vs.length = m) (hs : n + m ≤ 1048576) (hx : Few us) (hy : Few vs) (hi : IsWs w a us) (hj : IsWs w b vs) :
    Calls Tryz.prog 58 #[.slice a n cap, .slice b m cap'] w fun e w' => e = .returned (.slice (some ⟨w.heap.size, 0, none⟩) m m) ∧ ∃ r, w'.rowIs w.heap.size 4 m (bfill (stayAt us vs r)) ∧ (∀ j, j < m → nextS us vs (stayAt us vs r) j = stayAt us vs r j) ∧ Below w.heap.size w w' := by
  have HI : Hid (IsWs w a us) := hi
  have HJ : Hid (IsWs w b vs) := hj
  have HN : Hid (us.length = n) := hn
  have HM : Hid (vs.length = m) := hm
  have HX : Hid (Few us) := hx
  have HY : Hid (Few vs) := hy
  clear hi hj hn hm hx hy
  have hmk := run_make_bools m (by omega)
  go_enter Tryz.func58, Tryz.ntmps58
  go_wp2
  clear hmk
  go_loopw [6] (fun i wr => ∃ k : Nat, k ≤ m ∧ i = .int .i64 k ∧ Hid (wr.rowIs w.heap.size 4 m (bfill fun j => decide (j < k))) ∧ Hid (Below w.heap.size w wr)) (fun i _ => m - (intOf i).toNat)
  case atStart => exact ⟨0, Nat.zero_le _, rfl, brow_start _ _ _, (Below.refl _ _).alloc (Nat.le_refl _) _⟩
  case round =>
    obtain ⟨k, hk, rfl, HR, HB⟩ := hrel
    by_cases hk' : k < m
    · have i1 : (0 : Int) ≤ (k : Int) := by omega
      have i2 : (k : Int) < (m : Int) := by omega
      have c0 := HR.out.cell (i := k) (by omega)
      have fz := HR.out.frozen
      unfold bfill at c0
      have HR2 : Hid ((wr.setCell ⟨w.heap.size, k, none⟩ (.bool true)).rowIs w.heap.size 4 m (bfill fun j => decide (j < k + 1))) := (HR.out.set k (.bool true)).congr fun j _ => bstart_go k j
      have HB2 : Hid (Below w.heap.size w (wr.setCell ⟨w.heap.size, k, none⟩ (.bool true))) := HB.out.setCell (p := ⟨w.heap.size, k, none⟩) (Nat.le_refl _) _
      go_wp2
      exact ⟨⟨k + 1, by omega, by go_num, HR2, HB2⟩, by simp [intOf]; omega⟩
    · have hkk : k = m := by omega
      subst hkk
      have HR1 : Hid (wr.rowIs w.heap.size 4 k (bfill (stayAt us vs 0))) := HR.out.congr fun j hj => by
        unfold bfill stayAt
        simp [hj]
      clear HR
      go_wp2
      go_loopw [9] (fun _ wr => ∃ r : Nat, Hid (wr.rowIs w.heap.size 4 k (bfill (stayAt us vs r))) ∧ Hid (Below w.heap.size w wr)) (fun _ wr => cntW wr w.heap.size k)
      case atStart => exact ⟨0, HR1, HB⟩
      case round =>
        clear HR1 HB
        obtain ⟨r, HR, HB⟩ := hrel
        obtain ⟨wo, rfl⟩ : ∃ wo : World, wo = wr := ⟨_, rfl⟩
        have HME : Hid (cntW wo w.heap.size k = cnt (stayAt us vs r) k) := cntW_row HR.out
        generalize hst : stayAt us vs r = st at *
        have HST := Lib.hid hst
        clear hst
        have hwo : w.heap.size < wo.heap.size := HR.out.lt
        go_wp2_with fail
        refine (copies_gen a n cap us _ HN.out (by omega) HX.out (HI.out.below HB.out)).mono ?_
        rintro e w1 ⟨g0, cp0, es0, rfl, he0, hr0, hb0⟩
        have HE0 := Lib.hid he0
        have HR0 := Lib.hid (hr0.mono (base' := w.heap.size + 1) hwo)
        have HB0 := Lib.hid (below_step HB.out HB.out.size hb0)
        have HS0 : Hid (w1.rowIs w.heap.size 4 k (bfill st)) := HR.out.of_block (hb0.block _ HR.out.lt)
        clear he0 hr0 hb0 HR HB
        go_wp2
        go_loopw [7, 8] (fun t i wr => ∃ (q L g cp : Nat) (es : List En), q ≤ k ∧ L ≤ n + q ∧ i = .int .i64 q ∧ t = .slice (some ⟨g, 0, none⟩) L cp ∧ Hid (es.length = L) ∧ Hid (es.map (·.x) = allTo us vs st q) ∧ Hid (RowEs wr (w.heap.size + 1) g cp es) ∧ Hid (wr.rowIs w.heap.size 4 k (bfill st)) ∧ Hid (Below w.heap.size w wr)) (fun _ i _ => k - (intOf i).toNat)
        case atStart => exact ⟨0, n, g0, cp0, es0, Nat.zero_le _, Nat.le_refl _, rfl, rfl, by have := congrArg List.length HE0.out; simp at this; exact this.trans HN.out, HE0, HR0, HS0, HB0⟩
        case round =>
          clear HE0 HR0 HB0 HS0
          obtain ⟨q, L, g, cp, es, hq, hL, rfl, rfl, HL, HE, HR, HS, HB⟩ := hrel
          by_cases hq' : q < k
          · have i1 : (0 : Int) ≤ (q : Int) := by omega
            have i2 : (q : Int) < (k : Int) := by omega
            have c0 := HS.out.cell (i := q) (by omega)
            unfold bfill at c0
            cases hb : st q
            · rw [hb] at c0
              have HE2 : Hid (es.map (·.x) = allTo us vs st (q + 1)) := HE.out.trans (allTo_no hb).symm
              clear hb HE
              go_wp2
              exact ⟨⟨q + 1, L, g, cp, es, by omega, by omega, by go_num, rfl, HL, HE2, HR, HS, HB⟩, by simp [intOf]; omega⟩
            · rw [hb] at c0
              obtain ⟨bb, oo, ad, cq, rfl, hz, ⟨e0, e1, e2, e3, e4, e5, e6⟩, hd⟩ := HJ.out.at HB.out HM.out hq'
              have hqb : q < vs.length := by rw [HM.out]; exact hq'
              have hxl := HY.out q hqb
              have HD := Lib.hid hd
              have HW : Hid (HoldsWs wr g (allTo us vs st q) (gamma es)) := HR.out.holds HE.out
              have HF : Hid (Few (allTo us vs st q)) := allTo_few st HX.out HY.out q (by omega)
              have HLL : Hid ((allTo us vs st q).length = L) := by
                rw [← HE.out, List.length_map]
                exact HL
              have HT : Hid (allTo us vs st (q + 1) = putW (allTo us vs st q) (vs.getD q wz)) := allTo_yes hb
              clear hd HJ hb
              generalize vs.getD q wz = x at *
              obtain ⟨xk, xc, xs', xq, xv, xd, xx⟩ := x
              simp only at e0 e1 e2 e3 e4 e5 e6 hxl HD
              generalize allTo us vs st q = ms at *
              go_wp2_with fail
              refine (put_gen _ L cp ms ⟨xk, xc, xs', xq, xv, xd, xx⟩ ad cq _ HLL.out (by omega) HF.out (HW.out.isWs HF.out) hxl HD.out).mono ?_
              rintro e w2 ⟨g2, cp2, es2, L2, rfl, hl2, he2, hr2, hb2⟩
              have hL2 : L2 ≤ L + 1 := by
                have h1 := put_len ms ⟨xk, xc, xs', xq, xv, xd, xx⟩
                rw [← he2, HLL.out, List.length_map, hl2] at h1
                exact h1
              have HL2 := Lib.hid hl2
              have HE2 : Hid (es2.map (·.x) = allTo us vs st (q + 1)) := he2.trans HT.out.symm
              have HR2 := Lib.hid (hr2.mono (base' := w.heap.size + 1) (Nat.succ_le_succ HB.out.size))
              have HB2 := Lib.hid (below_step HB.out HB.out.size hb2)
              have HS2 : Hid (w2.rowIs w.heap.size 4 k (bfill st)) := HS.out.of_block (hb2.block _ HS.out.lt)
              clear hl2 he2 hr2 hb2
              go_wp2
              exact ⟨⟨q + 1, L2, g2, cp2, es2, by omega, by omega, by go_num, rfl, HL2, HE2, HR2, HS2, HB2⟩, by simp [intOf]; omega⟩
          · have hqq : q = k := by omega
            subst hqq
            have HEA : Hid (es.map (·.x) = allOf us vs st) := by
              unfold allOf
              rw [HM.out]
              exact HE
            have HF : Hid (Few (allOf us vs st)) := allTo_few st HX.out HY.out _ (Nat.le_refl _)
            have HLL : Hid ((allOf us vs st).length = L) := by
              rw [← HEA.out, List.length_map]
              exact HL
            have HS1 : Hid (wr.rowIs w.heap.size 4 q (bfill (midS us vs st 0))) := HS.out.congr fun j _ => by
              unfold bfill midS
              rw [if_neg (by omega)]
            clear HE HS
            go_wp2
            go_loopw [9, 10] (fun sm i wr => ∃ (p : Nat) (sb : Bool), p ≤ q ∧ i = .int .i64 p ∧ sm = .bool sb ∧ Hid (Sames us vs st sb p) ∧ Hid (RowEs wr (w.heap.size + 1) g cp es) ∧ Hid (wr.rowIs w.heap.size 4 q (bfill (midS us vs st p))) ∧ Hid (Below w.heap.size w wr)) (fun _ i _ => q - (intOf i).toNat)
            case atStart => exact ⟨0, true, Nat.zero_le _, rfl, rfl, sames_start us vs st, HR, HS1, HB⟩
            case round =>
              clear HR HS1 HB
              obtain ⟨p, sb, hp, rfl, rfl, HSA, HR, HS, HB⟩ := hrel
              by_cases hp' : p < q
              · have i1 : (0 : Int) ≤ (p : Int) := by omega
                have i2 : (p : Int) < (q : Int) := by omega
                have c0 := HS.out.cell (i := p) (by omega)
                have fz := HS.out.frozen
                have c1 : bfill (midS us vs st p) p = .bool (st p) := by unfold bfill midS; rw [if_neg (by omega)]
                rw [c1] at c0
                clear c1
                obtain ⟨bb, oo, ad, cq, rfl, hz, ⟨e0, e1, e2, e3, e4, e5, e6⟩, hd⟩ := HJ.out.at HB.out HM.out hp'
                have hqb : p < vs.length := by rw [HM.out]; exact hp'
                cases hb : st p
                · have hnx : nextS us vs st p = st p := by unfold nextS; rw [hb, Bool.false_and]
                  have HSA2 := Lib.hid (sames_stay HSA.out hnx)
                  have HS2 : Hid (wr.rowIs w.heap.size 4 q (bfill (midS us vs st (p + 1)))) := HS.out.congr fun j _ => by unfold bfill; rw [mid_stay hnx]
                  rw [hb] at c0
                  clear hnx hb hd HS HSA HJ
                  go_wp2
                  exact ⟨⟨p + 1, sb, by omega, by go_num, rfl, HSA2, HR, HS2, HB⟩, by simp [intOf]; omega⟩
                · have HW : Hid (HoldsWs wr g (allOf us vs st) (gamma es)) := HR.out.holds HEA.out
                  have HC : Hid (Calls Tryz.prog 75 #[.slice (some ⟨g, 0, none⟩) L cp, .slice ad (vs.getD p wz).xs.length cq] wr fun e w' => e = .returned (.bool (covB (allOf us vs st) (vs.getD p wz).xs)) ∧ Below wr.heap.size wr w') :=
                    specCovered_any _ ad L _ cp cq (allOf us vs st) (vs.getD p wz).xs wr HLL.out (by omega) HF.out rfl (HY.out p hqb) (HW.out.isWs HF.out) hd
                  rw [hb] at c0
                  have hnx : nextS us vs st p = covB (allOf us vs st) (vs.getD p wz).xs := by unfold nextS; rw [hb, Bool.true_and]
                  cases hcv : covB (allOf us vs st) (vs.getD p wz).xs
                  · rw [hcv] at hnx HC
                    have HSA2 := Lib.hid (sames_go hb hnx)
                    have HGO := Lib.hid (mid_go (us := us) (vs := vs) hnx)
                    clear hnx hb hd hcv HSA HJ HW
                    generalize vs.getD p wz = x at *
                    obtain ⟨xk, xc, xs', xq, xv, xd, xx⟩ := x
                    simp only at e0 e1 e2 e3 e4 e5 e6 HC
                    go_wp2_with fail
                    refine HC.out.mono ?_
                    rintro e w2 ⟨rfl, hb2⟩
                    have HB2 := Lib.hid (below_step HB.out HB.out.size hb2)
                    have HS2 : Hid (w2.rowIs w.heap.size 4 q (bfill (midS us vs st p))) := HS.out.of_block (hb2.block _ HS.out.lt)
                    have HR2 := Lib.hid (HR.out.below hb2)
                    have d0 : w2.cell? ⟨w.heap.size, p, none⟩ = some (.bool true) := (World.cell?_of_block (a := ⟨w.heap.size, p, none⟩) (hb2.block _ HS.out.lt)).trans c0
                    have fz2 := HS2.out.frozen
                    clear hb2 c0 fz HC HB HS HR
                    have HS3 : Hid ((w2.setCell ⟨w.heap.size, p, none⟩ (.bool false)).rowIs w.heap.size 4 q (bfill (midS us vs st (p + 1)))) := (HS2.out.set p (.bool false)).congr fun j _ => HGO.out j
                    have HB3 : Hid (Below w.heap.size w (w2.setCell ⟨w.heap.size, p, none⟩ (.bool false))) := HB2.out.setCell (p := ⟨w.heap.size, p, none⟩) (Nat.le_refl _) _
                    have HR3 := Lib.hid (HR2.out.setBelow (Nat.lt_succ_self _) p (.bool false))
                    go_wp2
                    exact ⟨⟨p + 1, false, by omega, by go_num, rfl, HSA2, HR3, HS3, HB3⟩, by simp [intOf]; omega⟩
                  · rw [hcv] at hnx HC
                    have hnx2 : nextS us vs st p = st p := hnx.trans hb.symm
                    have HSA2 := Lib.hid (sames_stay HSA.out hnx2)
                    have HGO := Lib.hid (mid_stay hnx2)
                    clear hnx hnx2 hb hd hcv HSA HJ HW
                    generalize vs.getD p wz = x at *
                    obtain ⟨xk, xc, xs', xq, xv, xd, xx⟩ := x
                    simp only at e0 e1 e2 e3 e4 e5 e6 HC
                    go_wp2_with fail
                    refine HC.out.mono ?_
                    rintro e w2 ⟨rfl, hb2⟩
                    have HB2 := Lib.hid (below_step HB.out HB.out.size hb2)
                    have HS2 : Hid (w2.rowIs w.heap.size 4 q (bfill (midS us vs st (p + 1)))) := (HS.out.of_block (hb2.block _ HS.out.lt)).congr fun j _ => by unfold bfill; rw [HGO.out]
                    have HR2 := Lib.hid (HR.out.below hb2)
                    clear hb2 c0 fz HC HB HS HR
                    go_wp2
                    exact ⟨⟨p + 1, sb, by omega, by go_num, rfl, HSA2, HR2, HS2, HB2⟩, by simp [intOf]; omega⟩
              · have hpp : p = q := by omega
                subst hpp
                have HS2 : Hid (wr.rowIs w.heap.size 4 p (bfill (nextS us vs st))) := HS.out.congr fun j hj => mid_end hj
                cases sb
                · have HS3 : Hid (wr.rowIs w.heap.size 4 p (bfill (stayAt us vs (r + 1)))) := by
                    show Hid (wr.rowIs _ _ _ (bfill (nextS us vs (stayAt us vs r))))
                    rw [HST.out]
                    exact HS2
                  have hlt : cntW wr w.heap.size p < cntW wo w.heap.size p := by
                    rw [HME.out, cntW_row HS2.out]
                    exact cnt_lt (fun j _ h => next_le h) (HSA.out.2 rfl)
                  clear HS HS2 HSA
                  go_wp2
                  exact ⟨⟨r + 1, HS3, HB⟩, hlt⟩
                · have HS3 : Hid (wr.rowIs w.heap.size 4 p (bfill (stayAt us vs r)) ∧ ∀ j, j < p → nextS us vs (stayAt us vs r) j = stayAt us vs r j) := by
                    rw [HST.out]
                    exact ⟨HS2.out.congr fun j hj => by unfold bfill; rw [HSA.out.1 rfl j hj], HSA.out.1 rfl⟩
                  clear HS HS2 HSA
                  go_wp2
                  go_ret
                  exact ⟨rfl, r, HS3.out.1, HS3.out.2, HB.out⟩

end Go.Proofs.YtidpcjcnhklmpabGreat

/- What fits together, with no program in sight: the rounds end at the greatest that fits. -/
namespace Go.Proofs.YtidpcjcnhklmpabGreat
open Go.ChangeShapes Go.WideShapes Go.ChangeAt Go.RowKit Go.Joins

theorem tcmp_ge_trans {c s q c' s' q' c2 s2 q2 : Int} (h : 0 ≤ tcmp c s q c' s' q') (h' : 0 ≤ tcmp c' s' q' c2 s2 q2) : 0 ≤ tcmp c s q c2 s2 q2 := by
  have t := tcmp_three c2 s2 q2 c' s' q' c s q
  rw [tcmp_neg c' s' q' c2 s2 q2, tcmp_neg c s q c' s' q', tcmp_neg c s q c2 s2 q2] at t
  rcases t.on (by omega) (by omega) with h1 | h1 <;> omega

theorem cmpW_neg_t {x y : Wr} (h : cmpW y x < 0) : 0 ≤ tcmp x.c x.s x.q y.c y.s y.q := by
  rw [tcmp_neg y.c y.s y.q x.c x.s x.q]
  unfold cmpW wcmp at h
  by_cases ht : tcmp y.c y.s y.q x.c x.s x.q = 0
  · omega
  · rw [if_pos ht] at h
    omega

theorem cmpW_ge_t {x y : Wr} (h : ¬ cmpW y x < 0) : 0 ≤ tcmp y.c y.s y.q x.c x.s x.q := by
  unfold cmpW wcmp at h
  by_cases ht : tcmp y.c y.s y.q x.c x.s x.q = 0
  · omega
  · rw [if_pos ht] at h
    omega

theorem has_put {ws : List Wr} (h : Rise ws) (x : Wr) (key c s q : Int) : hasB (putW ws x) key c s q = true ↔ hasB ws key c s q = true ∨ (x.k = key ∧ 0 ≤ tcmp x.c x.s x.q c s q) := by
  unfold hasB
  rw [find_putW h]
  by_cases hk : key = x.k
  · subst hk
    rw [if_pos rfl]
    cases hf : findW ws x.k with
    | none =>
      show decide (0 ≤ tcmp x.c x.s x.q c s q) = true ↔ false = true ∨ (x.k = x.k ∧ 0 ≤ tcmp x.c x.s x.q c s q)
      rw [decide_eq_true_eq]
      exact ⟨fun h => .inr ⟨rfl, h⟩, fun h => by
        rcases h with h | h
        · simp at h
        · exact h.2⟩
    | some y =>
      by_cases hc : cmpW y x < 0
      · have e : laterO (some y) x = x := by
          unfold laterO
          exact if_pos hc
        rw [e]
        show decide (0 ≤ tcmp x.c x.s x.q c s q) = true ↔ decide (0 ≤ tcmp y.c y.s y.q c s q) = true ∨ (x.k = x.k ∧ 0 ≤ tcmp x.c x.s x.q c s q)
        rw [decide_eq_true_eq, decide_eq_true_eq]
        exact ⟨fun h => .inr ⟨rfl, h⟩, fun h => by
          rcases h with h | h
          · exact tcmp_ge_trans (cmpW_neg_t hc) h
          · exact h.2⟩
      · have e : laterO (some y) x = y := by
          unfold laterO
          exact if_neg hc
        rw [e]
        show decide (0 ≤ tcmp y.c y.s y.q c s q) = true ↔ decide (0 ≤ tcmp y.c y.s y.q c s q) = true ∨ (x.k = x.k ∧ 0 ≤ tcmp x.c x.s x.q c s q)
        rw [decide_eq_true_eq]
        exact ⟨.inl, fun h => by
          rcases h with h | h
          · exact h
          · exact tcmp_ge_trans (cmpW_ge_t hc) h.2⟩
  · rw [if_neg hk]
    constructor
    · exact .inl
    · rintro (h1 | h1)
      · exact h1
      · exact absurd h1.1.symm hk

theorem rise_allTo {us : List Wr} (vs : List Wr) (st : Nat → Bool) (h : Rise us) : ∀ k, Rise (allTo us vs st k)
  | 0 => h
  | k + 1 => by
    cases hb : st k
    · rw [allTo_no hb]
      exact rise_allTo vs st h k
    · rw [allTo_yes hb]
      exact rise_putW (rise_allTo vs st h k) _

theorem has_allTo {us : List Wr} (vs : List Wr) (st : Nat → Bool) (h : Rise us) (key c s q : Int) : ∀ k, hasB (allTo us vs st k) key c s q = true ↔ hasB us key c s q = true ∨ ∃ j, j < k ∧ st j = true ∧ (vs.getD j wz).k = key ∧ 0 ≤ tcmp (vs.getD j wz).c (vs.getD j wz).s (vs.getD j wz).q c s q
  | 0 => by
    constructor
    · exact .inl
    · rintro (h1 | ⟨j, hj, _⟩)
      · exact h1
      · omega
  | k + 1 => by
    have ih := has_allTo vs st h key c s q k
    cases hb : st k
    · rw [allTo_no hb, ih]
      constructor
      · rintro (h1 | ⟨j, hj, h2⟩)
        · exact .inl h1
        · exact .inr ⟨j, by omega, h2⟩
      · rintro (h1 | ⟨j, hj, h2, h3⟩)
        · exact .inl h1
        · refine .inr ⟨j, ?_, h2, h3⟩
          have : j ≠ k := fun e => by rw [e, hb] at h2; simp at h2
          omega
    · rw [allTo_yes hb, has_put (rise_allTo vs st h k), ih]
      constructor
      · rintro ((h1 | ⟨j, hj, h2⟩) | h1)
        · exact .inl h1
        · exact .inr ⟨j, by omega, h2⟩
        · exact .inr ⟨k, by omega, hb, h1⟩
      · rintro (h1 | ⟨j, hj, h2, h3⟩)
        · exact .inl (.inl h1)
        · by_cases e : j = k
          · rw [e] at h3
            exact .inr h3
          · exact .inl (.inr ⟨j, by omega, h2, h3⟩)

theorem cov_iff (ws : List Wr) (ds : List Dp) : covB ws ds = true ↔ ∀ d ∈ ds, hasB ws d.k d.c d.s d.q = true := by
  unfold covB lacksL
  rw [beq_iff_eq, List.length_eq_zero_iff, List.filter_eq_nil_iff]
  constructor
  · intro h d hd
    have := h d hd
    unfold lacking at this
    simpa using this
  · intro h d hd
    unfold lacking
    rw [h d hd]
    simp

theorem cov_mono {us : List Wr} {vs : List Wr} {s t : Nat → Bool} (h : Rise us) (hst : ∀ j, j < vs.length → s j = true → t j = true) {ds : List Dp} (hc : covB (allOf us vs s) ds = true) : covB (allOf us vs t) ds = true := by
  rw [cov_iff] at *
  intro d hd
  have h1 := hc d hd
  unfold allOf at *
  rw [has_allTo vs _ h] at *
  rcases h1 with h1 | ⟨j, hj, h2, h3⟩
  · exact .inl h1
  · exact .inr ⟨j, hj, hst j hj h2, h3⟩

theorem allTo_congr {us vs : List Wr} {s t : Nat → Bool} : ∀ {k}, (∀ j, j < k → s j = t j) → allTo us vs s k = allTo us vs t k
  | 0, _ => rfl
  | k + 1, h => by
    have ih := allTo_congr (us := us) (vs := vs) (k := k) (fun j hj => h j (by omega))
    have hk := h k (by omega)
    cases hb : t k
    · rw [allTo_no hb, allTo_no (hk.trans hb), ih]
    · rw [allTo_yes hb, allTo_yes (hk.trans hb), ih]

theorem next_congr {us vs : List Wr} {s t : Nat → Bool} (h : ∀ j, j < vs.length → s j = t j) {j : Nat} (hj : j < vs.length) : nextS us vs s j = nextS us vs t j := by
  unfold nextS allOf
  rw [h j hj, allTo_congr h]

/-- Who fits. -/
def fixS (us vs : List Wr) : Nat → Bool := stayAt us vs vs.length

def Fixed (us vs : List Wr) (st : Nat → Bool) : Prop := ∀ j, j < vs.length → nextS us vs st j = st j

theorem fixed_on {us vs : List Wr} {r : Nat} (h : Fixed us vs (stayAt us vs r)) : ∀ s, ∀ j, j < vs.length → stayAt us vs (r + s) j = stayAt us vs r j
  | 0, j, _ => rfl
  | s + 1, j, hj => by
    show nextS us vs (stayAt us vs (r + s)) j = _
    rw [next_congr (fixed_on h s) hj]
    exact h j hj

theorem stay_rounds (us vs : List Wr) : ∀ r, (∃ s, s ≤ r ∧ Fixed us vs (stayAt us vs s)) ∨ cnt (stayAt us vs r) vs.length + r ≤ vs.length
  | 0 => by
    right
    have h : ∀ (st : Nat → Bool) m, cnt st m ≤ m := by
      intro st m
      induction m with
      | zero => exact Nat.le_refl _
      | succ m ih =>
        unfold cnt
        cases st m <;> simp <;> omega
    have := h (stayAt us vs 0) vs.length
    omega
  | r + 1 => by
    rcases stay_rounds us vs r with ⟨s, hs, hf⟩ | h
    · exact .inl ⟨s, by omega, hf⟩
    · by_cases hf : Fixed us vs (stayAt us vs r)
      · exact .inl ⟨r, by omega, hf⟩
      · right
        unfold Fixed at hf
        simp only [Classical.not_forall] at hf
        obtain ⟨j, hj, hne⟩ := hf
        have hlt : cnt (nextS us vs (stayAt us vs r)) vs.length < cnt (stayAt us vs r) vs.length := by
          refine cnt_lt (fun j _ h => next_le h) ⟨j, hj, ?_⟩
          cases h1 : stayAt us vs r j <;> cases h2 : nextS us vs (stayAt us vs r) j
          · rw [h1, h2] at hne; exact absurd rfl hne
          · have := next_le h2; rw [h1] at this; simp at this
          · exact ⟨rfl, rfl⟩
          · rw [h1, h2] at hne; exact absurd rfl hne
        show cnt (nextS us vs (stayAt us vs r)) vs.length + (r + 1) ≤ vs.length
        omega

theorem cnt_zero {s : Nat → Bool} : ∀ {m}, cnt s m = 0 → ∀ j, j < m → s j = false
  | 0, _, j, hj => by omega
  | m + 1, h, j, hj => by
    unfold cnt at h
    by_cases e : j = m
    · rw [e]
      cases hb : s m
      · rfl
      · rw [hb] at h; simp at h
    · exact cnt_zero (m := m) (by omega) j (by omega)

theorem fix_fixed (us vs : List Wr) : Fixed us vs (fixS us vs) := by
  rcases stay_rounds us vs vs.length with ⟨s, hs, hf⟩ | h
  · have h1 := fixed_on hf (vs.length - s)
    rw [show s + (vs.length - s) = vs.length by omega] at h1
    intro j hj
    unfold fixS
    rw [next_congr h1 hj, hf j hj, h1 j hj]
  · have h0 := cnt_zero (m := vs.length) (s := stayAt us vs vs.length) (by omega)
    intro j hj
    have h1 := h0 j hj
    unfold fixS
    rw [h1]
    cases h2 : nextS us vs (stayAt us vs vs.length) j
    · rfl
    · have := next_le h2
      rw [h1] at this
      simp at this

theorem stay_is_fix {us vs : List Wr} {r : Nat} (h : Fixed us vs (stayAt us vs r)) : ∀ j, j < vs.length → stayAt us vs r j = fixS us vs j := by
  intro j hj
  by_cases hr : r ≤ vs.length
  · have h1 := fixed_on h (vs.length - r) j hj
    rw [show r + (vs.length - r) = vs.length by omega] at h1
    exact h1.symm
  · have h1 := fixed_on (fix_fixed us vs) (r - vs.length) j hj
    rw [show vs.length + (r - vs.length) = r by omega] at h1
    exact h1

theorem fix_great {us vs : List Wr} (h : Rise us) {T : Nat → Bool} (hT : ∀ j, j < vs.length → T j = true → covB (allOf us vs T) (vs.getD j wz).xs = true) : ∀ r, ∀ j, j < vs.length → T j = true → stayAt us vs r j = true
  | 0, j, _, _ => rfl
  | r + 1, j, hj, h1 => by
    show nextS us vs (stayAt us vs r) j = true
    unfold nextS
    rw [fix_great h hT r j hj h1, Bool.true_and]
    exact cov_mono h (fun i hi h2 => fix_great h hT r i hi h2) (hT j hj h1)

/-- What strikes out only what is not covered strikes out nothing that fits. -/
theorem fix_kept {us vs : List Wr} (h : Rise us) {S : Nat → Bool} (hS : ∀ j, j < vs.length → fixS us vs j = true → S j = true) {p : Nat} (hp : p < vs.length) (hc : covB (allOf us vs S) (vs.getD p wz).xs = false) : fixS us vs p = false := by
  cases hb : fixS us vs p
  · rfl
  · have h1 := fix_fixed us vs p hp
    rw [hb] at h1
    unfold nextS at h1
    rw [Bool.and_eq_true] at h1
    have h2 := cov_mono h hS h1.2
    rw [hc] at h2
    simp at h2

/-- What keeps all that fits, and is covered by itself, is what fits. -/
theorem fix_is {us vs : List Wr} (h : Rise us) {S : Nat → Bool} (hS : ∀ j, j < vs.length → fixS us vs j = true → S j = true) (hc : ∀ j, j < vs.length → S j = true → covB (allOf us vs S) (vs.getD j wz).xs = true) : ∀ j, j < vs.length → S j = fixS us vs j := by
  intro j hj
  cases hb : S j
  · cases hf : fixS us vs j
    · rfl
    · rw [hS j hj hf] at hb
      simp at hb
  · exact (fix_great h hc vs.length j hj hb).symm

/-- Those of the first k that are marked so. -/
def thoseTo (vs : List Wr) (st : Nat → Bool) (fit : Bool) : Nat → List Wr
  | 0 => []
  | k + 1 => if st k = fit then thoseTo vs st fit k ++ [vs.getD k wz] else thoseTo vs st fit k

theorem those_congr {vs : List Wr} {s t : Nat → Bool} {fit : Bool} : ∀ {k}, (∀ j, j < k → s j = t j) → thoseTo vs s fit k = thoseTo vs t fit k
  | 0, _ => rfl
  | k + 1, h => by
    unfold thoseTo
    rw [h k (by omega), those_congr (k := k) (fun j hj => h j (by omega))]

theorem those_len (vs : List Wr) (st : Nat → Bool) (fit : Bool) : ∀ k, (thoseTo vs st fit k).length ≤ k
  | 0 => Nat.le_refl _
  | k + 1 => by
    have := those_len vs st fit k
    unfold thoseTo
    split
    · simp
      omega
    · omega

theorem allTo_join (us vs : List Wr) (st : Nat → Bool) : ∀ k, allTo us vs st k = joinW us (thoseTo vs st true k)
  | 0 => rfl
  | k + 1 => by
    have ih := allTo_join us vs st k
    unfold thoseTo
    cases hb : st k
    · rw [allTo_no hb, ih, if_neg (by simp)]
    · rw [allTo_yes hb, ih, if_pos rfl]
      unfold joinW
      rw [List.foldl_append]
      rfl

/-- What fits, what is held. -/
def fitL (us vs : List Wr) (fit : Bool) : List Wr := match rightB us vs with
  | true => thoseTo vs (fixS us vs) fit vs.length
  | false => []

end Go.Proofs.YtidpcjcnhklmpabGreat
