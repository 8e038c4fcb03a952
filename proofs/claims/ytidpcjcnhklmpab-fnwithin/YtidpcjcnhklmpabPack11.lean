import Derived.Test.YtidpcjcnhklmpabPack10
import Derived.Test.YtidpcjcnhklmpabPack8
import Derived.Test.YtidpcjcnhklmpabPack9
/- The contract of the cursor's amap. -/
namespace Go.Proofs.Ytidpcjcnhklmpab
open Go.ChangeShapes Go.WideShapes Go.ChangeAt Go.RowKit Go.Joins
attribute [local go_sem ↓] Go.wp_at_zero Go.wp_at_succ

set_option maxHeartbeats 1000000 in
theorem pick_one (B : Nat) (w : World) :
    Calls Try.prog 31 #[.pointer (some ⟨B, 0, none⟩), .int .i64 1] w fun e w' => e = .returned (.int .i64 0) ∧ w' = w := by
  go_enter Try.func31, Try.ntmps31
  go_wp2
  go_ret
  exact ⟨rfl, rfl⟩

theorem pick_len (B : Nat) (a : Option Addr) (len cap : Nat) (N : Int) (n : Nat) (w : World) (hN : N ≤ 1000000) (hn : 1 ≤ n) (hn' : n ≤ 100000) (h : Cur w B a len cap N) :
    Calls Try.prog 31 #[.pointer (some ⟨B, 0, none⟩), .int .i64 (n : Int)] w fun e w' => ∃ r : Nat, e = .returned (.int .i64 (r : Int)) ∧ r < n ∧ Cur w' B a len cap (N + 1) ∧ Hole B w w' := by
  by_cases h1 : n = 1
  · subst h1
    refine (pick_one B w).mono ?_
    rintro e w' ⟨rfl, rfl⟩
    exact ⟨0, rfl, by omega, h.more (by omega), Hole.refl _ _⟩
  · refine (pick_any B a len cap N n w hN (by omega) (by omega) h).mono ?_
    rintro e w' ⟨r, rfl, h2, h3, h4, h5⟩
    obtain ⟨r', rfl⟩ := Int.eq_ofNat_of_zero_le h2
    exact ⟨r', rfl, by omega, h4, h5⟩

def setK (e : En) (k : Int) : En := ⟨⟨k, e.x.c, e.x.s, e.x.q, e.x.v, e.x.de, e.x.xs⟩, e.g, e.cp⟩

theorem vals_set : ∀ (es : List En) (i : Nat) (k : Int), i < es.length → (es.flatMap wrVals).set (i * 7) (.int .i64 k) = (es.set i (setK (es.getD i ez) k)).flatMap wrVals
  | [], i, k, h => by simp at h
  | e :: r, 0, k, _ => by
    rw [List.flatMap_cons]
    simp [wrVals, setK]
  | e :: r, i + 1, k, h => by
    have ih := vals_set r i k (by simpa using h)
    rw [List.flatMap_cons, List.set_append_right _ _ (by simp [wrVals]; omega)]
    rw [show (i + 1) * 7 - (wrVals e).length = i * 7 by simp [wrVals]; omega, ih]
    simp

theorem RowEs.setKey {w : World} {base g cap : Nat} {es : List En} (h : RowEs w base g cap es) {i : Nat} (hi : i < es.length) (k : Int) : RowEs (w.setCell ⟨g, i * 7, none⟩ (.int .i64 k)) base g cap (es.set i (setK (es.getD i ez) k)) where
  le := h.le
  lt := by simpa [World.setCell] using h.lt
  own := by
    rw [List.length_set, ← vals_set es i k hi]
    exact (h.own.stored (i * 7) (.int .i64 k)).1
  deps := fun e he => by
    have : ∀ d : En, (base ≤ d.g ∧ d.g < w.heap.size ∧ d.g ≠ g ∧ HoldsDeps w d.g 0 d.x.xs) → base ≤ d.g ∧ d.g < (w.setCell ⟨g, i * 7, none⟩ (.int .i64 k)).heap.size ∧ d.g ≠ g ∧ HoldsDeps (w.setCell ⟨g, i * 7, none⟩ (.int .i64 k)) d.g 0 d.x.xs := fun d ⟨h1, h2, h3, h4⟩ =>
      ⟨h1, by simpa [World.setCell] using h2, h3, h4.set (Ne.symm h3) _⟩
    rcases List.mem_or_eq_of_mem_set he with h1 | h1
    · exact this e (h.deps e h1)
    · subst h1
      have hm : es.getD i ez ∈ es := by simp [List.getD, hi]
      exact this (es.getD i ez) (h.deps _ hm)

set_option maxRecDepth 100000 in
set_option maxHeartbeats 4000000 in
theorem amap_any (B : Nat) (a : Option Addr) (len cap : Nat) (N : Int) (ag : Option Addr) (n cg base : Nat) (es : List EnG) (w : World) (hN : N ≤ 1500) (h : Cur w B a len cap N) (hr : RowG w base (.slice ag n cg) es) (hBb : B < base) (hn : es.length = n) (hn10 : n ≤ 10) (hf : ∀ d ∈ es, d.x.xs.length ≤ 10) :
    Calls Try.prog 42 #[.pointer (some ⟨B, 0, none⟩), .slice ag n cg] w fun e w' => ∃ g cp es2 L, e = .returned (.slice (some ⟨g, 0, none⟩) L cp) ∧ es2.length = L ∧ L ≤ 11 ∧ (∀ d ∈ es2, d.x.xs.length ≤ 10) ∧ RowEs w' w.heap.size g cp es2 ∧ Cur w' B a len cap (N + 100) ∧ Hole B w w' := by
  have hB := h.lt
  have HC : Hid (Cur w B a len cap N) := h
  have HS : Hid (RowG w base (.slice ag n cg) es) := hr
  have HFS := Lib.hid hf
  have HN := Lib.hid hn
  clear h hr hf hn
  obtain ⟨i0, hi0, hx0⟩ := Option.map_eq_some_iff.1 infoWr
  simp only [Prod.mk.injEq] at hx0
  have HI0 := Lib.hid hi0
  have HX0 := Lib.hid hx0
  clear hi0 hx0
  have HB0 : Hid (Below w.heap.size w (w.alloc (.cells #[] 31))) := (Below.refl _ _).alloc (Nat.le_refl _) _
  have HR0 : Hid (RowEs (w.alloc (.cells #[] 31)) w.heap.size w.heap.size 0 []) := rowEs_start w _ (Nat.le_refl _)
  have HFX : Hid (Few (es.map (·.x))) := few_iff.2 fun y hy => by
    obtain ⟨d, hd, rfl⟩ := List.mem_map.1 hy
    have := HFS.out d hd
    omega
  go_enter Try.func42, Try.ntmps42
  go_wp2
  go_loopw [5, 6] (fun t i wr => ∃ (p L g cp : Nat) (es2 : List En), p ≤ n ∧ L ≤ p ∧ i = .int .i64 p ∧ t = .slice (some ⟨g, 0, none⟩) L cp ∧ Hid (es2.length = L) ∧ Hid (∀ d ∈ es2, d.x.xs.length ≤ 10) ∧ Hid (RowEs wr w.heap.size g cp es2) ∧ Hid (Cur wr B a len cap (N + p)) ∧ Hid (Hole B w wr)) (fun _ i _ => n - (intOf i).toNat)
  case atStart => exact ⟨0, 0, w.heap.size, 0, [], Nat.zero_le _, Nat.le_refl _, rfl, rfl, rfl, fun d hd => by simp at hd, HR0, Lib.hid (by simpa using HC.out.below HB0.out), Hole.of_below HB0.out⟩
  case round =>
    clear HR0 HB0 HC
    obtain ⟨p, L, g, cp, es2, hp, hL, rfl, rfl, HL, HF, HR, HC, HH⟩ := hrel
    by_cases hp' : p < n
    · have i4 : (0 : Int) ≤ (p : Int) := by omega
      have i5 : (p : Int) < (n : Int) := by omega
      go_wp2_with fail
      refine (pick_any B a len cap _ 2 _ (by omega) (by omega) (by omega) HC.out).mono ?_
      rintro e w5 ⟨r5, rfl, r50, r51, hc5, hh5⟩
      have HC5 : Hid (Cur w5 B a len cap (N + ((p + 1 : Nat) : Int))) := hc5.more (by push_cast; omega)
      have HH5 := Lib.hid (HH.out.trans hh5)
      have HR5 := Lib.hid (HR.out.hole hh5 hB)
      clear hc5 hh5 HC HR HH
      by_cases hr5 : r5 = 0
      · subst hr5
        obtain ⟨bb, oo, ad, cq, rfl, hz, ⟨e0, e1, e2, e3, e4, e5, e6⟩, hd⟩ := ((HS.out.hole HH5.out hBb).isWs HFX.out).at (Below.refl _ _) (n := n) (by rw [List.length_map, HN.out]) hp'
        have hxl : ((es.map (·.x)).getD p wz).xs.length ≤ 10 := by
          obtain ⟨d, hd, h1⟩ := List.mem_map.1 (getD_mem (ws := es.map (·.x)) (p := p) (by rw [List.length_map, HN.out]; exact hp'))
          rw [← h1]
          exact HFS.out d hd
        have HD := Lib.hid hd
        have HF2 : Hid (Few (es2.map (·.x))) := few_iff.2 fun y hy => by
          obtain ⟨d, hd, rfl⟩ := List.mem_map.1 hy
          have := HF.out d hd
          omega
        have HLL : Hid ((es2.map (·.x)).length = L) := by
          rw [List.length_map]
          exact HL
        have HW2 := Lib.hid ((HR5.out.holds (ws := es2.map (·.x)) rfl).isWs HF2.out)
        clear hd
        generalize (es.map (·.x)).getD p wz = x at *
        obtain ⟨xk, xc, xs', xq, xv, xd, xx⟩ := x
        simp only at e0 e1 e2 e3 e4 e5 e6 hxl HD
        go_wp2_with fail
        refine (put_gen _ L cp (es2.map (·.x)) ⟨xk, xc, xs', xq, xv, xd, xx⟩ ad cq _ HLL.out (by omega) HF2.out HW2.out (by show xx.length ≤ 1048576; omega) HD.out).mono ?_
        rintro e w6 ⟨g2, cp2, es3, L2, rfl, hl2, he2, hr2, hb2⟩
        have hL2 : L2 ≤ L + 1 := by
          have h1 := put_len (es2.map (·.x)) ⟨xk, xc, xs', xq, xv, xd, xx⟩
          rw [← he2, HLL.out, List.length_map, hl2] at h1
          exact h1
        have HL2 := Lib.hid hl2
        have HE2 : Hid (∀ d ∈ es3, d.x.xs.length ≤ 10) := fun y hy => by
          have h1 : y.x ∈ putW (es2.map (·.x)) ⟨xk, xc, xs', xq, xv, xd, xx⟩ := by
            rw [← he2]
            exact List.mem_map.2 ⟨y, hy, rfl⟩
          rcases put_mem _ _ _ h1 with h2 | h2
          · rw [h2]
            exact hxl
          · obtain ⟨d, hd, h3⟩ := List.mem_map.1 h2
            rw [← h3]
            exact HF.out d hd
        have HR6 := Lib.hid (hr2.mono (base' := w.heap.size) (by have := HH5.out.size; omega))
        have HC6 := Lib.hid (HC5.out.below hb2)
        have HH6 := Lib.hid (HH5.out.trans (Hole.of_below hb2))
        clear hl2 he2 hr2 hb2 HC5 HH5 HR5 HF HL
        go_wp2
        exact ⟨⟨p + 1, L2, g2, cp2, es3, by omega, by omega, by go_num, rfl, HL2, HE2, HR6, HC6, HH6⟩, by simp [intOf]; omega⟩
      · go_wp2
        exact ⟨⟨p + 1, L, g, cp, es2, by omega, by omega, by go_num, rfl, HL, HF, HR5, HC5, HH5⟩, by simp [intOf]; omega⟩
    · have hpp : p = n := by omega
      subst hpp
      clear HS HFX HFS
      go_wp2_with fail
      refine (once_any B a len cap _ 14 _ (by omega) (by omega) (by omega) HC.out).mono ?_
      rintro e w5 ⟨r5, rfl, hc5, hh5⟩
      have HC5 := Lib.hid hc5
      have HH5 := Lib.hid (HH.out.trans hh5)
      have HR5 := Lib.hid (HR.out.hole hh5 hB)
      clear hc5 hh5 HC HR HH
      cases r5
      · go_wp2
        go_ret
        exact ⟨g, cp, es2, L, rfl, HL.out, by omega, HF.out, HR5.out, HC5.out.more (by omega), HH5.out⟩
      · go_wp2_with fail
        refine (pick_any B a len cap _ 2 _ (by omega) (by omega) (by omega) HC5.out).mono ?_
        rintro e w6 ⟨r6, rfl, r60, r61, hc6, hh6⟩
        have HC6 := Lib.hid hc6
        have HH6 := Lib.hid (HH5.out.trans hh6)
        have HR6 := Lib.hid (HR5.out.hole hh6 hB)
        clear hc6 hh6 HC5 HR5 HH5
        by_cases hr6 : r6 = 0
        · subst hr6
          go_wp2_with fail
          refine (write_any B a len cap _ _ (by omega) HC6.out).mono ?_
          rintro e w7 ⟨k7, c7, s7, q7, v7, de7, g7, cp7, ds7, rfl, hl7, hg7, hg7', hd7, hc7, hh7⟩
          have HC7 := Lib.hid hc7
          have HH7 := Lib.hid (HH6.out.trans hh7)
          have HR7 := Lib.hid (HR6.out.hole hh7 hB)
          have HD7 := Lib.hid hd7
          have hgg : g7 ≠ g := by have := HR6.out.lt; omega
          have hgl : w.heap.size ≤ g7 := Nat.le_trans HH6.out.size hg7
          clear hc7 hh7 hd7 HC6 HR6 HH6
          have HBA : Hid (Below w7.heap.size w7 (w7.alloc (.cells #[.int .i64 k7, .int .i64 c7, .int .i64 s7, .int .i64 q7, .int .i64 v7, .bool de7, .slice (some ⟨g7, 0, none⟩) ds7.length cp7] 31))) := (Below.refl _ _).alloc (Nat.le_refl _) _
          have HW := Lib.hid (HR7.out.below HBA.out)
          have HOW : Hid ((w7.alloc (.cells #[.int .i64 k7, .int .i64 c7, .int .i64 s7, .int .i64 q7, .int .i64 v7, .bool de7, .slice (some ⟨g7, 0, none⟩) ds7.length cp7] 31)).ownsRow w.heap.size 31 7 (.slice (some ⟨g, 0, none⟩) L cp) L (es2.flatMap wrVals)) := by
            have := HW.out.own
            rw [HL.out] at this
            exact this
          have hsz : w.heap.size ≤ w7.heap.size := HH7.out.size
          have HCA := Lib.hid (HC7.out.below HBA.out)
          have HHA := Lib.hid (HH7.out.trans (Hole.of_below HBA.out))
          go_wp2_with (at_builtin; refine wpList_append_lies _ (by rfl) _ _ _ (by rfl) w.heap.size 31 i0 (wrV 0 0 0 0 0 false none 0 0) 7 72 Try.underlying36 HI0.out HX0.out.1 HX0.out.2.1 HX0.out.2.2 (by rfl) (by omega) (.slice (some ⟨g, 0, none⟩) L cp) L (es2.flatMap wrVals) (by rfl) HOW.out ⟨w7.heap.size, 0, none⟩ 1 1 (wrVals ⟨⟨k7, c7, s7, q7, v7, de7, ds7⟩, g7, cp7⟩) (by rfl) (by rfl) (one_cells w7 _ ⟨⟨k7, c7, s7, q7, v7, de7, ds7⟩, g7, cp7⟩) (by simpa using vals_one [⟨⟨k7, c7, s7, q7, v7, de7, ds7⟩, g7, cp7⟩]) (by omega) (by unfold maxLen; omega) (by omega) (by simp; omega) _ rfl ?_; intro g3 cp3 W5 hown hgrow hg3 _; refine Hid.out ?_)
          refine Lib.hid ?_
          have HR8 : Hid (RowEs W5 w.heap.size g3 cp3 (es2 ++ [⟨⟨k7, c7, s7, q7, v7, de7, ds7⟩, g7, cp7⟩])) := by
            refine HW.out.more ⟨hgl, by simp; omega, hgg, HD7.out.below HBA.out hg7'⟩ (by rw [HL.out]; exact hown) hgrow hg3
          have hgw : w.heap.size ≤ g := HR7.out.le
          have HC8 : Hid (Cur W5 B a len cap (N + 100)) := (HCA.out.stay hgrow.size fun b hb => hgrow.block b (Nat.lt_of_le_of_lt hb HCA.out.lt) (by simp [Value.ownBlock]; omega)).more (by omega)
          have HH8 : Hid (Hole B w W5) := ⟨hgrow.os.trans HHA.out.os, hgrow.tape.trans HHA.out.tape, hgrow.output.trans HHA.out.output, Nat.le_trans HHA.out.size hgrow.size, fun b hb hne => (hgrow.block b (Nat.lt_of_lt_of_le hb HHA.out.size) (by simp [Value.ownBlock]; omega)).trans (HHA.out.block b hb hne)⟩
          have HF8 : Hid (∀ d ∈ es2 ++ [(⟨⟨k7, c7, s7, q7, v7, de7, ds7⟩, g7, cp7⟩ : En)], d.x.xs.length ≤ 10) := fun d hd => by
            rcases List.mem_append.1 hd with hd | hd
            · exact HF.out d hd
            · have hd : d = ⟨⟨k7, c7, s7, q7, v7, de7, ds7⟩, g7, cp7⟩ := by simpa using hd
              subst hd
              show ds7.length ≤ 10
              omega
          clear hown hgrow HW HOW HCA HHA HBA
          go_wp2
          go_ret
          exact ⟨g3, cp3, _, L + 1, rfl, by rw [List.length_append, HL.out]; rfl, by omega, HF8.out, HR8.out, HC8.out, HH8.out⟩
        · by_cases hL0 : L = 0
          · subst hL0
            go_wp2
            go_ret
            exact ⟨g, cp, es2, 0, rfl, HL.out, by omega, HF.out, HR6.out, HC6.out.more (by omega), HH6.out⟩
          · have i6 : (0 : Int) < (L : Int) := by omega
            go_wp2_with fail
            refine (pick_len B a len cap _ L _ (by omega) (by omega) (by omega) HC6.out).mono ?_
            rintro e w7 ⟨r7, rfl, hr7, hc7, hh7⟩
            have HC7 := Lib.hid hc7
            have HH7 := Lib.hid (HH6.out.trans hh7)
            have HR7 := Lib.hid (HR6.out.hole hh7 hB)
            clear hc7 hh7 HC6 HR6 HH6
            go_wp2_with fail
            refine (raw_any B a len cap _ _ (by omega) HC7.out).mono ?_
            rintro e w8 ⟨r8, rfl, hc8, hh8⟩
            have HC8 := Lib.hid hc8
            have HH8 := Lib.hid (HH7.out.trans hh8)
            have HR8 := Lib.hid (HR7.out.hole hh8 hB)
            have hrl : r7 < es2.length := by rw [HL.out]; exact hr7
            have hgw : w.heap.size ≤ g := HR8.out.le
            have c0 : w8.cell? ⟨g, r7 * 7, none⟩ = some (.int .i64 (es2.getD r7 ez).x.k) := (seen_at HR8.out hrl).1
            have fz : ∀ o, w8.frozen? ⟨g, o, none⟩ = false := fun o => HR8.out.own.frozenAt o
            have i7 : (0 : Int) ≤ (r7 : Int) := by omega
            have i8 : (r7 : Int) < (L : Int) := by omega
            have HR9 := Lib.hid (HR8.out.setKey hrl r8)
            have HC9 : Hid (Cur (w8.setCell ⟨g, r7 * 7, none⟩ (.int .i64 r8)) B a len cap (N + 100)) := (HC8.out.setOther (by omega) _ _).more (by omega)
            have HH9 := Lib.hid (HH8.out.setNew hgw (r7 * 7) (.int .i64 r8))
            have HF9 : Hid (∀ d ∈ es2.set r7 (setK (es2.getD r7 ez) r8), d.x.xs.length ≤ 10) := fun d hd => by
              rcases List.mem_or_eq_of_mem_set hd with h1 | h1
              · exact HF.out d h1
              · subst h1
                have hm : es2.getD r7 ez ∈ es2 := by simp [List.getD, hrl]
                have h2 := HF.out (es2.getD r7 ez) hm
                exact h2
            clear hc8 hh8 HC7 HR7 HH7 HC8 HR8 HH8
            go_wp2
            go_ret
            exact ⟨g, cp, _, L, rfl, by rw [List.length_set]; exact HL.out, by omega, HF9.out, HR9.out, HC9.out, HH9.out⟩

end Go.Proofs.Ytidpcjcnhklmpab

/- The contracts of the draws of maps. -/
namespace Go.Proofs.Ytidpcjcnhklmpab
open Go.ChangeShapes Go.WideShapes Go.ChangeAt Go.RowKit Go.Joins
attribute [local go_sem ↓] Go.wp_at_zero Go.wp_at_succ

/-- A drawn map: a row of writes of one's own, a few, each with a few dependencies. -/
def DrawnM (w : World) (base : Nat) (v : Value) (es : List En) : Prop := ∃ g cp, v = .slice (some ⟨g, 0, none⟩) es.length cp ∧ es.length ≤ 40 ∧ (∀ d ∈ es, d.x.xs.length ≤ 10) ∧ RowEs w base g cp es

theorem joinW_len : ∀ (b a : List Wr), (joinW a b).length ≤ a.length + b.length
  | [], a => by simp [joinW]
  | x :: r, a => by
    have h1 := joinW_len r (putW a x)
    have h2 := put_len a x
    show (joinW (putW a x) r).length ≤ _
    simp only [List.length_cons]
    omega

theorem joinW_mem : ∀ (b a : List Wr) (z : Wr), z ∈ joinW a b → z ∈ a ∨ z ∈ b
  | [], a, z, h => .inl h
  | x :: r, a, z, h => by
    rcases joinW_mem r (putW a x) z h with h1 | h1
    · rcases put_mem a x z h1 with h2 | h2
      · exact .inr (by simp [h2])
      · exact .inl h2
    · exact .inr (by simp [h1])

theorem few_of {es : List En} (h : ∀ d ∈ es, d.x.xs.length ≤ 10) : Few (es.map (·.x)) := few_iff.2 fun y hy => by
  obtain ⟨d, hd, rfl⟩ := List.mem_map.1 hy
  have := h d hd
  omega

set_option maxHeartbeats 4000000 in
theorem drawJoin_any (a : Option Addr) (len cap : Nat) (w : World) (h : Bytes w a len) (hl : len ≤ 1048576) :
    Calls Try.prog 14 #[.slice a len cap] w fun e w' => ∃ v1 v2 es1 es2, e = .returned (.tuple #[v1, v2]) ∧ DrawnM w' w.heap.size v1 es1 ∧ DrawnM w' w.heap.size v2 es2 ∧ Below w.heap.size w w' := by
  have HO := Lib.hid (open_any a len cap w h hl)
  clear h
  go_enter Try.func14, Try.ntmps14
  go_wp2_with fail
  refine HO.out.mono ?_
  rintro e w1 ⟨rfl, hc1, hb1⟩
  have HC1 := Lib.hid hc1
  have HB1 := Lib.hid hb1
  have hlt1 := hc1.lt
  clear hc1 hb1 HO
  go_wp2_with fail
  refine (story_any w.heap.size a len cap 0 _ (by omega) HC1.out).mono ?_
  rintro e w2 ⟨v, es, rfl, hl1, hl2, hf, hr, hc2, hh2⟩
  obtain ⟨ag, cg, hv, -⟩ := hr.form
  subst hv
  have HF := Lib.hid hf
  have HR2 := Lib.hid hr
  have HC2 := Lib.hid hc2
  have HH2 := Lib.hid hh2
  clear hf hr hc2 hh2 HC1
  go_wp2_with fail
  refine (amap_any w.heap.size a len cap _ ag es.length cg w1.heap.size es _ (by omega) HC2.out HR2.out hlt1 rfl hl1 HF.out).mono ?_
  rintro e w3 ⟨g3, cp3, es3, L3, rfl, rfl, hL3, hf3, hr3, hc3, hh3⟩
  have HF3 := Lib.hid hf3
  have HR3 := Lib.hid hr3
  have HC3 := Lib.hid hc3
  have HH3 := Lib.hid hh3
  have hs2 : w1.heap.size ≤ w2.heap.size := HH2.out.size
  have HRS := Lib.hid (HR2.out.hole hh3 hlt1)
  clear hf3 hr3 hc3 hh3 HC2 HR2
  go_wp2_with fail
  refine (amap_any w.heap.size a len cap _ ag es.length cg w1.heap.size es _ (by omega) HC3.out HRS.out hlt1 rfl hl1 HF.out).mono ?_
  rintro e w4 ⟨g4, cp4, es4, L4, rfl, rfl, hL4, hf4, hr4, hc4, hh4⟩
  have hs3 : w2.heap.size ≤ w3.heap.size := HH3.out.size
  have HR5 := Lib.hid ((HR3.out.hole hh4 (by omega)).mono (base' := w.heap.size) (by omega))
  have HR4 := Lib.hid (hr4.mono (base' := w.heap.size) (by omega))
  have HF4 := Lib.hid hf4
  have HB4 : Hid (Below w.heap.size w w4) := Hole.below HB1.out ((HH2.out.trans HH3.out).trans hh4) (Nat.le_refl _) HB1.out.size
  clear hr4 hc4 hh4 hf4 HR3 HC3
  go_wp2
  exact bodyPost_ret (v := .tuple #[.slice (some ⟨g3, 0, none⟩) es3.length cp3, .slice (some ⟨g4, 0, none⟩) es4.length cp4]) (by simp [results, Try.results14, go_sem]) rfl ⟨_, _, es3, es4, rfl, ⟨g3, cp3, rfl, by omega, HF3.out, HR5.out⟩, ⟨g4, cp4, rfl, by omega, HF4.out, HR4.out⟩, HB4.out⟩

set_option maxHeartbeats 4000000 in
theorem drawWithin_any (a : Option Addr) (len cap : Nat) (w : World) (h : Bytes w a len) (hl : len ≤ 1048576) :
    Calls Try.prog 27 #[.slice a len cap] w fun e w' => ∃ v1 v2 es1 es2, e = .returned (.tuple #[v1, v2]) ∧ DrawnM w' w.heap.size v1 es1 ∧ DrawnM w' w.heap.size v2 es2 ∧ Below w.heap.size w w' := by
  have HO := Lib.hid (open_any a len cap w h hl)
  clear h
  go_enter Try.func27, Try.ntmps27
  go_wp2_with fail
  refine HO.out.mono ?_
  rintro e w1 ⟨rfl, hc1, hb1⟩
  have HC1 := Lib.hid hc1
  have HB1 := Lib.hid hb1
  have hlt1 := hc1.lt
  clear hc1 hb1 HO
  go_wp2_with fail
  refine (story_any w.heap.size a len cap 0 _ (by omega) HC1.out).mono ?_
  rintro e w2 ⟨v, es, rfl, hl1, hl2, hf, hr, hc2, hh2⟩
  obtain ⟨ag, cg, hv, -⟩ := hr.form
  subst hv
  have HF := Lib.hid hf
  have HR2 := Lib.hid hr
  have HC2 := Lib.hid hc2
  have HH2 := Lib.hid hh2
  clear hf hr hc2 hh2 HC1
  go_wp2_with fail
  refine (amap_any w.heap.size a len cap _ ag es.length cg w1.heap.size es _ (by omega) HC2.out HR2.out hlt1 rfl hl1 HF.out).mono ?_
  rintro e w3 ⟨g3, cp3, es3, L3, rfl, rfl, hL3, hf3, hr3, hc3, hh3⟩
  have HF3 := Lib.hid hf3
  have HR3 := Lib.hid hr3
  have HC3 := Lib.hid hc3
  have HH3 := Lib.hid hh3
  have hs2 : w1.heap.size ≤ w2.heap.size := HH2.out.size
  have HRS := Lib.hid (HR2.out.hole hh3 hlt1)
  clear hf3 hr3 hc3 hh3 HC2 HR2
  go_wp2_with fail
  refine (pick_any w.heap.size a len cap _ 2 _ (by omega) (by omega) (by omega) HC3.out).mono ?_
  rintro e w5 ⟨r5, rfl, r50, r51, hc5, hh5⟩
  have HC5 := Lib.hid hc5
  have HH5 := Lib.hid (HH3.out.trans hh5)
  have HR3' := Lib.hid (HR3.out.hole hh5 (by omega))
  have HRS' := Lib.hid (HRS.out.hole hh5 hlt1)
  have hs5 : w3.heap.size ≤ w5.heap.size := hh5.size
  have hs3 : w2.heap.size ≤ w3.heap.size := HH3.out.size
  clear hc5 hh5 HC3 HR3 HRS HH3
  by_cases hr5 : r5 = 0
  · subst hr5
    go_wp2_with fail
    refine (amap_any w.heap.size a len cap _ ag es.length cg w1.heap.size es _ (by omega) HC5.out HRS'.out hlt1 rfl hl1 HF.out).mono ?_
    rintro e w4 ⟨g4, cp4, es4, L4, rfl, rfl, hL4, hf4, hr4, hc4, hh4⟩
    have HR5 := Lib.hid ((HR3'.out.hole hh4 (by omega)).mono (base' := w.heap.size) (by omega))
    have HR4 := Lib.hid (hr4.mono (base' := w.heap.size) (by omega))
    have HF4 := Lib.hid hf4
    have HB4 : Hid (Below w.heap.size w w4) := Hole.below HB1.out ((HH2.out.trans HH5.out).trans hh4) (Nat.le_refl _) HB1.out.size
    have HX3 : Hid (Few (es3.map (·.x))) := few_of HF3.out
    have HX4 : Hid (Few (es4.map (·.x))) := few_of HF4.out
    clear hr4 hc4 hh4 hf4 HR3' HC5
    go_wp2_with fail
    refine (l02Join_gen _ _ es3.length es4.length cp3 cp4 (es3.map (·.x)) (es4.map (·.x)) _ (by simp) (by simp) (by omega) HX3.out HX4.out ((HR5.out.holds rfl).isWs HX3.out) ((HR4.out.holds rfl).isWs HX4.out)).mono ?_
    rintro e w6 ⟨g6, cp6, es6, L6, rfl, rfl, hm6, hr6, hb6⟩
    have hl6 : es6.length ≤ 40 := by
      have h1 := congrArg List.length hm6
      have h2 := joinW_len (es4.map (·.x)) (es3.map (·.x))
      simp only [List.length_map] at h1 h2
      omega
    have hf6 : ∀ d ∈ es6, d.x.xs.length ≤ 10 := fun d hd => by
      have h1 : d.x ∈ joinW (es3.map (·.x)) (es4.map (·.x)) := by
        rw [← hm6]
        exact List.mem_map.2 ⟨d, hd, rfl⟩
      rcases joinW_mem _ _ _ h1 with h2 | h2
      · obtain ⟨y, hy, e⟩ := List.mem_map.1 h2
        rw [← e]
        exact HF3.out y hy
      · obtain ⟨y, hy, e⟩ := List.mem_map.1 h2
        rw [← e]
        exact HF4.out y hy
    have HR7 := Lib.hid (HR5.out.below hb6)
    have HR6 := Lib.hid (hr6.mono (base' := w.heap.size) HB4.out.size)
    have HB6 := Lib.hid (below_step HB4.out HB4.out.size hb6)
    have HF6 := Lib.hid hf6
    clear hm6 hr6 hb6 hf6 HR4 HR5 HB4
    go_wp2
    exact bodyPost_ret (v := .tuple #[.slice (some ⟨g3, 0, none⟩) es3.length cp3, .slice (some ⟨g6, 0, none⟩) es6.length cp6]) (by simp [results, Try.results27, go_sem]) rfl ⟨_, _, es3, es6, rfl, ⟨g3, cp3, rfl, by omega, HF3.out, HR7.out⟩, ⟨g6, cp6, rfl, hl6, HF6.out, HR6.out⟩, HB6.out⟩
  · go_wp2_with fail
    refine (amap_any w.heap.size a len cap _ ag es.length cg w1.heap.size es _ (by omega) HC5.out HRS'.out hlt1 rfl hl1 HF.out).mono ?_
    rintro e w4 ⟨g4, cp4, es4, L4, rfl, rfl, hL4, hf4, hr4, hc4, hh4⟩
    have HR5 := Lib.hid ((HR3'.out.hole hh4 (by omega)).mono (base' := w.heap.size) (by omega))
    have HR4 := Lib.hid (hr4.mono (base' := w.heap.size) (by omega))
    have HF4 := Lib.hid hf4
    have HB4 : Hid (Below w.heap.size w w4) := Hole.below HB1.out ((HH2.out.trans HH5.out).trans hh4) (Nat.le_refl _) HB1.out.size
    clear hr4 hc4 hh4 hf4 HR3' HC5
    go_wp2
    exact bodyPost_ret (v := .tuple #[.slice (some ⟨g3, 0, none⟩) es3.length cp3, .slice (some ⟨g4, 0, none⟩) es4.length cp4]) (by simp [results, Try.results27, go_sem]) rfl ⟨_, _, es3, es4, rfl, ⟨g3, cp3, rfl, by omega, HF3.out, HR5.out⟩, ⟨g4, cp4, rfl, by omega, HF4.out, HR4.out⟩, HB4.out⟩

end Go.Proofs.Ytidpcjcnhklmpab

/- Lists of writes that a call answers, or that are handed to one: marks on them, and what marks leave alone. -/
namespace Go.Proofs.Ytidpcjcnhklmpab
open Go.ChangeShapes Go.WideShapes Go.ChangeAt Go.RowKit Go.Joins
attribute [local go_sem ↓] Go.wp_at_zero Go.wp_at_succ

/-- What was written lies in these blocks. -/
abbrev Span (lo hi : Nat) (x : Nat) : Prop := lo ≤ x ∧ x < hi

/-- A list of writes of one's own, between two block numbers; it may be nil where it is empty. -/
def OwnA (w : World) (lo hi : Nat) (a : Option Addr) (ws : List Wr) (γ : Nat → Nat) : Prop :=
  ws = [] ∨ ∃ b, a = some ⟨b, 0, none⟩ ∧ OwnG w lo b ws γ ∧ b < hi ∧ ∀ i, i < ws.length → 0 < (ws.getD i wz).xs.length → γ i < hi

theorem OwnG.ownA {w : World} {lo b : Nat} {ws : List Wr} {γ : Nat → Nat} (h : OwnG w lo b ws γ) : OwnA w lo w.heap.size (some ⟨b, 0, none⟩) ws γ :=
  .inr ⟨b, rfl, h, h.lt, fun i hi hp => (h.deps i hi hp).2.1⟩

theorem RowG.ownA {w : World} {base : Nat} {v : Value} {es : List EnG} (h : RowG w base v es) {ws : List Wr} (hw : es.map (·.x) = ws) : ∃ a cap n, v = .slice a n cap ∧ ws.length = n ∧ OwnA w base w.heap.size a ws (gammaG es) := by
  obtain ⟨a, cap, h1, h2⟩ := h.form
  subst hw
  refine ⟨a, cap, es.length, h1, by simp, ?_⟩
  rcases h2 with h2 | ⟨b, rfl, h2⟩
  · exact .inl (by simp [h2])
  · exact h2.ownA

theorem OwnA.below {w w' : World} {lo hi : Nat} {a : Option Addr} {ws : List Wr} {γ : Nat → Nat} (h : OwnA w lo hi a ws γ) (hb : Below w.heap.size w w') : OwnA w' lo hi a ws γ := by
  rcases h with h | ⟨b, h1, h2, h3⟩
  · exact .inl h
  · exact .inr ⟨b, h1, h2.below hb, h3⟩

theorem OwnG.only {w w' : World} {S : Nat → Prop} {base b : Nat} {ws : List Wr} {γ : Nat → Nat} (h : OwnG w base b ws γ) (ho : Only S w w') (hS : ∀ x, S x → x < base) : OwnG w' base b ws γ where
  lt := by rw [ho.size]; exact h.lt
  le := h.le
  open_ := fun o => (ho.frozen _).trans (h.open_ o)
  at_ := fun i hi => by
    obtain ⟨a, cap, h1, h2⟩ := h.at_ i hi
    exact ⟨a, cap, h1.of_block (ho.block b fun e => by have := hS b e; have := h.le; omega), h2⟩
  deps := fun i hi hp => by
    obtain ⟨h1, h2, h3, h4, h5⟩ := h.deps i hi hp
    have hb : w'.heap[γ i]? = w.heap[γ i]? := ho.block _ fun e => by have := hS _ e; omega
    have e' : ∀ o, w'.cell? ⟨γ i, o, none⟩ = w.cell? ⟨γ i, o, none⟩ := fun o => World.cell?_of_block (a := ⟨γ i, o, none⟩) hb
    exact ⟨h1, by rw [ho.size]; exact h2, h3, fun j hj => ⟨(e' _).trans (h4 j hj).1, (e' _).trans (h4 j hj).2.1, (e' _).trans (h4 j hj).2.2.1, (e' _).trans (h4 j hj).2.2.2⟩, fun o => (ho.frozen _).trans (h5 o)⟩
  inj := h.inj

theorem OwnA.only {w w' : World} {S : Nat → Prop} {lo hi : Nat} {a : Option Addr} {ws : List Wr} {γ : Nat → Nat} (h : OwnA w lo hi a ws γ) (ho : Only S w w') (hS : ∀ x, S x → x < lo) : OwnA w' lo hi a ws γ := by
  rcases h with h | ⟨b, h1, h2, h3⟩
  · exact .inl h
  · exact .inr ⟨b, h1, h2.only ho hS, h3⟩

theorem OwnA.isWs {w : World} {lo hi : Nat} {a : Option Addr} {ws : List Wr} {γ : Nat → Nat} (h : OwnA w lo hi a ws γ) (hx : Few ws) : IsWs w a ws := by
  rcases h with h | ⟨b, h1, h2, _⟩
  · exact .inl h
  · rw [h1]
    exact h2.isWs hx

/-- A list that is marked. -/
def MarkedA (w : World) (a : Option Addr) (ws : List Wr) (γ : Nat → Nat) (k : Int) : Prop :=
  ws = [] ∨ ∃ b, a = some ⟨b, 0, none⟩ ∧ MarkedWs w b ws γ k ∧ b < w.heap.size ∧ ∀ i, i < ws.length → 0 < (ws.getD i wz).xs.length → γ i < w.heap.size

theorem MarkedA.below {w w' : World} {a : Option Addr} {ws : List Wr} {γ : Nat → Nat} {k : Int} (h : MarkedA w a ws γ k) (hb : Below w.heap.size w w') : MarkedA w' a ws γ k := by
  rcases h with h | ⟨b, h1, h2, h3, h4⟩
  · exact .inl h
  · exact .inr ⟨b, h1, h2.below hb h3 h4, Nat.lt_of_lt_of_le h3 hb.size, fun i hi hp => Nat.lt_of_lt_of_le (h4 i hi hp) hb.size⟩

/-- The keys of dependencies that are right rise from 0 on: there are at most six. -/
theorem depsOk_len {xs : List Dp} (h : depsOkB xs = true) : xs.length ≤ 6 := by
  unfold depsOkB at h
  rw [List.all_eq_true] at h
  have hg : ∀ i, i < xs.length → (i : Int) ≤ (xs.getD i dz).k ∧ (xs.getD i dz).k ≤ 5 := by
    intro i
    induction i with
    | zero =>
      intro hi
      have := h 0 (List.mem_range.2 hi)
      unfold depGood btw at this
      simp only [Bool.and_eq_true, decide_eq_true_eq] at this
      exact ⟨by have := this.1.1; omega, this.1.2⟩
    | succ i ih =>
      intro hi
      have h1 := ih (by omega)
      have := h (i + 1) (List.mem_range.2 hi)
      unfold depGood btw at this
      simp only [Bool.and_eq_true, decide_eq_true_eq] at this
      rcases this.2.2 with h2 | h2
      · omega
      · rw [show i + 1 - 1 = i from rfl] at h2
        exact ⟨by omega, this.1.2⟩
  by_cases h7 : xs.length ≤ 6
  · exact h7
  · have := hg 6 (by omega)
    omega

theorem okW_len {x : Wr} (h : okW x = true) : x.xs.length ≤ 6 := by
  unfold okW writeOkB at h
  simp only [Bool.and_eq_true] at h
  exact depsOk_len h.2.2.2.1

theorem bulk_le {ws : List Wr} {m : Nat} (h : ∀ x ∈ ws, x.xs.length ≤ m) : bulk ws ≤ ws.length * m := by
  induction ws with
  | nil => simp [bulk]
  | cons x r ih =>
    have h1 := h x (by simp)
    have h2 := ih fun y hy => h y (by simp [hy])
    simp only [bulk, List.length_cons]
    rw [Nat.add_mul]
    omega

end Go.Proofs.Ytidpcjcnhklmpab

/- Contracts of impl.MapJoin and impl.MapPut. -/
namespace Go.Proofs.Ytidpcjcnhklmpab
open Go.ChangeShapes Go.WideShapes Go.ChangeAt Go.RowKit Go.Joins
attribute [local go_sem ↓] Go.wp_at_zero Go.wp_at_succ

def joinB (us vs : List Wr) : List Wr := if mapOkB us = true ∧ mapOkB vs = true then joinW us vs else []

set_option maxRecDepth 100000 in
theorem joinB_not {us vs : List Wr} (h : mapOkB us = false ∨ mapOkB vs = false) : joinB us vs = [] := by
  unfold joinB
  refine if_neg fun h' => ?_
  rcases h with h | h
  · rw [h'.1] at h; cases h
  · rw [h'.2] at h; cases h

set_option maxRecDepth 100000 in
theorem mapOk_keys {ws : List Wr} (h : mapOkB ws = true) : ∀ x ∈ ws, 0 ≤ x.k ∧ x.k ≤ 5 := fun x hx => okW_key (((mapOk_iff ws).1 h).1 x hx)

set_option maxRecDepth 100000 in
theorem mapOk_keys' {ws : List Wr} (h : mapOkB ws = true) : ∀ i, i < ws.length → 0 ≤ (ws.getD i wz).k ∧ (ws.getD i wz).k ≤ 5 := fun i hi => mapOk_keys h _ (by simp [List.getD, hi])

set_option maxRecDepth 100000 in
theorem joinB_told {us vs : List Wr} (ha : mapOkB us = true) (hb : mapOkB vs = true) : toldM (vs.foldl regPut (us.foldl regPut (fun _ => none))) = joinB us vs := by
  unfold joinB
  rw [if_pos ⟨ha, hb⟩]
  exact told_join ((mapOk_iff us).1 ha).2 (mapOk_keys ha) (mapOk_keys hb)

set_option maxRecDepth 100000 in
theorem implMapOk_is (r : Bool) (a : Option Addr) (n cap : Nat) (ws : List Wr) (h : mapOkB ws = r) (w : World) (hn : ws.length = n) (hm : n ≤ 1048576) (hx : Few ws) (hh : IsWs w a ws) :
    Calls Try.prog 19 #[.slice a n cap] w fun e w' => e = .returned (.bool r) ∧ Below w.heap.size w w' := by
  subst h
  exact implMapOk_any a n cap ws w hn hm hx hh

set_option maxRecDepth 100000 in
set_option maxHeartbeats 4000000 in
theorem implMapJoin_any (a b : Option Addr) (n m cap cap' : Nat) (us vs : List Wr) (w : World) (hn : us.length = n) (hm : vs.length = m) (hn1 : n ≤ 1048576) (hm1 : m ≤ 1048576) (hx : Few us) (hy : Few vs) (hi : IsWs w a us) (hj : IsWs w b vs) :
    Calls Try.prog 15 #[.slice a n cap, .slice b m cap'] w fun e w' => ∃ v es, e = .returned v ∧ es.map (·.x) = joinB us vs ∧ RowG w' w.heap.size v es ∧ Below w.heap.size w w' := by
  have HI : Hid (IsWs w a us) := hi
  have HJ : Hid (IsWs w b vs) := hj
  have HN : Hid (us.length = n) := hn
  have HM : Hid (vs.length = m) := hm
  have HX : Hid (Few us) := hx
  have HY : Hid (Few vs) := hy
  clear hi hj hn hm hx hy
  cases ha : mapOkB us
  · have HE : Hid (joinB us vs = []) := joinB_not (.inl ha)
    go_enter Try.func15, Try.ntmps15
    go_wp2_with fail
    refine (implMapOk_is false a n cap us ha _ HN.out hn1 HX.out HI.out).mono ?_
    rintro e w1 ⟨rfl, hb⟩
    have HB1 := Lib.hid hb
    clear hb
    go_wp2
    go_ret
    exact ⟨_, [], rfl, HE.out.symm, rowG_nil _ _, HB1.out⟩
  cases hb : mapOkB vs
  · have HE : Hid (joinB us vs = []) := joinB_not (.inr hb)
    go_enter Try.func15, Try.ntmps15
    go_wp2_with fail
    refine (implMapOk_is true a n cap us ha _ HN.out hn1 HX.out HI.out).mono ?_
    rintro e w1 ⟨rfl, hb1⟩
    have HB1 := Lib.hid hb1
    clear hb1
    go_wp2_with fail
    refine (implMapOk_is false b m cap' vs hb _ HM.out hm1 HY.out (HJ.out.below HB1.out)).mono ?_
    rintro e w2 ⟨rfl, hb2⟩
    have HB2 : Hid (Below w.heap.size w w2) := below_step HB1.out HB1.out.size hb2
    clear hb2
    go_wp2
    go_ret
    exact ⟨_, [], rfl, HE.out.symm, rowG_nil _ _, HB2.out⟩
  have HE : Hid (toldM (vs.foldl regPut (us.foldl regPut (fun _ => none))) = joinB us vs) := joinB_told ha hb
  have HKA : Hid (∀ i, i < us.length → 0 ≤ (us.getD i wz).k ∧ (us.getD i wz).k ≤ 5) := mapOk_keys' ha
  have HKB : Hid (∀ i, i < vs.length → 0 ≤ (vs.getD i wz).k ∧ (vs.getD i wz).k ≤ 5) := mapOk_keys' hb
  have hmm := @run_makeMap Try.prog
  go_enter Try.func15, Try.ntmps15
  go_wp2_with fail
  refine (implMapOk_is true a n cap us ha _ HN.out hn1 HX.out HI.out).mono ?_
  rintro e w1 ⟨rfl, hb1⟩
  have HB1 := Lib.hid hb1
  clear hb1
  go_wp2_with fail
  refine (implMapOk_is true b m cap' vs hb _ HM.out hm1 HY.out (HJ.out.below HB1.out)).mono ?_
  rintro e w2 ⟨rfl, hb2⟩
  have HB2 : Hid (Below w.heap.size w w2) := below_step HB1.out HB1.out.size hb2
  clear hb2 HB1
  go_wp2_with fail
  clear hmm
  have HB3 : Hid (Below w.heap.size w (w2.alloc (.map #[] 0))) := HB2.out.alloc HB2.out.size _
  refine (putAll_any w w2.heap.size 0 (fun _ => none) a n cap us _ HN.out hn1 (by omega) HX.out HKA.out HI.out HB3.out HB2.out.size ⟨_, regs_made w2, fun k => ⟨fun _ => rfl, fun x h => by cases h⟩⟩).mono ?_
  rintro e w4 ⟨rfl, hr4, hb4⟩
  have HR4 := Lib.hid hr4
  have HB4 := Lib.hid hb4
  clear hr4 hb4
  go_wp2_with fail
  refine (putAll_any w w2.heap.size (0 + n) _ b m cap' vs _ HM.out hm1 (by omega) HY.out HKB.out HJ.out HB4.out HB2.out.size HR4.out).mono ?_
  rintro e w5 ⟨rfl, hr5, hb5⟩
  have HR5 := Lib.hid hr5
  have HB5 := Lib.hid hb5
  clear hr5 hb5
  go_wp2_with fail
  refine (told_any w w2.heap.size _ _ _ HB5.out HR5.out).mono ?_
  rintro e w6 ⟨v, es, rfl, hes, hrow, hb6⟩
  have HES : Hid (es.map (·.x) = joinB us vs) := hes.trans HE.out
  have HRW := Lib.hid (hrow.mono HB5.out.size)
  have HB6 : Hid (Below w.heap.size w w6) := below_step HB5.out HB5.out.size hb6
  clear hes hrow hb6
  go_wp2
  go_ret
  exact ⟨v, es, rfl, HES.out, HRW.out, HB6.out⟩

set_option maxRecDepth 100000 in
theorem mapOk_one (x : Wr) : mapOkB [x] = okW x := by
  simp [mapOkB, wrGood, List.range, List.range.loop]

set_option maxRecDepth 100000 in
theorem joinB_one (ws : List Wr) (x : Wr) : joinB ws [x] = if mapOkB ws = true ∧ okW x = true then putW ws x else [] := by
  unfold joinB
  rw [mapOk_one]
  rfl

set_option maxRecDepth 100000 in
set_option maxHeartbeats 2000000 in
theorem implMapPut_any (a ad : Option Addr) (n cap cp : Nat) (ws : List Wr) (x : Wr) (w : World) (hn : ws.length = n) (hn1 : n ≤ 1048576) (hx : Few ws) (hxl : x.xs.length ≤ 1048576) (hi : IsWs w a ws) (hd : IsDeps w ad x.xs) :
    Calls Try.prog 22 #[.slice a n cap, wrOf x ad cp] w fun e w' => ∃ v es, e = .returned v ∧ es.map (·.x) = joinB ws [x] ∧ RowG w' w.heap.size v es ∧ Below w.heap.size w w' := by
  obtain ⟨xk, xc, xs', xq, xv, xd, xx⟩ := x
  simp only at hxl hd
  have HB : Hid (Below w.heap.size w ((w.alloc (.cells #[.int .i64 xk, .int .i64 xc, .int .i64 xs', .int .i64 xq, .int .i64 xv, .bool xd, .slice ad xx.length cp] 31)).alloc (.cells #[.int .i64 xk, .int .i64 xc, .int .i64 xs', .int .i64 xq, .int .i64 xv, .bool xd, .slice ad xx.length cp] 31))) :=
    ((Below.refl _ _).alloc (Nat.le_refl _) _).alloc (by simp) _
  have HI := Lib.hid (hi.below HB.out)
  have HD := Lib.hid (hd.below HB.out)
  have HN : Hid (ws.length = n) := hn
  have HX : Hid (Few ws) := hx
  have HJ : Hid (IsWs ((w.alloc (.cells #[.int .i64 xk, .int .i64 xc, .int .i64 xs', .int .i64 xq, .int .i64 xv, .bool xd, .slice ad xx.length cp] 31)).alloc (.cells #[.int .i64 xk, .int .i64 xc, .int .i64 xs', .int .i64 xq, .int .i64 xv, .bool xd, .slice ad xx.length cp] 31)) (some ⟨w.heap.size + 1, 0, none⟩) [⟨xk, xc, xs', xq, xv, xd, xx⟩]) := by
    refine .inr ⟨w.heap.size + 1, 0, rfl, by simp, fun i hi => ?_⟩
    have h0 : i = 0 := by simpa using hi
    subst h0
    refine ⟨ad, cp, ?_, by have : xx.length ≤ maxLen := by unfold maxLen; omega
                           exact this, HD.out⟩
    have hc : ∀ j v, (#[Value.int .i64 xk, .int .i64 xc, .int .i64 xs', .int .i64 xq, .int .i64 xv, .bool xd, .slice ad xx.length cp] : Array Value)[j]? = some v → ((w.alloc (.cells #[.int .i64 xk, .int .i64 xc, .int .i64 xs', .int .i64 xq, .int .i64 xv, .bool xd, .slice ad xx.length cp] 31)).alloc (.cells #[.int .i64 xk, .int .i64 xc, .int .i64 xs', .int .i64 xq, .int .i64 xv, .bool xd, .slice ad xx.length cp] 31)).cell? ⟨w.heap.size + 1, j, none⟩ = some v := fun j v hv => by
      rw [cell_of_row _ _ j _ _ (0, 0) (heap_one w _ _).2]
      exact hv
    exact ⟨hc 0 _ rfl, hc 1 _ rfl, hc 2 _ rfl, hc 3 _ rfl, hc 4 _ rfl, hc 5 _ rfl, hc 6 _ rfl⟩
  have HF : Hid (Few [⟨xk, xc, xs', xq, xv, xd, xx⟩]) := fun i hi => by
    have h0 : i = 0 := by simpa using hi
    subst h0
    exact hxl
  clear hi hd hn hx
  go_enter Try.func22, Try.ntmps22
  go_wp2_with fail
  refine (implMapJoin_any a _ n 1 cap _ ws [⟨xk, xc, xs', xq, xv, xd, xx⟩] _ HN.out rfl hn1 (by omega) HX.out HF.out HI.out HJ.out).mono ?_
  rintro e w6 ⟨v, es, rfl, hes, hrow, hb6⟩
  have HES := Lib.hid hes
  have HRW := Lib.hid (hrow.mono HB.out.size)
  have HB6 : Hid (Below w.heap.size w w6) := below_step HB.out HB.out.size hb6
  clear hes hrow hb6
  go_wp2
  go_ret
  exact ⟨v, es, rfl, HES.out, HRW.out, HB6.out⟩

end Go.Proofs.Ytidpcjcnhklmpab

/- Contracts of the specification's MapJoin and MapPut. -/
namespace Go.Proofs.Ytidpcjcnhklmpab
open Go.ChangeShapes Go.WideShapes Go.ChangeAt Go.RowKit Go.Joins
attribute [local go_sem ↓] Go.wp_at_zero Go.wp_at_succ

theorem specMapOk_is (r : Bool) (a : Option Addr) (n cap : Nat) (ws : List Wr) (h : mapOkB ws = r) (w : World) (hn : ws.length = n) (hm : n ≤ 1048576) (hx : Few ws) (hh : IsWs w a ws) :
    Calls Try.prog 18 #[.slice a n cap] w fun e w' => e = .returned (.bool r) ∧ Below w.heap.size w w' := by
  subst h
  exact specMapOk_gen a n cap ws w hn hm hx hh

/-- What the specification answers: a list of writes of its own. -/
def AnsS (w w' : World) (e : Ending) (ws : List Wr) : Prop := ∃ g cp es L, e = .returned (.slice (some ⟨g, 0, none⟩) L cp) ∧ es.length = L ∧ es.map (·.x) = ws ∧ RowEs w' w.heap.size g cp es ∧ Below w.heap.size w w'

set_option maxHeartbeats 4000000 in
theorem specMapJoin_gen (a b : Option Addr) (n m cap cap' : Nat) (us vs : List Wr) (w : World) (hn : us.length = n) (hm : vs.length = m) (hs : n + m ≤ 1048576) (hx : Few us) (hy : Few vs) (hi : IsWs w a us) (hj : IsWs w b vs) :
    Calls Try.prog 17 #[.slice a n cap, .slice b m cap'] w fun e w' => AnsS w w' e (joinB us vs) := by
  have HI : Hid (IsWs w a us) := hi
  have HJ : Hid (IsWs w b vs) := hj
  have HN : Hid (us.length = n) := hn
  have HM : Hid (vs.length = m) := hm
  have HX : Hid (Few us) := hx
  have HY : Hid (Few vs) := hy
  clear hi hj hn hm hx hy
  cases ha : mapOkB us
  · have HE : Hid (joinB us vs = []) := joinB_not (.inl ha)
    go_enter Try.func17, Try.ntmps17
    go_wp2_with fail
    refine (specMapOk_is false a n cap us ha _ HN.out (by omega) HX.out HI.out).mono ?_
    rintro e w1 ⟨rfl, hb⟩
    have HB1 := Lib.hid hb
    clear hb
    go_wp2
    go_ret
    exact ⟨_, _, [], 0, rfl, rfl, HE.out.symm, rowEs_start _ _ HB1.out.size, HB1.out.alloc HB1.out.size _⟩
  cases hb : mapOkB vs
  · have HE : Hid (joinB us vs = []) := joinB_not (.inr hb)
    go_enter Try.func17, Try.ntmps17
    go_wp2_with fail
    refine (specMapOk_is true a n cap us ha _ HN.out (by omega) HX.out HI.out).mono ?_
    rintro e w1 ⟨rfl, hb1⟩
    have HB1 := Lib.hid hb1
    clear hb1
    go_wp2_with fail
    refine (specMapOk_is false b m cap' vs hb _ HM.out (by omega) HY.out (HJ.out.below HB1.out)).mono ?_
    rintro e w2 ⟨rfl, hb2⟩
    have HB2 : Hid (Below w.heap.size w w2) := below_step HB1.out HB1.out.size hb2
    clear hb2
    go_wp2
    go_ret
    exact ⟨_, _, [], 0, rfl, rfl, HE.out.symm, rowEs_start _ _ HB2.out.size, HB2.out.alloc HB2.out.size _⟩
  have HE : Hid (joinW us vs = joinB us vs) := by
    unfold joinB
    rw [if_pos ⟨ha, hb⟩]
    exact Lib.hid rfl
  go_enter Try.func17, Try.ntmps17
  go_wp2_with fail
  refine (specMapOk_is true a n cap us ha _ HN.out (by omega) HX.out HI.out).mono ?_
  rintro e w1 ⟨rfl, hb1⟩
  have HB1 := Lib.hid hb1
  clear hb1
  go_wp2_with fail
  refine (specMapOk_is true b m cap' vs hb _ HM.out (by omega) HY.out (HJ.out.below HB1.out)).mono ?_
  rintro e w2 ⟨rfl, hb2⟩
  have HB2 : Hid (Below w.heap.size w w2) := below_step HB1.out HB1.out.size hb2
  clear hb2 HB1
  go_wp2_with fail
  refine (l02Join_gen a b n m cap cap' us vs _ HN.out HM.out hs HX.out HY.out (HI.out.below HB2.out) (HJ.out.below HB2.out)).mono ?_
  rintro e w3 ⟨g, cp, es, L, rfl, hl, hes, hrow, hb3⟩
  have HL := Lib.hid hl
  have HES : Hid (es.map (·.x) = joinB us vs) := hes.trans HE.out
  have HRW := Lib.hid (hrow.mono HB2.out.size)
  have HB3 : Hid (Below w.heap.size w w3) := below_step HB2.out HB2.out.size hb3
  clear hl hes hrow hb3
  go_wp2
  go_ret
  exact ⟨g, cp, es, L, rfl, HL.out, HES.out, HRW.out, HB3.out⟩

theorem specMapJoin_any (b c n m cap cap' : Nat) (us vs : List Wr) (γ δ : Nat → Nat) (w : World) (hn : us.length = n) (hm : vs.length = m) (hs : n + m ≤ 1048576) (hx : Few us) (hy : Few vs) (hi : HoldsWs w b us γ) (hj : HoldsWs w c vs δ) :
    Calls Try.prog 17 #[.slice (some ⟨b, 0, none⟩) n cap, .slice (some ⟨c, 0, none⟩) m cap'] w fun e w' => AnsS w w' e (joinB us vs) :=
  specMapJoin_gen _ _ n m cap cap' us vs w hn hm hs hx hy (hi.isWs hx) (hj.isWs hy)

theorem specWriteOk_is (x : Wr) (r : Bool) (h : okW x = r) (a : Option Addr) (cap : Nat) (w : World) (hn : x.xs.length ≤ 1048576) (hh : IsDeps w a x.xs) :
    Calls Try.prog 24 #[wrOf x a cap] w fun e w' => e = .returned (.bool r) ∧ Below w.heap.size w w' := by
  subst h
  exact specWriteOk_gen _ _ _ _ _ _ a x.xs _ cap w rfl hn hh

set_option maxHeartbeats 4000000 in
theorem specMapPut_gen (a ax : Option Addr) (n cap cx : Nat) (us : List Wr) (x : Wr) (w : World) (hn : us.length = n) (hs : n ≤ 1048576) (hx : Few us) (hxl : x.xs.length ≤ 1048576) (hi : IsWs w a us) (hd : IsDeps w ax x.xs) :
    Calls Try.prog 23 #[.slice a n cap, wrOf x ax cx] w fun e w' => AnsS w w' e (joinB us [x]) := by
  obtain ⟨xk, xc, xs', xq, xv, xd, xx⟩ := x
  simp only at hxl hd
  have HB0 : Hid (Below w.heap.size w (w.alloc (.cells #[.int .i64 xk, .int .i64 xc, .int .i64 xs', .int .i64 xq, .int .i64 xv, .bool xd, .slice ax xx.length cx] 31))) := (Below.refl _ _).alloc (Nat.le_refl _) _
  have HI : Hid (IsWs w a us) := hi
  have HN : Hid (us.length = n) := hn
  have HX : Hid (Few us) := hx
  have HD : Hid (IsDeps w ax xx) := hd
  clear hi hn hx hd
  cases ha : mapOkB us
  · have HE : Hid (joinB us [⟨xk, xc, xs', xq, xv, xd, xx⟩] = []) := joinB_not (.inl ha)
    go_enter Try.func23, Try.ntmps23
    go_wp2_with fail
    refine (specMapOk_is false a n cap us ha _ HN.out (by omega) HX.out (HI.out.below HB0.out)).mono ?_
    rintro e w1 ⟨rfl, hb⟩
    have HB1 := Lib.hid (below_step HB0.out HB0.out.size hb)
    clear hb
    go_wp2
    go_ret
    exact ⟨_, _, [], 0, rfl, rfl, HE.out.symm, rowEs_start _ _ HB1.out.size, HB1.out.alloc HB1.out.size _⟩
  cases hb : okW ⟨xk, xc, xs', xq, xv, xd, xx⟩
  · have HE : Hid (joinB us [⟨xk, xc, xs', xq, xv, xd, xx⟩] = []) := joinB_not (.inr (by rw [mapOk_one]; exact hb))
    go_enter Try.func23, Try.ntmps23
    go_wp2_with fail
    refine (specMapOk_is true a n cap us ha _ HN.out (by omega) HX.out (HI.out.below HB0.out)).mono ?_
    rintro e w1 ⟨rfl, hb1⟩
    have HX1 := Lib.hid (BoxIn.start hb1)
    have b0 := HX1.out.c0
    have b1 := HX1.out.c1
    have b2 := HX1.out.c2
    have b3 := HX1.out.c3
    have b4 := HX1.out.c4
    have b5 := HX1.out.c5
    have b6 := HX1.out.c6
    clear hb1
    go_wp2_with fail
    refine (specWriteOk_is ⟨xk, xc, xs', xq, xv, xd, xx⟩ false hb _ cx _ hxl (HD.out.below HX1.out.below)).mono ?_
    rintro e w2 ⟨rfl, hb2⟩
    have HB2 : Hid (Below w.heap.size w w2) := below_step HX1.out.below HX1.out.below.size hb2
    clear hb2
    go_wp2
    go_ret
    exact ⟨_, _, [], 0, rfl, rfl, HE.out.symm, rowEs_start _ _ HB2.out.size, HB2.out.alloc HB2.out.size _⟩
  have HE : Hid (putW us ⟨xk, xc, xs', xq, xv, xd, xx⟩ = joinB us [⟨xk, xc, xs', xq, xv, xd, xx⟩]) := by
    rw [joinB_one, if_pos ⟨ha, hb⟩]
    exact Lib.hid rfl
  go_enter Try.func23, Try.ntmps23
  go_wp2_with fail
  refine (specMapOk_is true a n cap us ha _ HN.out (by omega) HX.out (HI.out.below HB0.out)).mono ?_
  rintro e w1 ⟨rfl, hb1⟩
  have HX1 := Lib.hid (BoxIn.start hb1)
  have b0 := HX1.out.c0
  have b1 := HX1.out.c1
  have b2 := HX1.out.c2
  have b3 := HX1.out.c3
  have b4 := HX1.out.c4
  have b5 := HX1.out.c5
  have b6 := HX1.out.c6
  clear hb1
  go_wp2_with fail
  refine (specWriteOk_is ⟨xk, xc, xs', xq, xv, xd, xx⟩ true hb _ cx _ hxl (HD.out.below HX1.out.below)).mono ?_
  rintro e w2 ⟨rfl, hb2⟩
  have HX2 := Lib.hid (HX1.out.step hb2)
  clear hb2 b0 b1 b2 b3 b4 b5 b6 HX1
  have b0 := HX2.out.c0
  have b1 := HX2.out.c1
  have b2 := HX2.out.c2
  have b3 := HX2.out.c3
  have b4 := HX2.out.c4
  have b5 := HX2.out.c5
  have b6 := HX2.out.c6
  go_wp2_with fail
  refine (put_gen a n cap us ⟨xk, xc, xs', xq, xv, xd, xx⟩ ax cx _ HN.out hs HX.out (HI.out.below HX2.out.below) hxl (HD.out.below HX2.out.below)).mono ?_
  rintro e w3 ⟨g, cp, es, L, rfl, hl, hes, hrow, hb3⟩
  have HL := Lib.hid hl
  have HES : Hid (es.map (·.x) = joinB us [⟨xk, xc, xs', xq, xv, xd, xx⟩]) := hes.trans HE.out
  have HRW := Lib.hid (hrow.mono (Nat.le_trans HX2.out.below.size (Nat.le_succ _)))
  have HB3 : Hid (Below w.heap.size w w3) := below_step HX2.out.below HX2.out.below.size hb3
  clear hl hes hrow hb3
  go_wp2
  go_ret
  exact ⟨g, cp, es, L, rfl, HL.out, HES.out, HRW.out, HB3.out⟩

theorem specMapPut_any (b n cap gx cx : Nat) (us : List Wr) (x : Wr) (γ : Nat → Nat) (w : World) (hn : us.length = n) (hs : n ≤ 1048576) (hx : Few us) (hxl : x.xs.length ≤ 1048576) (hi : HoldsWs w b us γ) (hgx : gx < w.heap.size) (hd : HoldsDeps w gx 0 x.xs) :
    Calls Try.prog 23 #[.slice (some ⟨b, 0, none⟩) n cap, wrOf x (some ⟨gx, 0, none⟩) cx] w fun e w' => AnsS w w' e (joinB us [x]) :=
  specMapPut_gen _ _ n cap cx us x w hn hs hx hxl (hi.isWs hx) (.inr ⟨gx, 0, rfl, hgx, hd⟩)

end Go.Proofs.Ytidpcjcnhklmpab

/- How much a join is. -/
namespace Go.Proofs.Ytidpcjcnhklmpab
open Go.ChangeShapes Go.WideShapes Go.ChangeAt Go.RowKit Go.Joins

theorem joinB_ok (us vs : List Wr) : ∀ x ∈ joinB us vs, okW x = true := by
  intro x hx
  unfold joinB at hx
  split at hx
  · rename_i h
    obtain ⟨_, h2, _⟩ := join_spec vs us ((mapOk_iff us).1 h.1).2
    rcases h2 x hx with h3 | h3
    · exact ((mapOk_iff us).1 h.1).1 x h3
    · exact ((mapOk_iff vs).1 h.2).1 x h3
  · simp at hx

theorem joinB_rise (us vs : List Wr) : Rise (joinB us vs) := by
  unfold joinB
  split
  · rename_i h
    exact (join_spec vs us ((mapOk_iff us).1 h.1).2).1
  · exact List.Pairwise.nil

theorem joinB_mapOk (us vs : List Wr) : mapOkB (joinB us vs) = true := (mapOk_iff _).2 ⟨joinB_ok us vs, joinB_rise us vs⟩

theorem mapOk_len {ws : List Wr} (h : mapOkB ws = true) : ws.length ≤ 6 := by
  have e := told_find ((mapOk_iff ws).1 h).2 (mapOk_keys h)
  rw [← e, ← toldTo_six]
  exact toldTo_len _ 6

theorem mapOk_bulk {ws : List Wr} (h : mapOkB ws = true) : bulk ws ≤ 36 := by
  have h1 := bulk_le (m := 6) fun x hx => okW_len (((mapOk_iff ws).1 h).1 x hx)
  have h2 := mapOk_len h
  omega

theorem joinB_bulk (us vs : List Wr) : bulk (joinB us vs) ≤ 36 := mapOk_bulk (joinB_mapOk us vs)

theorem joinB_len (us vs : List Wr) : (joinB us vs).length ≤ 6 := mapOk_len (joinB_mapOk us vs)

theorem joinB_few (us vs : List Wr) : Few (joinB us vs) := few_of_bulk (by have := joinB_bulk us vs; omega)

/-- The specification's answer, as a list. -/
theorem RowEs.isWs {w : World} {base g cap : Nat} {es : List En} (h : RowEs w base g cap es) {ws : List Wr} (hw : es.map (·.x) = ws) (hx : Few ws) : IsWs w (some ⟨g, 0, none⟩) ws := (h.holds hw).isWs hx

end Go.Proofs.Ytidpcjcnhklmpab

/- Contracts of Within of both sides. -/
namespace Go.Proofs.Ytidpcjcnhklmpab
open Go.ChangeShapes Go.WideShapes Go.ChangeAt Go.RowKit Go.Joins
attribute [local go_sem ↓] Go.wp_at_zero Go.wp_at_succ

/-- Two lists of writes are the same. -/
def sameB (us vs : List Wr) : Bool := decide (us.length = vs.length) && (List.range us.length).all fun i => decide (cmpW (us.getD i wz) (vs.getD i wz) = 0)

theorem same_len {us vs : List Wr} (h : us.length ≠ vs.length) : sameB us vs = false := by
  unfold sameB
  rw [decide_eq_false h, Bool.false_and]

theorem same_false {us vs : List Wr} {i : Nat} (hi : i < us.length) (h : cmpW (us.getD i wz) (vs.getD i wz) ≠ 0) : sameB us vs = false := by
  unfold sameB
  rw [Bool.and_eq_false_iff]
  refine .inr ?_
  rw [List.all_eq_false]
  exact ⟨i, List.mem_range.2 hi, by simpa using h⟩

theorem same_true {us vs : List Wr} (hl : us.length = vs.length) (h : ∀ i, i < us.length → cmpW (us.getD i wz) (vs.getD i wz) = 0) : sameB us vs = true := by
  unfold sameB
  rw [decide_eq_true hl, Bool.true_and, List.all_eq_true]
  intro i hi
  exact decide_eq_true (h i (List.mem_range.1 hi))

set_option maxHeartbeats 1000000 in
theorem sameWrite_any (x y : Wr) (a a' : Option Addr) (cp cp' : Nat) (w : World) (hn : x.xs.length ≤ 1048576) (hm : y.xs.length ≤ 1048576) (hh : IsDeps w a x.xs) (hh' : IsDeps w a' y.xs) :
    Calls Try.prog 48 #[wrOf x a cp, wrOf y a' cp'] w fun e w' => e = .returned (.bool (cmpW x y == 0)) ∧ Below w.heap.size w w' := by
  obtain ⟨xk, xc, xs', xq, xv, xd, xx⟩ := x
  obtain ⟨yk, yc, ys, yq, yv, yd, yy⟩ := y
  have HB : Hid (Below w.heap.size w ((w.alloc (.cells #[.int .i64 xk, .int .i64 xc, .int .i64 xs', .int .i64 xq, .int .i64 xv, .bool xd, .slice a xx.length cp] 31)).alloc (.cells #[.int .i64 yk, .int .i64 yc, .int .i64 ys, .int .i64 yq, .int .i64 yv, .bool yd, .slice a' yy.length cp'] 31))) := ((Below.refl _ _).alloc (Nat.le_refl _) _).alloc (by simp) _
  have HI := Lib.hid (hh.below HB.out)
  have HJ := Lib.hid (hh'.below HB.out)
  clear hh hh'
  go_enter Try.func48, Try.ntmps48
  go_wp2_with fail
  refine (implWriteCmp_gen xk xc xs' xq xv xd a xx _ cp yk yc ys yq yv yd a' yy _ cp' _ rfl rfl hn hm HI.out HJ.out).mono ?_
  rintro e w1 ⟨rfl, hb⟩
  have HB1 := Lib.hid (below_step HB.out HB.out.size hb)
  clear hb
  go_wp2
  go_ret
  exact ⟨rfl, HB1.out⟩

set_option maxHeartbeats 4000000 in
theorem equalFunc_any (a b : Option Addr) (n m cap cap' : Nat) (us vs : List Wr) (w : World) (hn : us.length = n) (hm : vs.length = m) (hn1 : n ≤ 1048576) (hm1 : m ≤ 1048576) (hx : Few us) (hy : Few vs) (hi : IsWs w a us) (hj : IsWs w b vs) :
    Calls Try.prog 47 #[.slice a n cap, .slice b m cap', .func (.func 48) #[] #[]] w fun e w' => e = .returned (.bool (sameB us vs)) ∧ Below w.heap.size w w' := by
  have HI : Hid (IsWs w a us) := hi
  have HJ : Hid (IsWs w b vs) := hj
  have HN : Hid (us.length = n) := hn
  have HM : Hid (vs.length = m) := hm
  have HX : Hid (Few us) := hx
  have HY : Hid (Few vs) := hy
  clear hi hj hn hm hx hy
  by_cases hnm : n = m
  case neg =>
    have HF : Hid (sameB us vs = false) := same_len (by rw [HN.out, HM.out]; exact hnm)
    have hb : ((n : Int) != (m : Int)) = true := by rw [bne_iff_ne]; omega
    go_enter Try.func47, Try.ntmps47
    go_wp2
    go_ret
    exact ⟨ret_bool HF.out.symm, Below.refl _ _⟩
  subst hnm
  go_enter Try.func47, Try.ntmps47
  go_wp2
  go_loopw [17] (fun i wr => ∃ k : Nat, k ≤ n ∧ i = .int .i64 k ∧ Hid (∀ j, j < k → cmpW (us.getD j wz) (vs.getD j wz) = 0) ∧ Hid (Below w.heap.size w wr)) (fun i _ => n - (intOf i).toNat)
  case atStart => exact ⟨0, Nat.zero_le _, rfl, fun j hj => absurd hj (Nat.not_lt_zero j), Below.refl _ _⟩
  case round =>
    obtain ⟨k, hk, rfl, HK, HB⟩ := hrel
    by_cases hk' : k < n
    · obtain ⟨b1, o1, ad, cp, rfl, hz, ⟨e0, e1, e2, e3, e4, e5, e6⟩, hd⟩ := HI.out.at HB.out HN.out hk'
      obtain ⟨b2, o2, ad', cp', rfl, hz', ⟨f0, f1, f2, f3, f4, f5, f6⟩, hd'⟩ := HJ.out.at HB.out HM.out hk'
      have i1 : (0 : Int) ≤ (k : Int) := by omega
      have i2 : (k : Int) < (n : Int) := by omega
      have HS : Hid (∀ W, Below wr.heap.size wr W → Calls Try.prog 48 #[wrOf (us.getD k wz) ad cp, wrOf (vs.getD k wz) ad' cp'] W fun e w' => e = .returned (.bool (cmpW (us.getD k wz) (vs.getD k wz) == 0)) ∧ Below W.heap.size W w') := fun W hW =>
        sameWrite_any _ _ ad ad' cp cp' W (HX.out k (by rw [HN.out]; exact hk')) (HY.out k (by rw [HM.out]; exact hk')) (hd.below hW) (hd'.below hW)
      have HE : Hid (cmpW (us.getD k wz) (vs.getD k wz) ≠ 0 → sameB us vs = false) := fun h => same_false (by rw [HN.out]; exact hk') h
      have HK' : Hid (cmpW (us.getD k wz) (vs.getD k wz) = 0 → ∀ j, j < k + 1 → cmpW (us.getD j wz) (vs.getD j wz) = 0) := fun h j hj => by
        by_cases h' : j < k
        · exact HK.out j h'
        · have : j = k := by omega
          rw [this]
          exact h
      clear hd hd' HI HJ
      by_cases hc : cmpW (us.getD k wz) (vs.getD k wz) = 0
      · have HK2 := Lib.hid (HK'.out hc)
        have hcb : (cmpW (us.getD k wz) (vs.getD k wz) == 0) = true := by simpa using hc
        rw [hcb] at HS
        clear hc hcb HE HK'
        generalize us.getD k wz = x at *
        generalize vs.getD k wz = y at *
        obtain ⟨xk, xc, xs', xq, xv, xd, xx⟩ := x
        obtain ⟨yk, yc, ys, yq, yv, yd, yy⟩ := y
        simp only at e0 e1 e2 e3 e4 e5 e6 f0 f1 f2 f3 f4 f5 f6 HS
        go_wp2_with fail
        refine (HS.out _ (((Below.refl _ _).alloc (Nat.le_refl _) _).alloc (by simp) _)).mono ?_
        rintro e w2 ⟨rfl, hb⟩
        have HB2 : Hid (Below w.heap.size w w2) := below_step HB.out HB.out.size (below_step (((Below.refl _ _).alloc (Nat.le_refl _) _).alloc (by simp) _) (by simp; omega) hb)
        clear hb
        go_wp2
        exact ⟨⟨k + 1, by omega, by go_num, HK2, HB2⟩, by simp [intOf]; omega⟩
      · have HF := Lib.hid (HE.out hc)
        have hcb : (cmpW (us.getD k wz) (vs.getD k wz) == 0) = false := by simpa using hc
        rw [hcb] at HS
        clear hc hcb HE HK'
        generalize us.getD k wz = x at *
        generalize vs.getD k wz = y at *
        obtain ⟨xk, xc, xs', xq, xv, xd, xx⟩ := x
        obtain ⟨yk, yc, ys, yq, yv, yd, yy⟩ := y
        simp only at e0 e1 e2 e3 e4 e5 e6 f0 f1 f2 f3 f4 f5 f6 HS
        go_wp2_with fail
        refine (HS.out _ (((Below.refl _ _).alloc (Nat.le_refl _) _).alloc (by simp) _)).mono ?_
        rintro e w2 ⟨rfl, hb⟩
        have HB2 : Hid (Below w.heap.size w w2) := below_step HB.out HB.out.size (below_step (((Below.refl _ _).alloc (Nat.le_refl _) _).alloc (by simp) _) (by simp; omega) hb)
        clear hb
        go_wp2
        go_ret
        exact ⟨ret_bool HF.out.symm, HB2.out⟩
    · have hkk : k = n := by omega
      subst hkk
      have HF : Hid (sameB us vs = true) := same_true (by rw [HN.out, HM.out]) (fun i hi => HK.out i (by rw [← HN.out]; exact hi))
      go_wp2
      go_ret
      exact ⟨ret_bool HF.out.symm, HB.out⟩

def withinB (us vs : List Wr) : Bool := mapOkB us && (mapOkB vs && sameB (joinB us vs) vs)

set_option maxHeartbeats 4000000 in
theorem implWithin_any (a b : Option Addr) (n m cap cap' : Nat) (us vs : List Wr) (w : World) (hn : us.length = n) (hm : vs.length = m) (hn1 : n ≤ 1048576) (hm1 : m ≤ 1048576) (hx : Few us) (hy : Few vs) (hi : IsWs w a us) (hj : IsWs w b vs) :
    Calls Try.prog 20 #[.slice a n cap, .slice b m cap'] w fun e w' => e = .returned (.bool (withinB us vs)) ∧ Below w.heap.size w w' := by
  have HI : Hid (IsWs w a us) := hi
  have HJ : Hid (IsWs w b vs) := hj
  have HN : Hid (us.length = n) := hn
  have HM : Hid (vs.length = m) := hm
  have HX : Hid (Few us) := hx
  have HY : Hid (Few vs) := hy
  clear hi hj hn hm hx hy
  cases ha : mapOkB us
  · have HE : Hid (withinB us vs = false) := by unfold withinB; rw [ha, Bool.false_and]; exact Lib.hid rfl
    go_enter Try.func20, Try.ntmps20
    go_wp2_with fail
    refine (implMapOk_is false a n cap us ha _ HN.out hn1 HX.out HI.out).mono ?_
    rintro e w1 ⟨rfl, hb⟩
    have HB1 := Lib.hid hb
    clear hb
    go_wp2
    go_ret
    exact ⟨ret_bool HE.out.symm, HB1.out⟩
  cases hb : mapOkB vs
  · have HE : Hid (withinB us vs = false) := by unfold withinB; rw [hb, Bool.false_and, Bool.and_false]; exact Lib.hid rfl
    go_enter Try.func20, Try.ntmps20
    go_wp2_with fail
    refine (implMapOk_is true a n cap us ha _ HN.out hn1 HX.out HI.out).mono ?_
    rintro e w1 ⟨rfl, hb1⟩
    have HB1 := Lib.hid hb1
    clear hb1
    go_wp2_with fail
    refine (implMapOk_is false b m cap' vs hb _ HM.out hm1 HY.out (HJ.out.below HB1.out)).mono ?_
    rintro e w2 ⟨rfl, hb2⟩
    have HB2 : Hid (Below w.heap.size w w2) := below_step HB1.out HB1.out.size hb2
    clear hb2
    go_wp2
    go_ret
    exact ⟨ret_bool HE.out.symm, HB2.out⟩
  have HE : Hid (withinB us vs = sameB (joinB us vs) vs) := by unfold withinB; rw [ha, hb, Bool.true_and, Bool.true_and]; exact Lib.hid rfl
  have HJF := Lib.hid (joinB_few us vs)
  have HJL := Lib.hid (joinB_len us vs)
  go_enter Try.func20, Try.ntmps20
  go_wp2_with fail
  refine (implMapOk_is true a n cap us ha _ HN.out hn1 HX.out HI.out).mono ?_
  rintro e w1 ⟨rfl, hb1⟩
  have HB1 := Lib.hid hb1
  clear hb1
  go_wp2_with fail
  refine (implMapOk_is true b m cap' vs hb _ HM.out hm1 HY.out (HJ.out.below HB1.out)).mono ?_
  rintro e w2 ⟨rfl, hb2⟩
  have HB2 : Hid (Below w.heap.size w w2) := below_step HB1.out HB1.out.size hb2
  clear hb2 HB1
  go_wp2_with fail
  refine (implMapJoin_any a b n m cap cap' us vs _ HN.out HM.out hn1 hm1 HX.out HY.out (HI.out.below HB2.out) (HJ.out.below HB2.out)).mono ?_
  rintro e w3 ⟨v, es, rfl, hes, hrow, hb3⟩
  obtain ⟨ga, gc, L, rfl, hl, hg⟩ := hrow.ownA hes
  have HB3 : Hid (Below w.heap.size w w3) := below_step HB2.out HB2.out.size hb3
  have HG := Lib.hid (hg.isWs HJF.out)
  have HL := Lib.hid hl
  have hL6 : L ≤ 6 := by rw [← hl]; exact HJL.out
  clear hb3 hg hl hes hrow HB2
  go_wp2_with fail
  refine (equalFunc_any ga b L m gc cap' (joinB us vs) vs _ HL.out HM.out (by omega) hm1 HJF.out HY.out HG.out (HJ.out.below HB3.out)).mono ?_
  rintro e w4 ⟨rfl, hb4⟩
  have HB4 : Hid (Below w.heap.size w w4) := below_step HB3.out HB3.out.size hb4
  clear hb4
  rw [← HE.out]
  go_wp2
  go_ret
  exact ⟨rfl, HB4.out⟩

set_option maxHeartbeats 4000000 in
theorem l02Same_gen (a b : Option Addr) (n m cap cap' : Nat) (us vs : List Wr) (w : World) (hn : us.length = n) (hm : vs.length = m) (hn1 : n ≤ 1048576) (hm1 : m ≤ 1048576) (hx : Few us) (hy : Few vs) (hi : IsWs w a us) (hj : IsWs w b vs) :
    Calls Try.prog 56 #[.slice a n cap, .slice b m cap'] w fun e w' => e = .returned (.bool (sameB us vs)) ∧ Below w.heap.size w w' := by
  have HI : Hid (IsWs w a us) := hi
  have HJ : Hid (IsWs w b vs) := hj
  have HN : Hid (us.length = n) := hn
  have HM : Hid (vs.length = m) := hm
  have HX : Hid (Few us) := hx
  have HY : Hid (Few vs) := hy
  clear hi hj hn hm hx hy
  by_cases hnm : n = m
  case neg =>
    have HF : Hid (sameB us vs = false) := same_len (by rw [HN.out, HM.out]; exact hnm)
    have hb : ((n : Int) != (m : Int)) = true := by rw [bne_iff_ne]; omega
    go_enter Try.func56, Try.ntmps56
    go_wp2
    go_ret
    exact ⟨ret_bool HF.out.symm, Below.refl _ _⟩
  subst hnm
  go_enter Try.func56, Try.ntmps56
  go_wp2
  go_loopw [5] (fun i wr => ∃ k : Nat, k ≤ n ∧ i = .int .i64 k ∧ Hid (∀ j, j < k → cmpW (us.getD j wz) (vs.getD j wz) = 0) ∧ Hid (Below w.heap.size w wr)) (fun i _ => n - (intOf i).toNat)
  case atStart => exact ⟨0, Nat.zero_le _, rfl, fun j hj => absurd hj (Nat.not_lt_zero j), Below.refl _ _⟩
  case round =>
    obtain ⟨k, hk, rfl, HK, HB⟩ := hrel
    by_cases hk' : k < n
    · obtain ⟨b1, o1, ad, cp, rfl, hz, ⟨e0, e1, e2, e3, e4, e5, e6⟩, hd⟩ := HI.out.at HB.out HN.out hk'
      obtain ⟨b2, o2, ad', cp', rfl, hz', ⟨f0, f1, f2, f3, f4, f5, f6⟩, hd'⟩ := HJ.out.at HB.out HM.out hk'
      have i1 : (0 : Int) ≤ (k : Int) := by omega
      have i2 : (k : Int) < (n : Int) := by omega
      have HC : Hid (∀ p : Aft wr.heap.size wr, Calls Try.prog 13 #[wrOf (us.getD k wz) ad cp, wrOf (vs.getD k wz) ad' cp'] p.now fun e w' => e = .returned (.int .i64 (cmpW (us.getD k wz) (vs.getD k wz))) ∧ Below p.now.heap.size p.now w') := fun p =>
        specWriteCmp_gen _ _ _ _ _ _ _ (us.getD k wz).xs _ _ _ _ _ _ _ _ _ (vs.getD k wz).xs _ _ _ rfl rfl (HX.out k (by rw [HN.out]; exact hk')) (HY.out k (by rw [HM.out]; exact hk')) (hd.below p.below) (hd'.below p.below)
      have HE : Hid (cmpW (us.getD k wz) (vs.getD k wz) ≠ 0 → sameB us vs = false) := fun h => same_false (by rw [HN.out]; exact hk') h
      have HK' : Hid (cmpW (us.getD k wz) (vs.getD k wz) = 0 → ∀ j, j < k + 1 → cmpW (us.getD j wz) (vs.getD j wz) = 0) := fun h j hj => by
        by_cases h' : j < k
        · exact HK.out j h'
        · have : j = k := by omega
          rw [this]
          exact h
      clear hd hd' HI HJ
      by_cases hc : cmpW (us.getD k wz) (vs.getD k wz) = 0
      · have HK2 := Lib.hid (HK'.out hc)
        rw [hc] at HC
        clear hc HE HK'
        generalize us.getD k wz = x at *
        generalize vs.getD k wz = y at *
        obtain ⟨xk, xc, xs', xq, xv, xd, xx⟩ := x
        obtain ⟨yk, yc, ys, yq, yv, yd, yy⟩ := y
        simp only at e0 e1 e2 e3 e4 e5 e6 f0 f1 f2 f3 f4 f5 f6 HC
        go_wp2_with fail
        have ge0 := aft_cell hz e0
        have ge1 := aft_cell hz e1
        have ge2 := aft_cell hz e2
        have ge3 := aft_cell hz e3
        have ge4 := aft_cell hz e4
        have ge5 := aft_cell hz e5
        have ge6 := aft_cell hz e6
        have gf0 := aft_cell hz' f0
        have gf1 := aft_cell hz' f1
        have gf2 := aft_cell hz' f2
        have gf3 := aft_cell hz' f3
        have gf4 := aft_cell hz' f4
        have gf5 := aft_cell hz' f5
        have gf6 := aft_cell hz' f6
        have ne := aft_some wr
        refine wp_region_aft (by kernel_rfl) (by kernel_rfl) ?_
        repeat (first | go_big_quiet_step (first | (go_at_call 13; exact aft_of (HC.out _))))
        refine wpQuiet_nil ?_
        intro wq hq
        have HBQ : Hid (Below w.heap.size w wq) := below_step HB.out HB.out.size hq
        clear hq
        go_wp2
        exact ⟨⟨k + 1, by omega, by go_num, HK2, HBQ⟩, by simp [intOf]; omega⟩
      · have HF := Lib.hid (HE.out hc)
        have hcb : (cmpW (us.getD k wz) (vs.getD k wz) != 0) = true := by rw [bne_iff_ne]; exact hc
        clear hc HE HK'
        generalize cmpW (us.getD k wz) (vs.getD k wz) = z at *
        generalize us.getD k wz = x at *
        generalize vs.getD k wz = y at *
        obtain ⟨xk, xc, xs', xq, xv, xd, xx⟩ := x
        obtain ⟨yk, yc, ys, yq, yv, yd, yy⟩ := y
        simp only at e0 e1 e2 e3 e4 e5 e6 f0 f1 f2 f3 f4 f5 f6 HC
        go_wp2_with fail
        have ge0 := aft_cell hz e0
        have ge1 := aft_cell hz e1
        have ge2 := aft_cell hz e2
        have ge3 := aft_cell hz e3
        have ge4 := aft_cell hz e4
        have ge5 := aft_cell hz e5
        have ge6 := aft_cell hz e6
        have gf0 := aft_cell hz' f0
        have gf1 := aft_cell hz' f1
        have gf2 := aft_cell hz' f2
        have gf3 := aft_cell hz' f3
        have gf4 := aft_cell hz' f4
        have gf5 := aft_cell hz' f5
        have gf6 := aft_cell hz' f6
        have ne := aft_some wr
        refine wp_region_aft (by kernel_rfl) (by kernel_rfl) ?_
        repeat (first | go_big_quiet_step (first | (go_at_call 13; exact aft_of (HC.out _))))
        refine wpQuiet_nil ?_
        intro wq hq
        have HBQ : Hid (Below w.heap.size w wq) := below_step HB.out HB.out.size hq
        clear hq
        go_wp2
        go_ret
        exact ⟨ret_bool HF.out.symm, HBQ.out⟩
    · have hkk : k = n := by omega
      subst hkk
      have HF : Hid (sameB us vs = true) := same_true (by rw [HN.out, HM.out]) (fun i hi => HK.out i (by rw [← HN.out]; exact hi))
      go_wp2
      go_ret
      exact ⟨ret_bool HF.out.symm, HB.out⟩

theorem l02Same_any (b c n m cap cap' : Nat) (us vs : List Wr) (γ δ : Nat → Nat) (w : World) (hn : us.length = n) (hm : vs.length = m) (hn1 : n ≤ 1048576) (hm1 : m ≤ 1048576) (hx : Few us) (hy : Few vs) (hi : HoldsWs w b us γ) (hj : HoldsWs w c vs δ) :
    Calls Try.prog 56 #[.slice (some ⟨b, 0, none⟩) n cap, .slice (some ⟨c, 0, none⟩) m cap'] w fun e w' => e = .returned (.bool (sameB us vs)) ∧ Below w.heap.size w w' :=
  l02Same_gen _ _ n m cap cap' us vs w hn hm hn1 hm1 hx hy (hi.isWs hx) (hj.isWs hy)

set_option maxHeartbeats 4000000 in
theorem specWithin_gen (a b : Option Addr) (n m cap cap' : Nat) (us vs : List Wr) (w : World) (hn : us.length = n) (hm : vs.length = m) (hs : n + m ≤ 1048576) (hx : Few us) (hy : Few vs) (hi : IsWs w a us) (hj : IsWs w b vs) :
    Calls Try.prog 28 #[.slice a n cap, .slice b m cap'] w fun e w' => e = .returned (.bool (withinB us vs)) ∧ Below w.heap.size w w' := by
  have HI : Hid (IsWs w a us) := hi
  have HJ : Hid (IsWs w b vs) := hj
  have HN : Hid (us.length = n) := hn
  have HM : Hid (vs.length = m) := hm
  have HX : Hid (Few us) := hx
  have HY : Hid (Few vs) := hy
  clear hi hj hn hm hx hy
  cases ha : mapOkB us
  · have HE : Hid (withinB us vs = false) := by unfold withinB; rw [ha, Bool.false_and]; exact Lib.hid rfl
    go_enter Try.func28, Try.ntmps28
    go_wp2_with fail
    refine (specMapOk_is false a n cap us ha _ HN.out (by omega) HX.out HI.out).mono ?_
    rintro e w1 ⟨rfl, hb⟩
    have HB1 := Lib.hid hb
    clear hb
    go_wp2
    go_ret
    exact ⟨ret_bool HE.out.symm, HB1.out⟩
  cases hb : mapOkB vs
  · have HE : Hid (withinB us vs = false) := by unfold withinB; rw [hb, Bool.false_and, Bool.and_false]; exact Lib.hid rfl
    go_enter Try.func28, Try.ntmps28
    go_wp2_with fail
    refine (specMapOk_is true a n cap us ha _ HN.out (by omega) HX.out HI.out).mono ?_
    rintro e w1 ⟨rfl, hb1⟩
    have HB1 := Lib.hid hb1
    clear hb1
    go_wp2_with fail
    refine (specMapOk_is false b m cap' vs hb _ HM.out (by omega) HY.out (HJ.out.below HB1.out)).mono ?_
    rintro e w2 ⟨rfl, hb2⟩
    have HB2 : Hid (Below w.heap.size w w2) := below_step HB1.out HB1.out.size hb2
    clear hb2
    go_wp2
    go_ret
    exact ⟨ret_bool HE.out.symm, HB2.out⟩
  have HEJ : Hid (joinW us vs = joinB us vs) := by
    unfold joinB
    rw [if_pos ⟨ha, hb⟩]
    exact Lib.hid rfl
  have HE : Hid (withinB us vs = sameB (joinB us vs) vs) := by unfold withinB; rw [ha, hb, Bool.true_and, Bool.true_and]; exact Lib.hid rfl
  have HJF := Lib.hid (joinB_few us vs)
  have HJL := Lib.hid (joinB_len us vs)
  go_enter Try.func28, Try.ntmps28
  go_wp2_with fail
  refine (specMapOk_is true a n cap us ha _ HN.out (by omega) HX.out HI.out).mono ?_
  rintro e w1 ⟨rfl, hb1⟩
  have HB1 := Lib.hid hb1
  clear hb1
  go_wp2_with fail
  refine (specMapOk_is true b m cap' vs hb _ HM.out (by omega) HY.out (HJ.out.below HB1.out)).mono ?_
  rintro e w2 ⟨rfl, hb2⟩
  have HB2 : Hid (Below w.heap.size w w2) := below_step HB1.out HB1.out.size hb2
  clear hb2 HB1
  go_wp2_with fail
  refine (l02Join_gen a b n m cap cap' us vs _ HN.out HM.out hs HX.out HY.out (HI.out.below HB2.out) (HJ.out.below HB2.out)).mono ?_
  rintro e w3 ⟨g, cp, es, L, rfl, hl, hes, hrow, hb3⟩
  have HB3 : Hid (Below w.heap.size w w3) := below_step HB2.out HB2.out.size hb3
  have HES : Hid (es.map (·.x) = joinB us vs) := hes.trans HEJ.out
  have HL : Hid ((joinB us vs).length = L) := by
    rw [← HES.out, List.length_map]
    exact hl
  have HG := Lib.hid (hrow.holds HES.out)
  have hL6 : L ≤ 6 := by rw [← HL.out]; exact HJL.out
  clear hb3 hl hes hrow HB2
  go_wp2_with fail
  refine (l02Same_gen _ b L m cp cap' (joinB us vs) vs _ HL.out HM.out (by omega) (by omega) HJF.out HY.out (HG.out.isWs HJF.out) (HJ.out.below HB3.out)).mono ?_
  rintro e w4 ⟨rfl, hb4⟩
  have HB4 : Hid (Below w.heap.size w w4) := below_step HB3.out HB3.out.size hb4
  clear hb4
  rw [← HE.out]
  go_wp2
  go_ret
  exact ⟨rfl, HB4.out⟩

theorem specWithin_any (b c n m cap cap' : Nat) (us vs : List Wr) (γ δ : Nat → Nat) (w : World) (hn : us.length = n) (hm : vs.length = m) (hs : n + m ≤ 1048576) (hx : Few us) (hy : Few vs) (hi : HoldsWs w b us γ) (hj : HoldsWs w c vs δ) :
    Calls Try.prog 28 #[.slice (some ⟨b, 0, none⟩) n cap, .slice (some ⟨c, 0, none⟩) m cap'] w fun e w' => e = .returned (.bool (withinB us vs)) ∧ Below w.heap.size w w' :=
  specWithin_gen _ _ n m cap cap' us vs w hn hm hs hx hy (hi.isWs hx) (hj.isWs hy)

end Go.Proofs.Ytidpcjcnhklmpab
