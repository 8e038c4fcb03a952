import Derived.Test.YtidpcjcnhklmpabGreatPack11
import Derived.Test.YtidpcjcnhklmpabGreatPack8
import Derived.Test.YtidpcjcnhklmpabGreatPack9
/- The specification's l03Those, Held, Fitting. -/
namespace Go.Proofs.YtidpcjcnhklmpabGreat
open Go.ChangeShapes Go.WideShapes Go.ChangeAt Go.RowKit Go.Joins
attribute [local go_sem ↓] Go.wp_at_zero Go.wp_at_succ

theorem those_yes {vs : List Wr} {st : Nat → Bool} {fit : Bool} {k : Nat} (h : st k = fit) : thoseTo vs st fit (k + 1) = thoseTo vs st fit k ++ [vs.getD k wz] := by
  rw [thoseTo, if_pos h]

theorem those_no {vs : List Wr} {st : Nat → Bool} {fit : Bool} {k : Nat} (h : st k ≠ fit) : thoseTo vs st fit (k + 1) = thoseTo vs st fit k := by
  rw [thoseTo, if_neg h]

set_option maxRecDepth 100000 in
set_option maxHeartbeats 4000000 in
theorem l03Those_any (a b : Option Addr) (n m cap cap' : Nat) (us vs : List Wr) (fit : Bool) (w : World) (hn : us.length = n) (hm : vs.length = m) (hs : n + m ≤ 1048576) (hx : Few us) (hy : Few vs) (hi : IsWs w a us) (hj : IsWs w b vs) :
    Calls Tryz.prog 31 #[.slice a n cap, .slice b m cap', .bool fit] w fun e w' => ∃ g cp es L, e = .returned (.slice (some ⟨g, 0, none⟩) L cp) ∧ es.length = L ∧ es.map (·.x) = fitL us vs fit ∧ RowEs w' w.heap.size g cp es ∧ Below w.heap.size w w' := by
  have HI : Hid (IsWs w a us) := hi
  have HJ : Hid (IsWs w b vs) := hj
  have HN : Hid (us.length = n) := hn
  have HM : Hid (vs.length = m) := hm
  have HX : Hid (Few us) := hx
  have HY : Hid (Few vs) := hy
  clear hi hj hn hm hx hy
  obtain ⟨i0, hi0, hx0⟩ := Option.map_eq_some_iff.1 infoWr
  simp only [Prod.mk.injEq] at hx0
  have HI0 := Lib.hid hi0
  have HX0 := Lib.hid hx0
  clear hi0 hx0
  have HB0 : Hid (Below w.heap.size w (w.alloc (.cells #[] 35))) := (Below.refl _ _).alloc (Nat.le_refl _) _
  have HR0 : Hid (RowEs (w.alloc (.cells #[] 35)) w.heap.size w.heap.size 0 []) := rowEs_start w _ (Nat.le_refl _)
  have HC : Hid (Calls Tryz.prog 29 #[.slice a n cap, .slice b m cap'] (w.alloc (.cells #[] 35)) fun e w' => e = .returned (.bool (rightB us vs)) ∧ Below (w.alloc (.cells #[] 35)).heap.size (w.alloc (.cells #[] 35)) w') :=
    l03Right_any a b n m cap cap' us vs _ HN.out HM.out (by omega) (by omega) HX.out HY.out (HI.out.below HB0.out) (HJ.out.below HB0.out)
  have HFL : Hid (fitL us vs fit = match rightB us vs with
    | true => thoseTo vs (fixS us vs) fit vs.length
    | false => []) := rfl
  cases hr : rightB us vs
  · have HF : Hid (fitL us vs fit = []) := by
      have := HFL.out
      rw [hr] at this
      exact this
    rw [hr] at HC
    clear hr HFL
    go_enter Tryz.func31, Tryz.ntmps31
    go_wp2_with fail
    refine HC.out.mono ?_
    rintro e w1 ⟨rfl, hb⟩
    have HB1 := Lib.hid (below_step HB0.out HB0.out.size hb)
    have HR1 := Lib.hid (HR0.out.below hb)
    clear hb HC HB0 HR0
    go_wp2
    go_ret
    exact ⟨_, _, [], 0, rfl, rfl, HF.out.symm, HR1.out, HB1.out⟩
  · have HF : Hid (fitL us vs fit = thoseTo vs (fixS us vs) fit vs.length) := by
      have := HFL.out
      rw [hr] at this
      exact this
    rw [hr] at HC
    clear hr HFL
    go_enter Tryz.func31, Tryz.ntmps31
    go_wp2_with fail
    refine HC.out.mono ?_
    rintro e w1 ⟨rfl, hb⟩
    have HB1 := Lib.hid (below_step HB0.out HB0.out.size hb)
    have HR1 := Lib.hid (HR0.out.below hb)
    clear hb HC HB0 HR0
    go_wp2_with fail
    refine (l03Stay_any a b n m cap cap' us vs _ HN.out HM.out hs HX.out HY.out (HI.out.below HB1.out) (HJ.out.below HB1.out)).mono ?_
    rintro e w2 ⟨rfl, r, hrow, hfix, hb⟩
    have HS2 : Hid (w2.rowIs w1.heap.size 4 m (bfill (fixS us vs))) := hrow.congr fun j hj => by
      unfold bfill
      rw [stay_is_fix (fun j hj => hfix j (by rw [← HM.out]; exact hj)) j (by rw [HM.out]; exact hj)]
    have HB2 := Lib.hid (below_step HB1.out HB1.out.size hb)
    have HR2 := Lib.hid (HR1.out.below hb)
    have hg1 : w.heap.size ≠ w1.heap.size := by have := HR1.out.lt; omega
    clear hrow hfix hb HB1 HR1
    generalize w1.heap.size = B at *
    generalize fixS us vs = st at *
    go_wp2
    go_loopw [7, 9] (fun t i wr => ∃ (k L g cp : Nat) (es : List En), k ≤ m ∧ L ≤ k ∧ i = .int .i64 k ∧ t = .slice (some ⟨g, 0, none⟩) L cp ∧ g ≠ B ∧ Hid (es.length = L) ∧ Hid (es.map (·.x) = thoseTo vs st fit k) ∧ Hid (RowEs wr w.heap.size g cp es) ∧ Hid (wr.rowIs B 4 m (bfill st)) ∧ Hid (Below w.heap.size w wr)) (fun _ i _ => m - (intOf i).toNat)
    case atStart => exact ⟨0, 0, w.heap.size, 0, [], Nat.zero_le _, Nat.le_refl _, rfl, rfl, hg1, rfl, rfl, HR2, HS2, HB2⟩
    case round =>
      clear HR2 HS2 HB2 hg1
      obtain ⟨k, L, g, cp, es, hk, hL, rfl, rfl, hgB, HL, HE, HR, HS, HB⟩ := hrel
      by_cases hk' : k < m
      · have i1 : (0 : Int) ≤ (k : Int) := by omega
        have i2 : (k : Int) < (m : Int) := by omega
        have c0 := HS.out.cell (i := k) (by omega)
        unfold bfill at c0
        by_cases hb : st k = fit
        · rw [hb] at c0
          obtain ⟨bb, oo, ad, cq, rfl, hz, ⟨e0, e1, e2, e3, e4, e5, e6⟩, hd⟩ := HJ.out.at HB.out HM.out hk'
          have hkb : k < vs.length := by rw [HM.out]; exact hk'
          have hxl := HY.out k hkb
          have HD := Lib.hid hd
          have HT : Hid (thoseTo vs st fit (k + 1) = thoseTo vs st fit k ++ [vs.getD k wz]) := those_yes hb
          clear hd HJ hb
          generalize vs.getD k wz = x at *
          obtain ⟨xk, xc, xs', xq, xv, xd, xx⟩ := x
          simp only at e0 e1 e2 e3 e4 e5 e6 hxl HD
          go_wp2_with fail
          refine (copy_any ⟨xk, xc, xs', xq, xv, xd, xx⟩ _ _ _ hxl HD.out).mono ?_
          rintro e w2 ⟨g2, cp2, rfl, hg1, hg2, hg3, hb⟩
          have HB2 : Hid (Below w.heap.size w w2) := below_step HB.out HB.out.size hb
          have HR2 : Hid (RowEs w2 w.heap.size g cp es) := HR.out.below hb
          have HS2 : Hid (w2.rowIs B 4 m (bfill st)) := HS.out.of_block (hb.block _ HS.out.lt)
          have HG : Hid (HoldsDeps w2 g2 0 xx) := hg3
          have hg5 : g2 ≠ g := by have := HR.out.lt; omega
          have hg6 : w.heap.size ≤ g2 := Nat.le_trans HB.out.size hg1
          clear hb hg3 hg1 HD
          have HBA : Hid (Below w2.heap.size w2 (w2.alloc (.cells #[.int .i64 xk, .int .i64 xc, .int .i64 xs', .int .i64 xq, .int .i64 xv, .bool xd, .slice (some ⟨g2, 0, none⟩) xx.length cp2] 35))) := (Below.refl _ _).alloc (Nat.le_refl _) _
          have HW := Lib.hid (HR2.out.below HBA.out)
          have HS3 := Lib.hid (HS2.out.of_block (HBA.out.block _ HS2.out.lt))
          have HOW : Hid ((w2.alloc (.cells #[.int .i64 xk, .int .i64 xc, .int .i64 xs', .int .i64 xq, .int .i64 xv, .bool xd, .slice (some ⟨g2, 0, none⟩) xx.length cp2] 35)).ownsRow w.heap.size 35 7 (.slice (some ⟨g, 0, none⟩) L cp) L (es.flatMap wrVals)) := by
            have := HW.out.own
            rw [HL.out] at this
            exact this
          have hsz : w.heap.size ≤ w2.heap.size := HB2.out.size
          go_wp2_with (at_builtin; refine wpList_append_lies _ (by rfl) _ _ _ (by rfl) w.heap.size 35 i0 (wrV 0 0 0 0 0 false none 0 0) 7 72 Tryz.underlying24 HI0.out HX0.out.1 HX0.out.2.1 HX0.out.2.2 (by rfl) (by omega) (.slice (some ⟨g, 0, none⟩) L cp) L (es.flatMap wrVals) (by rfl) HOW.out ⟨w2.heap.size, 0, none⟩ 1 1 (wrVals ⟨⟨xk, xc, xs', xq, xv, xd, xx⟩, g2, cp2⟩) (by rfl) (by rfl) (one_cells w2 _ ⟨⟨xk, xc, xs', xq, xv, xd, xx⟩, g2, cp2⟩) (by simpa using vals_one [⟨⟨xk, xc, xs', xq, xv, xd, xx⟩, g2, cp2⟩]) (by omega) (by unfold maxLen; omega) (by omega) (by simp; omega) _ rfl ?_; intro g3 cp3 w5 hown hgrow hg3 _; refine Hid.out ?_)
          refine Lib.hid ?_
          have HB5 : Hid (Below w.heap.size w w5) := (HB2.out.alloc hsz _).grown hgrow (by simp; omega) fun j hj => by simp only [Value.ownBlock, Option.some.injEq] at hj; have := HR2.out.le; omega
          have HR5 : Hid (RowEs w5 w.heap.size g3 cp3 (es ++ [⟨⟨xk, xc, xs', xq, xv, xd, xx⟩, g2, cp2⟩])) := by
            refine HW.out.more ⟨hg6, by simp; omega, hg5, HG.out.below HBA.out hg2⟩ (by rw [HL.out]; exact hown) hgrow hg3
          have HS5 : Hid (w5.rowIs B 4 m (bfill st)) := HS3.out.of_block (hgrow.block B HS3.out.lt (by simpa [Value.ownBlock] using Ne.symm hgB))
          have hgB5 : g3 ≠ B := by
            have := HS3.out.lt
            rcases hg3 with h | h
            · simp only [Value.ownBlock, Option.some.injEq] at h
              omega
            · omega
          have HE5 : Hid ((es ++ [(⟨⟨xk, xc, xs', xq, xv, xd, xx⟩, g2, cp2⟩ : En)]).map (·.x) = thoseTo vs st fit (k + 1)) := by
            rw [HT.out, List.map_append, HE.out]
            exact Lib.hid rfl
          have HL5 : Hid ((es ++ [(⟨⟨xk, xc, xs', xq, xv, xd, xx⟩, g2, cp2⟩ : En)]).length = L + 1) := by
            rw [List.length_append, HL.out]
            exact Lib.hid rfl
          clear hown hgrow HW HOW
          go_wp2
          exact ⟨⟨k + 1, L + 1, g3, cp3, _, by omega, by omega, by go_num, rfl, hgB5, HL5, HE5, HR5, HS5, HB5⟩, by simp [intOf]; omega⟩
        · have HE2 : Hid (es.map (·.x) = thoseTo vs st fit (k + 1)) := HE.out.trans (those_no hb).symm
          generalize st k = sk at *
          cases sk <;> cases fit <;> first
            | exact absurd rfl hb
            | (clear hb HE
               go_wp2
               exact ⟨⟨k + 1, L, g, cp, es, by omega, by omega, by go_num, rfl, hgB, HL, HE2, HR, HS, HB⟩, by simp [intOf]; omega⟩)
      · have hkk : k = m := by omega
        subst hkk
        have HE2 : Hid (es.map (·.x) = fitL us vs fit) := by
          rw [HF.out, HM.out]
          exact HE
        go_wp2
        go_ret
        exact ⟨g, cp, es, L, rfl, HL.out, HE2.out, HR.out, HB.out⟩

set_option maxHeartbeats 1000000 in
theorem specHeld_any (a b : Option Addr) (n m cap cap' : Nat) (us vs : List Wr) (w : World) (hn : us.length = n) (hm : vs.length = m) (hs : n + m ≤ 1048576) (hx : Few us) (hy : Few vs) (hi : IsWs w a us) (hj : IsWs w b vs) :
    Calls Tryz.prog 12 #[.slice a n cap, .slice b m cap'] w fun e w' => ∃ g cp es L, e = .returned (.slice (some ⟨g, 0, none⟩) L cp) ∧ es.length = L ∧ es.map (·.x) = fitL us vs false ∧ RowEs w' w.heap.size g cp es ∧ Below w.heap.size w w' := by
  have HC := Lib.hid (l03Those_any a b n m cap cap' us vs false w hn hm hs hx hy hi hj)
  clear hn hm hx hy hi hj
  go_enter Tryz.func12, Tryz.ntmps12
  go_wp2_with fail
  refine HC.out.mono ?_
  rintro e w1 ⟨g, cp, es, L, rfl, h1, h2, h3, h4⟩
  have HA := Lib.hid (And.intro h1 (And.intro h2 (And.intro h3 h4)))
  clear h1 h2 h3 h4 HC
  go_wp2
  go_ret
  exact ⟨g, cp, es, L, rfl, HA.out.1, HA.out.2.1, HA.out.2.2.1, HA.out.2.2.2⟩

set_option maxHeartbeats 1000000 in
theorem specFitting_any (a b : Option Addr) (n m cap cap' : Nat) (us vs : List Wr) (w : World) (hn : us.length = n) (hm : vs.length = m) (hs : n + m ≤ 1048576) (hx : Few us) (hy : Few vs) (hi : IsWs w a us) (hj : IsWs w b vs) :
    Calls Tryz.prog 11 #[.slice a n cap, .slice b m cap'] w fun e w' => ∃ g cp es L, e = .returned (.slice (some ⟨g, 0, none⟩) L cp) ∧ es.length = L ∧ es.map (·.x) = fitL us vs true ∧ RowEs w' w.heap.size g cp es ∧ Below w.heap.size w w' := by
  have HC := Lib.hid (l03Those_any a b n m cap cap' us vs true w hn hm hs hx hy hi hj)
  clear hn hm hx hy hi hj
  go_enter Tryz.func11, Tryz.ntmps11
  go_wp2_with fail
  refine HC.out.mono ?_
  rintro e w1 ⟨g, cp, es, L, rfl, h1, h2, h3, h4⟩
  have HA := Lib.hid (And.intro h1 (And.intro h2 (And.intro h3 h4)))
  clear h1 h2 h3 h4 HC
  go_wp2
  go_ret
  exact ⟨g, cp, es, L, rfl, HA.out.1, HA.out.2.1, HA.out.2.2.1, HA.out.2.2.2⟩

end Go.Proofs.YtidpcjcnhklmpabGreat

/- Lists of writes that a call answers, or that are handed to one: marks on them, and what marks leave alone. -/
namespace Go.Proofs.YtidpcjcnhklmpabGreat
open Go.ChangeShapes Go.WideShapes Go.ChangeAt Go.RowKit Go.Joins
attribute [local go_sem ↓] Go.wp_at_zero Go.wp_at_succ

/-- What was written lies in these blocks. -/
abbrev Span (lo hi : Nat) (x : Nat) : Prop := lo ≤ x ∧ x < hi

/-- A list of writes of one's own, between two block numbers; it may be nil where it is empty. -/
def OwnA (w : World) (lo hi : Nat) (a : Option Addr) (ws : List Wr) (γ : Nat → Nat) : Prop :=
  ws = [] ∨ ∃ b, a = some ⟨b, 0, none⟩ ∧ OwnG w lo b ws γ ∧ b < hi ∧ ∀ i, i < ws.length → 0 < (ws.getD i wz).xs.length → γ i < hi

theorem OwnG.ownA {w : World} {lo b : Nat} {ws : List Wr} {γ : Nat → Nat} (h : OwnG w lo b ws γ) : OwnA w lo w.heap.size (some ⟨b, 0, none⟩) ws γ :=
  .inr ⟨b, rfl, h, h.lt, fun i hi hp => (h.deps i hi hp).2.1⟩

theorem RowG.ownA {w : World} {base : Nat} {v : Value} {es : List EnG} (h : RowG w base v es) {ws : List Wr} (hw : es.map (·.x) = ws) : ∃ a cap n, v = .slice a n cap ∧ ws.length = n ∧ OwnA w base w.heap.size a ws (gammaG es) := by
  obtain ⟨a, cap, h1, h2⟩ := h.form
  subst hw
  refine ⟨a, cap, es.length, h1, by simp, ?_⟩
  rcases h2 with h2 | ⟨b, rfl, h2⟩
  · exact .inl (by simp [h2])
  · exact h2.ownA

theorem OwnA.below {w w' : World} {lo hi : Nat} {a : Option Addr} {ws : List Wr} {γ : Nat → Nat} (h : OwnA w lo hi a ws γ) (hb : Below w.heap.size w w') : OwnA w' lo hi a ws γ := by
  rcases h with h | ⟨b, h1, h2, h3⟩
  · exact .inl h
  · exact .inr ⟨b, h1, h2.below hb, h3⟩

theorem OwnG.only {w w' : World} {S : Nat → Prop} {base b : Nat} {ws : List Wr} {γ : Nat → Nat} (h : OwnG w base b ws γ) (ho : Only S w w') (hS : ∀ x, S x → x < base) : OwnG w' base b ws γ where
  lt := by rw [ho.size]; exact h.lt
  le := h.le
  open_ := fun o => (ho.frozen _).trans (h.open_ o)
  at_ := fun i hi => by
    obtain ⟨a, cap, h1, h2⟩ := h.at_ i hi
    exact ⟨a, cap, h1.of_block (ho.block b fun e => by have := hS b e; have := h.le; omega), h2⟩
  deps := fun i hi hp => by
    obtain ⟨h1, h2, h3, h4, h5⟩ := h.deps i hi hp
    have hb : w'.heap[γ i]? = w.heap[γ i]? := ho.block _ fun e => by have := hS _ e; omega
    have e' : ∀ o, w'.cell? ⟨γ i, o, none⟩ = w.cell? ⟨γ i, o, none⟩ := fun o => World.cell?_of_block (a := ⟨γ i, o, none⟩) hb
    exact ⟨h1, by rw [ho.size]; exact h2, h3, fun j hj => ⟨(e' _).trans (h4 j hj).1, (e' _).trans (h4 j hj).2.1, (e' _).trans (h4 j hj).2.2.1, (e' _).trans (h4 j hj).2.2.2⟩, fun o => (ho.frozen _).trans (h5 o)⟩
  inj := h.inj

theorem OwnA.only {w w' : World} {S : Nat → Prop} {lo hi : Nat} {a : Option Addr} {ws : List Wr} {γ : Nat → Nat} (h : OwnA w lo hi a ws γ) (ho : Only S w w') (hS : ∀ x, S x → x < lo) : OwnA w' lo hi a ws γ := by
  rcases h with h | ⟨b, h1, h2, h3⟩
  · exact .inl h
  · exact .inr ⟨b, h1, h2.only ho hS, h3⟩

theorem OwnA.isWs {w : World} {lo hi : Nat} {a : Option Addr} {ws : List Wr} {γ : Nat → Nat} (h : OwnA w lo hi a ws γ) (hx : Few ws) : IsWs w a ws := by
  rcases h with h | ⟨b, h1, h2, _⟩
  · exact .inl h
  · rw [h1]
    exact h2.isWs hx

/-- A list that is marked. -/
def MarkedA (w : World) (a : Option Addr) (ws : List Wr) (γ : Nat → Nat) (k : Int) : Prop :=
  ws = [] ∨ ∃ b, a = some ⟨b, 0, none⟩ ∧ MarkedWs w b ws γ k ∧ b < w.heap.size ∧ ∀ i, i < ws.length → 0 < (ws.getD i wz).xs.length → γ i < w.heap.size

theorem MarkedA.below {w w' : World} {a : Option Addr} {ws : List Wr} {γ : Nat → Nat} {k : Int} (h : MarkedA w a ws γ k) (hb : Below w.heap.size w w') : MarkedA w' a ws γ k := by
  rcases h with h | ⟨b, h1, h2, h3, h4⟩
  · exact .inl h
  · exact .inr ⟨b, h1, h2.below hb h3 h4, Nat.lt_of_lt_of_le h3 hb.size, fun i hi hp => Nat.lt_of_lt_of_le (h4 i hi hp) hb.size⟩

/-- The keys of dependencies that are right rise from 0 on: there are at most six. -/
theorem depsOk_len {xs : List Dp} (h : depsOkB xs = true) : xs.length ≤ 6 := by
  unfold depsOkB at h
  rw [List.all_eq_true] at h
  have hg : ∀ i, i < xs.length → (i : Int) ≤ (xs.getD i dz).k ∧ (xs.getD i dz).k ≤ 5 := by
    intro i
    induction i with
    | zero =>
      intro hi
      have := h 0 (List.mem_range.2 hi)
      unfold depGood btw at this
      simp only [Bool.and_eq_true, decide_eq_true_eq] at this
      exact ⟨by have := this.1.1; omega, this.1.2⟩
    | succ i ih =>
      intro hi
      have h1 := ih (by omega)
      have := h (i + 1) (List.mem_range.2 hi)
      unfold depGood btw at this
      simp only [Bool.and_eq_true, decide_eq_true_eq] at this
      rcases this.2.2 with h2 | h2
      · omega
      · rw [show i + 1 - 1 = i from rfl] at h2
        exact ⟨by omega, this.1.2⟩
  by_cases h7 : xs.length ≤ 6
  · exact h7
  · have := hg 6 (by omega)
    omega

theorem okW_len {x : Wr} (h : okW x = true) : x.xs.length ≤ 6 := by
  unfold okW writeOkB at h
  simp only [Bool.and_eq_true] at h
  exact depsOk_len h.2.2.2.1

theorem bulk_le {ws : List Wr} {m : Nat} (h : ∀ x ∈ ws, x.xs.length ≤ m) : bulk ws ≤ ws.length * m := by
  induction ws with
  | nil => simp [bulk]
  | cons x r ih =>
    have h1 := h x (by simp)
    have h2 := ih fun y hy => h y (by simp [hy])
    simp only [bulk, List.length_cons]
    rw [Nat.add_mul]
    omega

end Go.Proofs.YtidpcjcnhklmpabGreat

/- What fits, what is held: plain facts. -/
namespace Go.Proofs.YtidpcjcnhklmpabGreat
open Go.ChangeShapes Go.WideShapes Go.ChangeAt Go.RowKit Go.Joins

theorem those_mem (vs : List Wr) (st : Nat → Bool) (fit : Bool) : ∀ k, k ≤ vs.length → ∀ x ∈ thoseTo vs st fit k, x ∈ vs
  | 0, _, x, hx => by simp [thoseTo] at hx
  | k + 1, hk, x, hx => by
    unfold thoseTo at hx
    split at hx
    · rcases List.mem_append.1 hx with h | h
      · exact those_mem vs st fit k (by omega) x h
      · have : x = vs.getD k wz := by simpa using h
        rw [this]
        have e : vs.getD k wz = vs[k] := by simp [List.getD, show k < vs.length by omega]
        rw [e]
        exact List.getElem_mem (by omega)
    · exact those_mem vs st fit k (by omega) x hx

theorem bulk_app : ∀ (xs ys : List Wr), bulk (xs ++ ys) = bulk xs + bulk ys
  | [], ys => by simp [bulk]
  | x :: r, ys => by
    have ih := bulk_app r ys
    show x.xs.length + bulk (r ++ ys) = x.xs.length + bulk r + bulk ys
    omega

theorem those_bulk (vs : List Wr) (st : Nat → Bool) (fit : Bool) : ∀ k, k ≤ vs.length → bulk (thoseTo vs st fit k) ≤ bulk (vs.take k)
  | 0, _ => by simp [thoseTo, bulk]
  | k + 1, hk => by
    have ih := those_bulk vs st fit k (by omega)
    have e := bulk_take vs k (by omega)
    unfold thoseTo
    split
    · rw [bulk_app, e]
      have : bulk [vs.getD k wz] = (vs.getD k wz).xs.length := by simp [bulk]
      omega
    · omega

theorem fitL_mem {us vs : List Wr} {fit : Bool} {x : Wr} (h : x ∈ fitL us vs fit) : x ∈ vs := by
  unfold fitL at h
  cases hr : rightB us vs
  · rw [hr] at h
    simp at h
  · rw [hr] at h
    exact those_mem vs _ fit _ (Nat.le_refl _) x h

theorem fitL_len (us vs : List Wr) (fit : Bool) : (fitL us vs fit).length ≤ vs.length := by
  unfold fitL
  cases rightB us vs
  · exact Nat.zero_le _
  · exact those_len vs _ fit _

theorem fitL_bulk (us vs : List Wr) (fit : Bool) : bulk (fitL us vs fit) ≤ bulk vs := by
  unfold fitL
  cases rightB us vs
  · simp [bulk]
  · have := those_bulk vs (fixS us vs) fit vs.length (Nat.le_refl _)
    rw [List.take_of_length_le (Nat.le_refl _)] at this
    exact this

theorem fitL_few {us vs : List Wr} (hy : Few vs) (fit : Bool) : Few (fitL us vs fit) := fun i hi => by
  have hm : (fitL us vs fit).getD i wz ∈ fitL us vs fit := by
    have e : (fitL us vs fit).getD i wz = (fitL us vs fit)[i] := by simp [List.getD, hi]
    rw [e]
    exact List.getElem_mem hi
  obtain ⟨j, hj, e⟩ := List.mem_iff_getElem.1 (fitL_mem hm)
  have := hy j hj
  rw [← e]
  simpa [List.getD, hj] using this

set_option maxRecDepth 100000 in
theorem right_parts {us vs : List Wr} (h : rightB us vs = true) : Rise us ∧ (∀ x ∈ us, okW x = true) ∧ ∀ x ∈ vs, okW x = true := by
  unfold rightB at h
  rw [Bool.and_eq_true] at h
  exact ⟨((mapOk_iff us).1 h.1).2, ((mapOk_iff us).1 h.1).1, fun x hx => List.all_eq_true.1 h.2 x hx⟩

set_option maxRecDepth 100000 in
theorem fitL_right {us vs : List Wr} (h : rightB us vs = true) (fit : Bool) : fitL us vs fit = thoseTo vs (fixS us vs) fit vs.length := by
  unfold fitL
  rw [h]

set_option maxRecDepth 100000 in
theorem fitL_wrong {us vs : List Wr} (h : rightB us vs = false) (fit : Bool) : fitL us vs fit = [] := by
  unfold fitL
  rw [h]

end Go.Proofs.YtidpcjcnhklmpabGreat

/- The contract of spec.Widest. -/
namespace Go.Proofs.YtidpcjcnhklmpabGreat
open Go.ChangeShapes Go.WideShapes Go.ChangeAt Go.RowKit Go.Joins
attribute [local go_sem ↓] Go.wp_at_zero Go.wp_at_succ

/-- The map with all that fits put to it. -/
def widL (us vs : List Wr) : List Wr := match rightB us vs with
  | true => joinW us (fitL us vs true)
  | false => []

theorem widL_right {us vs : List Wr} (h : rightB us vs = true) : widL us vs = joinW us (fitL us vs true) := by
  unfold widL
  rw [h]

theorem widL_wrong {us vs : List Wr} (h : rightB us vs = false) : widL us vs = [] := by
  unfold widL
  rw [h]

theorem widL_mapOk (us vs : List Wr) : mapOkB (widL us vs) = true := by
  cases h : rightB us vs
  · rw [widL_wrong h]
    rfl
  · rw [widL_right h]
    obtain ⟨h1, h2, h3⟩ := right_parts h
    obtain ⟨j1, j2, -⟩ := join_spec (fitL us vs true) us h1
    refine (mapOk_iff _).2 ⟨fun x hx => ?_, j1⟩
    rcases j2 x hx with hx | hx
    · exact h2 x hx
    · exact h3 x (fitL_mem hx)

set_option maxRecDepth 100000 in
set_option maxHeartbeats 2000000 in
theorem specWidest_any (a b : Option Addr) (n m cap cap' : Nat) (us vs : List Wr) (w : World) (hn : us.length = n) (hm : vs.length = m) (hs : n + m ≤ 1048576) (hx : Few us) (hy : Few vs) (hi : IsWs w a us) (hj : IsWs w b vs) :
    Calls Tryz.prog 10 #[.slice a n cap, .slice b m cap'] w fun e w' => ∃ g cp es L, e = .returned (.slice (some ⟨g, 0, none⟩) L cp) ∧ es.length = L ∧ es.map (·.x) = widL us vs ∧ RowEs w' w.heap.size g cp es ∧ Below w.heap.size w w' := by
  have HI := Lib.hid hi
  have HJ := Lib.hid hj
  have HN := Lib.hid hn
  have HM := Lib.hid hm
  have HX := Lib.hid hx
  have HY := Lib.hid hy
  have HC := Lib.hid (l03Right_any a b n m cap cap' us vs w hn hm (by omega) (by omega) hx hy hi hj)
  clear hi hj hn hm hx hy
  cases hr : rightB us vs
  · have HF := Lib.hid (widL_wrong hr)
    rw [hr] at HC
    clear hr
    go_enter Tryz.func10, Tryz.ntmps10
    go_wp2_with fail
    refine HC.out.mono ?_
    rintro e w1 ⟨rfl, hb⟩
    have HB1 : Hid (Below w.heap.size w (w1.alloc (.cells #[] 35))) := hb.alloc hb.size _
    have HR1 : Hid (RowEs (w1.alloc (.cells #[] 35)) w.heap.size w1.heap.size 0 []) := rowEs_start w1 _ hb.size
    clear hb HC
    go_wp2
    go_ret
    exact ⟨_, _, [], 0, rfl, rfl, HF.out.symm, HR1.out, HB1.out⟩
  · have HF := Lib.hid (widL_right hr)
    rw [hr] at HC
    clear hr
    go_enter Tryz.func10, Tryz.ntmps10
    go_wp2_with fail
    refine HC.out.mono ?_
    rintro e w1 ⟨rfl, hb⟩
    have HB1 := Lib.hid hb
    clear hb HC
    go_wp2_with fail
    refine (specFitting_any a b n m cap cap' us vs _ HN.out HM.out hs HX.out HY.out (HI.out.below HB1.out) (HJ.out.below HB1.out)).mono ?_
    rintro e w2 ⟨g, cp, es, L, rfl, hl, he, hrow, hb⟩
    have HB2 := Lib.hid (below_step HB1.out HB1.out.size hb)
    have HFF := Lib.hid (fitL_few (us := us) HY.out true)
    have HFW : Hid (IsWs w2 (some ⟨g, 0, none⟩) (fitL us vs true)) := (hrow.holds he).isWs HFF.out
    have HFL : Hid ((fitL us vs true).length = L) := by
      rw [← he, List.length_map]
      exact hl
    have hLm : L ≤ m := by
      have := fitL_len us vs true
      rw [HFL.out, HM.out] at this
      exact this
    clear hb hl he hrow HB1
    go_wp2_with fail
    refine (l02Join_gen a _ n L cap cp us (fitL us vs true) _ HN.out HFL.out (by omega) HX.out HFF.out (HI.out.below HB2.out) HFW.out).mono ?_
    rintro e w3 ⟨g3, cp3, es3, L3, rfl, hl, he, hrow, hb⟩
    have HB3 := Lib.hid (below_step HB2.out HB2.out.size hb)
    have HA := Lib.hid (And.intro hl (And.intro (he.trans HF.out.symm) (hrow.mono HB2.out.size)))
    clear hl he hrow hb
    go_wp2
    go_ret
    exact ⟨g3, cp3, es3, L3, rfl, HA.out.1, HA.out.2.1, HA.out.2.2, HB3.out⟩

end Go.Proofs.YtidpcjcnhklmpabGreat

/- Contracts of impl.MapJoin and impl.MapPut. -/
namespace Go.Proofs.YtidpcjcnhklmpabGreat
open Go.ChangeShapes Go.WideShapes Go.ChangeAt Go.RowKit Go.Joins
attribute [local go_sem ↓] Go.wp_at_zero Go.wp_at_succ

def joinB (us vs : List Wr) : List Wr := if mapOkB us = true ∧ mapOkB vs = true then joinW us vs else []

set_option maxRecDepth 100000 in
theorem joinB_not {us vs : List Wr} (h : mapOkB us = false ∨ mapOkB vs = false) : joinB us vs = [] := by
  unfold joinB
  refine if_neg fun h' => ?_
  rcases h with h | h
  · rw [h'.1] at h; cases h
  · rw [h'.2] at h; cases h

set_option maxRecDepth 100000 in
theorem mapOk_keys {ws : List Wr} (h : mapOkB ws = true) : ∀ x ∈ ws, 0 ≤ x.k ∧ x.k ≤ 5 := fun x hx => okW_key (((mapOk_iff ws).1 h).1 x hx)

set_option maxRecDepth 100000 in
theorem mapOk_keys' {ws : List Wr} (h : mapOkB ws = true) : ∀ i, i < ws.length → 0 ≤ (ws.getD i wz).k ∧ (ws.getD i wz).k ≤ 5 := fun i hi => mapOk_keys h _ (by simp [List.getD, hi])

set_option maxRecDepth 100000 in
theorem joinB_told {us vs : List Wr} (ha : mapOkB us = true) (hb : mapOkB vs = true) : toldM (vs.foldl regPut (us.foldl regPut (fun _ => none))) = joinB us vs := by
  unfold joinB
  rw [if_pos ⟨ha, hb⟩]
  exact told_join ((mapOk_iff us).1 ha).2 (mapOk_keys ha) (mapOk_keys hb)

set_option maxRecDepth 100000 in
theorem implMapOk_is (r : Bool) (a : Option Addr) (n cap : Nat) (ws : List Wr) (h : mapOkB ws = r) (w : World) (hn : ws.length = n) (hm : n ≤ 1048576) (hx : Few ws) (hh : IsWs w a ws) :
    Calls Tryz.prog 36 #[.slice a n cap] w fun e w' => e = .returned (.bool r) ∧ Below w.heap.size w w' := by
  subst h
  exact implMapOk_any a n cap ws w hn hm hx hh

set_option maxRecDepth 100000 in
set_option maxHeartbeats 4000000 in
theorem implMapJoin_any (a b : Option Addr) (n m cap cap' : Nat) (us vs : List Wr) (w : World) (hn : us.length = n) (hm : vs.length = m) (hn1 : n ≤ 1048576) (hm1 : m ≤ 1048576) (hx : Few us) (hy : Few vs) (hi : IsWs w a us) (hj : IsWs w b vs) :
    Calls Tryz.prog 38 #[.slice a n cap, .slice b m cap'] w fun e w' => ∃ v es, e = .returned v ∧ es.map (·.x) = joinB us vs ∧ RowG w' w.heap.size v es ∧ Below w.heap.size w w' := by
  have HI : Hid (IsWs w a us) := hi
  have HJ : Hid (IsWs w b vs) := hj
  have HN : Hid (us.length = n) := hn
  have HM : Hid (vs.length = m) := hm
  have HX : Hid (Few us) := hx
  have HY : Hid (Few vs) := hy
  clear hi hj hn hm hx hy
  cases ha : mapOkB us
  · have HE : Hid (joinB us vs = []) := joinB_not (.inl ha)
    go_enter Tryz.func38, Tryz.ntmps38
    go_wp2_with fail
    refine (implMapOk_is false a n cap us ha _ HN.out hn1 HX.out HI.out).mono ?_
    rintro e w1 ⟨rfl, hb⟩
    have HB1 := Lib.hid hb
    clear hb
    go_wp2
    go_ret
    exact ⟨_, [], rfl, HE.out.symm, rowG_nil _ _, HB1.out⟩
  cases hb : mapOkB vs
  · have HE : Hid (joinB us vs = []) := joinB_not (.inr hb)
    go_enter Tryz.func38, Tryz.ntmps38
    go_wp2_with fail
    refine (implMapOk_is true a n cap us ha _ HN.out hn1 HX.out HI.out).mono ?_
    rintro e w1 ⟨rfl, hb1⟩
    have HB1 := Lib.hid hb1
    clear hb1
    go_wp2_with fail
    refine (implMapOk_is false b m cap' vs hb _ HM.out hm1 HY.out (HJ.out.below HB1.out)).mono ?_
    rintro e w2 ⟨rfl, hb2⟩
    have HB2 : Hid (Below w.heap.size w w2) := below_step HB1.out HB1.out.size hb2
    clear hb2
    go_wp2
    go_ret
    exact ⟨_, [], rfl, HE.out.symm, rowG_nil _ _, HB2.out⟩
  have HE : Hid (toldM (vs.foldl regPut (us.foldl regPut (fun _ => none))) = joinB us vs) := joinB_told ha hb
  have HKA : Hid (∀ i, i < us.length → 0 ≤ (us.getD i wz).k ∧ (us.getD i wz).k ≤ 5) := mapOk_keys' ha
  have HKB : Hid (∀ i, i < vs.length → 0 ≤ (vs.getD i wz).k ∧ (vs.getD i wz).k ≤ 5) := mapOk_keys' hb
  have hmm := @run_makeMap Tryz.prog
  go_enter Tryz.func38, Tryz.ntmps38
  go_wp2_with fail
  refine (implMapOk_is true a n cap us ha _ HN.out hn1 HX.out HI.out).mono ?_
  rintro e w1 ⟨rfl, hb1⟩
  have HB1 := Lib.hid hb1
  clear hb1
  go_wp2_with fail
  refine (implMapOk_is true b m cap' vs hb _ HM.out hm1 HY.out (HJ.out.below HB1.out)).mono ?_
  rintro e w2 ⟨rfl, hb2⟩
  have HB2 : Hid (Below w.heap.size w w2) := below_step HB1.out HB1.out.size hb2
  clear hb2 HB1
  go_wp2_with fail
  clear hmm
  have HB3 : Hid (Below w.heap.size w (w2.alloc (.map #[] 0))) := HB2.out.alloc HB2.out.size _
  refine (putAll_any w w2.heap.size 0 (fun _ => none) a n cap us _ HN.out hn1 (by omega) HX.out HKA.out HI.out HB3.out HB2.out.size ⟨_, regs_made w2, fun k => ⟨fun _ => rfl, fun x h => by cases h⟩⟩).mono ?_
  rintro e w4 ⟨rfl, hr4, hb4⟩
  have HR4 := Lib.hid hr4
  have HB4 := Lib.hid hb4
  clear hr4 hb4
  go_wp2_with fail
  refine (putAll_any w w2.heap.size (0 + n) _ b m cap' vs _ HM.out hm1 (by omega) HY.out HKB.out HJ.out HB4.out HB2.out.size HR4.out).mono ?_
  rintro e w5 ⟨rfl, hr5, hb5⟩
  have HR5 := Lib.hid hr5
  have HB5 := Lib.hid hb5
  clear hr5 hb5
  go_wp2_with fail
  refine (told_any w w2.heap.size _ _ _ HB5.out HR5.out).mono ?_
  rintro e w6 ⟨v, es, rfl, hes, hrow, hb6⟩
  have HES : Hid (es.map (·.x) = joinB us vs) := hes.trans HE.out
  have HRW := Lib.hid (hrow.mono HB5.out.size)
  have HB6 : Hid (Below w.heap.size w w6) := below_step HB5.out HB5.out.size hb6
  clear hes hrow hb6
  go_wp2
  go_ret
  exact ⟨v, es, rfl, HES.out, HRW.out, HB6.out⟩

set_option maxRecDepth 100000 in
theorem mapOk_one (x : Wr) : mapOkB [x] = okW x := by
  simp [mapOkB, wrGood, List.range, List.range.loop]

set_option maxRecDepth 100000 in
theorem joinB_one (ws : List Wr) (x : Wr) : joinB ws [x] = if mapOkB ws = true ∧ okW x = true then putW ws x else [] := by
  unfold joinB
  rw [mapOk_one]
  rfl

end Go.Proofs.YtidpcjcnhklmpabGreat

/- Contracts of the specification's MapJoin and MapPut. -/
namespace Go.Proofs.YtidpcjcnhklmpabGreat
open Go.ChangeShapes Go.WideShapes Go.ChangeAt Go.RowKit Go.Joins
attribute [local go_sem ↓] Go.wp_at_zero Go.wp_at_succ

theorem specMapOk_is (r : Bool) (a : Option Addr) (n cap : Nat) (ws : List Wr) (h : mapOkB ws = r) (w : World) (hn : ws.length = n) (hm : n ≤ 1048576) (hx : Few ws) (hh : IsWs w a ws) :
    Calls Tryz.prog 13 #[.slice a n cap] w fun e w' => e = .returned (.bool r) ∧ Below w.heap.size w w' := by
  subst h
  exact specMapOk_gen a n cap ws w hn hm hx hh

/-- What the specification answers: a list of writes of its own. -/
def AnsS (w w' : World) (e : Ending) (ws : List Wr) : Prop := ∃ g cp es L, e = .returned (.slice (some ⟨g, 0, none⟩) L cp) ∧ es.length = L ∧ es.map (·.x) = ws ∧ RowEs w' w.heap.size g cp es ∧ Below w.heap.size w w'

theorem specWriteOk_is (x : Wr) (r : Bool) (h : okW x = r) (a : Option Addr) (cap : Nat) (w : World) (hn : x.xs.length ≤ 1048576) (hh : IsDeps w a x.xs) :
    Calls Tryz.prog 32 #[wrOf x a cap] w fun e w' => e = .returned (.bool r) ∧ Below w.heap.size w w' := by
  subst h
  exact specWriteOk_gen _ _ _ _ _ _ a x.xs _ cap w rfl hn hh

end Go.Proofs.YtidpcjcnhklmpabGreat

/- How much a join is. -/
namespace Go.Proofs.YtidpcjcnhklmpabGreat
open Go.ChangeShapes Go.WideShapes Go.ChangeAt Go.RowKit Go.Joins

theorem joinB_ok (us vs : List Wr) : ∀ x ∈ joinB us vs, okW x = true := by
  intro x hx
  unfold joinB at hx
  split at hx
  · rename_i h
    obtain ⟨_, h2, _⟩ := join_spec vs us ((mapOk_iff us).1 h.1).2
    rcases h2 x hx with h3 | h3
    · exact ((mapOk_iff us).1 h.1).1 x h3
    · exact ((mapOk_iff vs).1 h.2).1 x h3
  · simp at hx

theorem joinB_rise (us vs : List Wr) : Rise (joinB us vs) := by
  unfold joinB
  split
  · rename_i h
    exact (join_spec vs us ((mapOk_iff us).1 h.1).2).1
  · exact List.Pairwise.nil

theorem joinB_mapOk (us vs : List Wr) : mapOkB (joinB us vs) = true := (mapOk_iff _).2 ⟨joinB_ok us vs, joinB_rise us vs⟩

theorem mapOk_len {ws : List Wr} (h : mapOkB ws = true) : ws.length ≤ 6 := by
  have e := told_find ((mapOk_iff ws).1 h).2 (mapOk_keys h)
  rw [← e, ← toldTo_six]
  exact toldTo_len _ 6

theorem mapOk_bulk {ws : List Wr} (h : mapOkB ws = true) : bulk ws ≤ 36 := by
  have h1 := bulk_le (m := 6) fun x hx => okW_len (((mapOk_iff ws).1 h).1 x hx)
  have h2 := mapOk_len h
  omega

theorem joinB_bulk (us vs : List Wr) : bulk (joinB us vs) ≤ 36 := mapOk_bulk (joinB_mapOk us vs)

theorem joinB_len (us vs : List Wr) : (joinB us vs).length ≤ 6 := mapOk_len (joinB_mapOk us vs)

theorem joinB_few (us vs : List Wr) : Few (joinB us vs) := few_of_bulk (by have := joinB_bulk us vs; omega)

/-- The specification's answer, as a list. -/
theorem RowEs.isWs {w : World} {base g cap : Nat} {es : List En} (h : RowEs w base g cap es) {ws : List Wr} (hw : es.map (·.x) = ws) (hx : Few ws) : IsWs w (some ⟨g, 0, none⟩) ws := (h.holds hw).isWs hx

end Go.Proofs.YtidpcjcnhklmpabGreat

/- The contracts of the cursor's some and cut, and of the draws of cuts. -/
namespace Go.Proofs.YtidpcjcnhklmpabGreat
open Go.ChangeShapes Go.WideShapes Go.ChangeAt Go.RowKit Go.Joins
attribute [local go_sem ↓] Go.wp_at_zero Go.wp_at_succ

set_option maxRecDepth 100000 in
set_option maxHeartbeats 8000000 in
theorem some_any (B : Nat) (a : Option Addr) (len cap : Nat) (N : Int) (ag : Option Addr) (n cg base : Nat) (es : List EnG) (w : World) (hN : N ≤ 1500) (h : Cur w B a len cap N) (hr : RowG w base (.slice ag n cg) es) (hBb : B < base) (hn : es.length = n) (hn10 : n ≤ 10) (hn0 : 0 < n) (hf : ∀ d ∈ es, d.x.xs.length ≤ 10) :
    Calls Tryz.prog 21 #[.pointer (some ⟨B, 0, none⟩), .slice ag n cg] w fun e w' => ∃ g cp es2 L, e = .returned (.slice (some ⟨g, 0, none⟩) L cp) ∧ es2.length = L ∧ L ≤ 7 ∧ (∀ d ∈ es2, d.x.xs.length ≤ 10) ∧ RowEs w' w.heap.size g cp es2 ∧ Cur w' B a len cap (N + 100) ∧ Hole B w w' := by
  have hB := h.lt
  have HS : Hid (RowG w base (.slice ag n cg) es) := hr
  have HFS := Lib.hid hf
  have HN := Lib.hid hn
  obtain ⟨i0, hi0, hx0⟩ := Option.map_eq_some_iff.1 infoWr
  simp only [Prod.mk.injEq] at hx0
  have HI0 := Lib.hid hi0
  have HX0 := Lib.hid hx0
  clear hi0 hx0
  have HB0 : Hid (Below w.heap.size w (w.alloc (.cells #[] 35))) := (Below.refl _ _).alloc (Nat.le_refl _) _
  have HR0 : Hid (RowEs (w.alloc (.cells #[] 35)) w.heap.size w.heap.size 0 []) := rowEs_start w _ (Nat.le_refl _)
  have HC0 := Lib.hid (h.below HB0.out)
  have HFX : Hid (Few (es.map (·.x))) := few_iff.2 fun y hy => by
    obtain ⟨d, hd, rfl⟩ := List.mem_map.1 hy
    have := HFS.out d hd
    omega
  clear h hr hf hn
  go_enter Tryz.func21, Tryz.ntmps21
  go_wp2_with fail
  refine (size_any B a len cap _ 6 _ (by omega) (by omega) (by omega) HC0.out).mono ?_
  rintro e w1 ⟨r1, rfl, r10, r11, hc1, hh1⟩
  have HC1 : Hid (Cur w1 B a len cap (N + 10 - r1)) := hc1.more (by omega)
  have HH1 := Lib.hid ((Hole.of_below HB0.out).trans hh1)
  have HR1 := Lib.hid (HR0.out.hole hh1 hB)
  clear hc1 hh1 HC0 HR0 HB0
  go_wp2
  go_loopw [5, 6] (fun t i wr => ∃ (L g cp : Nat) (z : Int) (es2 : List En), 0 ≤ z ∧ z ≤ 6 ∧ (L : Int) + z ≤ 6 ∧ i = .int .i64 z ∧ t = .slice (some ⟨g, 0, none⟩) L cp ∧ Hid (es2.length = L) ∧ Hid (∀ d ∈ es2, d.x.xs.length ≤ 10) ∧ Hid (RowEs wr w.heap.size g cp es2) ∧ Hid (Cur wr B a len cap (N + 10 - z)) ∧ Hid (Hole B w wr)) (fun _ i _ => (intOf i).toNat)
  case atStart => exact ⟨0, w.heap.size, 0, r1, [], r10, r11, by omega, rfl, rfl, rfl, fun d hd => by simp at hd, HR1, HC1, HH1⟩
  case round =>
    clear HR1 HC1 HH1 r10 r11
    obtain ⟨L, g, cp, z, es2, hz0, hz6, hLz, rfl, rfl, HL, HF, HR, HC, HH⟩ := hrel
    by_cases hz' : 0 < z
    · go_wp2_with fail
      refine (pick_len B a len cap _ n _ (by omega) (by omega) (by omega) HC.out).mono ?_
      rintro e w5 ⟨r5, rfl, hr5, hc5, hh5⟩
      have HC5 : Hid (Cur w5 B a len cap (N + 10 - (z - 1))) := hc5.more (by omega)
      have HH5 := Lib.hid (HH.out.trans hh5)
      have HR5 := Lib.hid (HR.out.hole hh5 hB)
      clear hc5 hh5 HC HR HH
      obtain ⟨bb, oo, ad, cq, rfl, hz, ⟨e0, e1, e2, e3, e4, e5, e6⟩, hd⟩ := ((HS.out.hole HH5.out hBb).isWs HFX.out).at (Below.refl _ _) (n := n) (by rw [List.length_map, HN.out]) hr5
      have hxl : ((es.map (·.x)).getD r5 wz).xs.length ≤ 10 := by
        obtain ⟨d, hd, h1⟩ := List.mem_map.1 (getD_mem (ws := es.map (·.x)) (p := r5) (by rw [List.length_map, HN.out]; exact hr5))
        rw [← h1]
        exact HFS.out d hd
      have i4 : (0 : Int) ≤ (r5 : Int) := by omega
      have i5 : (r5 : Int) < (n : Int) := by omega
      have HD := Lib.hid hd
      clear hd
      generalize (es.map (·.x)).getD r5 wz = x at *
      obtain ⟨xk, xc, xs', xq, xv, xd, xx⟩ := x
      simp only at e0 e1 e2 e3 e4 e5 e6 hxl HD
      go_wp2_with fail
      refine (copy_any ⟨xk, xc, xs', xq, xv, xd, xx⟩ _ _ _ (by show xx.length ≤ 1048576; omega) HD.out).mono ?_
      rintro e w7 ⟨g7, cp7, rfl, hg7, hg7', hd7, hb⟩
      have HC7 := Lib.hid (HC5.out.below hb)
      have HH7 := Lib.hid (HH5.out.trans (Hole.of_below hb))
      have HR7 := Lib.hid (HR5.out.below hb)
      have HD7 := Lib.hid hd7
      have hgg : g7 ≠ g := by have := HR5.out.lt; omega
      have hgl : w.heap.size ≤ g7 := Nat.le_trans HH5.out.size hg7
      clear hb hd7 HC5 HR5 HH5 HD
      have HBA : Hid (Below w7.heap.size w7 (w7.alloc (.cells #[.int .i64 xk, .int .i64 xc, .int .i64 xs', .int .i64 xq, .int .i64 xv, .bool xd, .slice (some ⟨g7, 0, none⟩) xx.length cp7] 35))) := (Below.refl _ _).alloc (Nat.le_refl _) _
      have HW := Lib.hid (HR7.out.below HBA.out)
      have HOW : Hid ((w7.alloc (.cells #[.int .i64 xk, .int .i64 xc, .int .i64 xs', .int .i64 xq, .int .i64 xv, .bool xd, .slice (some ⟨g7, 0, none⟩) xx.length cp7] 35)).ownsRow w.heap.size 35 7 (.slice (some ⟨g, 0, none⟩) L cp) L (es2.flatMap wrVals)) := by
        have := HW.out.own
        rw [HL.out] at this
        exact this
      have hsz : w.heap.size ≤ w7.heap.size := HH7.out.size
      have HCA := Lib.hid (HC7.out.below HBA.out)
      have HHA := Lib.hid (HH7.out.trans (Hole.of_below HBA.out))
      go_wp2_with (at_builtin; refine wpList_append_lies _ (by rfl) _ _ _ (by rfl) w.heap.size 35 i0 (wrV 0 0 0 0 0 false none 0 0) 7 72 Tryz.underlying24 HI0.out HX0.out.1 HX0.out.2.1 HX0.out.2.2 (by rfl) (by omega) (.slice (some ⟨g, 0, none⟩) L cp) L (es2.flatMap wrVals) (by rfl) HOW.out ⟨w7.heap.size, 0, none⟩ 1 1 (wrVals ⟨⟨xk, xc, xs', xq, xv, xd, xx⟩, g7, cp7⟩) (by rfl) (by rfl) (one_cells w7 _ ⟨⟨xk, xc, xs', xq, xv, xd, xx⟩, g7, cp7⟩) (by simpa using vals_one [⟨⟨xk, xc, xs', xq, xv, xd, xx⟩, g7, cp7⟩]) (by omega) (by unfold maxLen; omega) (by omega) (by simp; omega) _ rfl ?_; intro g3 cp3 W5 hown hgrow hg3 _; refine Hid.out ?_)
      refine Lib.hid ?_
      have HR8 : Hid (RowEs W5 w.heap.size g3 cp3 (es2 ++ [⟨⟨xk, xc, xs', xq, xv, xd, xx⟩, g7, cp7⟩])) := by
        refine HW.out.more ⟨hgl, by simp; omega, hgg, HD7.out.below HBA.out hg7'⟩ (by rw [HL.out]; exact hown) hgrow hg3
      have hgw : w.heap.size ≤ g := HR7.out.le
      have HC8 : Hid (Cur W5 B a len cap (N + 10 - (z - 1))) := HCA.out.stay hgrow.size fun b hb => hgrow.block b (Nat.lt_of_le_of_lt hb HCA.out.lt) (by simp [Value.ownBlock]; omega)
      have HH8 : Hid (Hole B w W5) := ⟨hgrow.os.trans HHA.out.os, hgrow.tape.trans HHA.out.tape, hgrow.output.trans HHA.out.output, Nat.le_trans HHA.out.size hgrow.size, fun b hb hne => (hgrow.block b (Nat.lt_of_lt_of_le hb HHA.out.size) (by simp [Value.ownBlock]; omega)).trans (HHA.out.block b hb hne)⟩
      have HF8 : Hid (∀ d ∈ es2 ++ [(⟨⟨xk, xc, xs', xq, xv, xd, xx⟩, g7, cp7⟩ : En)], d.x.xs.length ≤ 10) := fun d hd => by
        rcases List.mem_append.1 hd with hd | hd
        · exact HF.out d hd
        · have hd : d = ⟨⟨xk, xc, xs', xq, xv, xd, xx⟩, g7, cp7⟩ := by simpa using hd
          subst hd
          exact hxl
      have HL8 : Hid ((es2 ++ [(⟨⟨xk, xc, xs', xq, xv, xd, xx⟩, g7, cp7⟩ : En)]).length = L + 1) := by
        rw [List.length_append, HL.out]
        exact Lib.hid rfl
      clear hown hgrow HW HOW HCA HHA HBA HL HF
      go_wp2
      exact ⟨⟨L + 1, g3, cp3, z - 1, _, by omega, by omega, by push_cast; omega, rfl, rfl, HL8, HF8, HR8, HC8, HH8⟩, by simp [intOf]; omega⟩
    · have hzz : z = 0 := by omega
      subst hzz
      clear HS HFX HFS
      go_wp2_with fail
      refine (once_any B a len cap _ 14 _ (by omega) (by omega) (by omega) HC.out).mono ?_
      rintro e w5 ⟨r5, rfl, hc5, hh5⟩
      have HC5 := Lib.hid hc5
      have HH5 := Lib.hid (HH.out.trans hh5)
      have HR5 := Lib.hid (HR.out.hole hh5 hB)
      clear hc5 hh5 HC HR HH
      cases r5
      · go_wp2
        go_ret
        exact ⟨g, cp, es2, L, rfl, HL.out, by omega, HF.out, HR5.out, HC5.out.more (by omega), HH5.out⟩
      · go_wp2_with fail
        refine (write_any B a len cap _ _ (by omega) HC5.out).mono ?_
        rintro e w7 ⟨k7, c7, s7, q7, v7, de7, g7, cp7, ds7, rfl, hl7, hg7, hg7', hd7, hc7, hh7⟩
        have HC7 := Lib.hid hc7
        have HH7 := Lib.hid (HH5.out.trans hh7)
        have HR7 := Lib.hid (HR5.out.hole hh7 hB)
        have HD7 := Lib.hid hd7
        have hgg : g7 ≠ g := by have := HR5.out.lt; omega
        have hgl : w.heap.size ≤ g7 := Nat.le_trans HH5.out.size hg7
        clear hc7 hh7 hd7 HC5 HR5 HH5
        have HBA : Hid (Below w7.heap.size w7 (w7.alloc (.cells #[.int .i64 k7, .int .i64 c7, .int .i64 s7, .int .i64 q7, .int .i64 v7, .bool de7, .slice (some ⟨g7, 0, none⟩) ds7.length cp7] 35))) := (Below.refl _ _).alloc (Nat.le_refl _) _
        have HW := Lib.hid (HR7.out.below HBA.out)
        have HOW : Hid ((w7.alloc (.cells #[.int .i64 k7, .int .i64 c7, .int .i64 s7, .int .i64 q7, .int .i64 v7, .bool de7, .slice (some ⟨g7, 0, none⟩) ds7.length cp7] 35)).ownsRow w.heap.size 35 7 (.slice (some ⟨g, 0, none⟩) L cp) L (es2.flatMap wrVals)) := by
          have := HW.out.own
          rw [HL.out] at this
          exact this
        have hsz : w.heap.size ≤ w7.heap.size := HH7.out.size
        have HCA := Lib.hid (HC7.out.below HBA.out)
        have HHA := Lib.hid (HH7.out.trans (Hole.of_below HBA.out))
        go_wp2_with (at_builtin; refine wpList_append_lies _ (by rfl) _ _ _ (by rfl) w.heap.size 35 i0 (wrV 0 0 0 0 0 false none 0 0) 7 72 Tryz.underlying24 HI0.out HX0.out.1 HX0.out.2.1 HX0.out.2.2 (by rfl) (by omega) (.slice (some ⟨g, 0, none⟩) L cp) L (es2.flatMap wrVals) (by rfl) HOW.out ⟨w7.heap.size, 0, none⟩ 1 1 (wrVals ⟨⟨k7, c7, s7, q7, v7, de7, ds7⟩, g7, cp7⟩) (by rfl) (by rfl) (one_cells w7 _ ⟨⟨k7, c7, s7, q7, v7, de7, ds7⟩, g7, cp7⟩) (by simpa using vals_one [⟨⟨k7, c7, s7, q7, v7, de7, ds7⟩, g7, cp7⟩]) (by omega) (by unfold maxLen; omega) (by omega) (by simp; omega) _ rfl ?_; intro g3 cp3 W5 hown hgrow hg3 _; refine Hid.out ?_)
        refine Lib.hid ?_
        have HR8 : Hid (RowEs W5 w.heap.size g3 cp3 (es2 ++ [⟨⟨k7, c7, s7, q7, v7, de7, ds7⟩, g7, cp7⟩])) := by
          refine HW.out.more ⟨hgl, by simp; omega, hgg, HD7.out.below HBA.out hg7'⟩ (by rw [HL.out]; exact hown) hgrow hg3
        have hgw : w.heap.size ≤ g := HR7.out.le
        have HC8 : Hid (Cur W5 B a len cap (N + 100)) := (HCA.out.stay hgrow.size fun b hb => hgrow.block b (Nat.lt_of_le_of_lt hb HCA.out.lt) (by simp [Value.ownBlock]; omega)).more (by omega)
        have HH8 : Hid (Hole B w W5) := ⟨hgrow.os.trans HHA.out.os, hgrow.tape.trans HHA.out.tape, hgrow.output.trans HHA.out.output, Nat.le_trans HHA.out.size hgrow.size, fun b hb hne => (hgrow.block b (Nat.lt_of_lt_of_le hb HHA.out.size) (by simp [Value.ownBlock]; omega)).trans (HHA.out.block b hb hne)⟩
        have HF8 : Hid (∀ d ∈ es2 ++ [(⟨⟨k7, c7, s7, q7, v7, de7, ds7⟩, g7, cp7⟩ : En)], d.x.xs.length ≤ 10) := fun d hd => by
          rcases List.mem_append.1 hd with hd | hd
          · exact HF.out d hd
          · have hd : d = ⟨⟨k7, c7, s7, q7, v7, de7, ds7⟩, g7, cp7⟩ := by simpa using hd
            subst hd
            show ds7.length ≤ 10
            omega
        clear hown hgrow HW HOW HCA HHA HBA
        go_wp2
        go_ret
        exact ⟨g3, cp3, _, L + 1, rfl, by rw [List.length_append, HL.out]; rfl, by omega, HF8.out, HR8.out, HC8.out, HH8.out⟩

theorem joinW_mem_wid {us vs : List Wr} {x : Wr} (h : x ∈ joinW us (fitL us vs true)) : x ∈ us ∨ x ∈ vs := by
  rcases joinW_mem _ _ _ h with h | h
  · exact .inl h
  · exact .inr (fitL_mem h)

theorem widL_mem {us vs : List Wr} {x : Wr} (h : x ∈ widL us vs) : x ∈ us ∨ x ∈ vs := by
  unfold widL at h
  cases hr : rightB us vs
  · rw [hr] at h
    simp at h
  · rw [hr] at h
    exact joinW_mem_wid h

set_option maxRecDepth 100000 in
set_option maxHeartbeats 4000000 in
theorem cut_any (B : Nat) (a : Option Addr) (len cap : Nat) (N : Int) (ag : Option Addr) (n cg base : Nat) (es : List EnG) (w : World) (hN : N ≤ 1000) (h : Cur w B a len cap N) (hr : RowG w base (.slice ag n cg) es) (hBb : B < base) (hn : es.length = n) (hn10 : n ≤ 10) (hn0 : 0 < n) (hf : ∀ d ∈ es, d.x.xs.length ≤ 10) :
    Calls Tryz.prog 20 #[.pointer (some ⟨B, 0, none⟩), .slice ag n cg] w fun e w' => ∃ g cp es2 L, e = .returned (.slice (some ⟨g, 0, none⟩) L cp) ∧ es2.length = L ∧ L ≤ 11 ∧ (∀ d ∈ es2, d.x.xs.length ≤ 10) ∧ RowEs w' w.heap.size g cp es2 ∧ Cur w' B a len cap (N + 200) ∧ Hole B w w' := by
  have hB := h.lt
  have HC := Lib.hid h
  have HS : Hid (RowG w base (.slice ag n cg) es) := hr
  have HFS := Lib.hid hf
  have HN := Lib.hid hn
  clear h hr hf hn
  go_enter Tryz.func20, Tryz.ntmps20
  go_wp2_with fail
  refine (pick_any B a len cap _ 4 _ (by omega) (by omega) (by omega) HC.out).mono ?_
  rintro e w1 ⟨r1, rfl, r10, r11, hc1, hh1⟩
  have HC1 := Lib.hid hc1
  have HH1 := Lib.hid hh1
  have HS1 := Lib.hid (HS.out.hole hh1 hBb)
  clear hc1 hh1 HC HS
  by_cases hr1 : r1 = 0
  · subst hr1
    go_wp2_with fail
    refine (amap_any B a len cap _ ag n cg base es _ (by omega) HC1.out HS1.out hBb HN.out hn10 HFS.out).mono ?_
    rintro e w2 ⟨g2, cp2, es2, L2, rfl, hl2, hL2, hf2, hr2, hc2, hh2⟩
    have HA := Lib.hid (And.intro hl2 (And.intro hf2 (And.intro (hr2.mono (base' := w.heap.size) HH1.out.size) (And.intro (hc2.more (M := N + 200) (by omega)) (HH1.out.trans hh2)))))
    clear hl2 hf2 hr2 hc2 hh2
    go_wp2
    go_ret
    exact ⟨g2, cp2, es2, L2, rfl, HA.out.1, hL2, HA.out.2.1, HA.out.2.2.1, HA.out.2.2.2.1, HA.out.2.2.2.2⟩
  · have HBA : Hid (Below w1.heap.size w1 (w1.alloc (.cells #[] 35))) := (Below.refl _ _).alloc (Nat.le_refl _) _
    have HC2 := Lib.hid (HC1.out.below HBA.out)
    have HS2 := Lib.hid (HS1.out.below HBA.out)
    have HH2 := Lib.hid (HH1.out.trans (Hole.of_below HBA.out))
    clear HC1 HS1
    go_wp2_with fail
    refine (some_any B a len cap _ ag n cg base es _ (by omega) HC2.out HS2.out hBb HN.out hn10 hn0 HFS.out).mono ?_
    rintro e w3 ⟨g3, cp3, es3, L3, rfl, hl3, hL3, hf3, hr3, hc3, hh3⟩
    have HF3 := Lib.hid hf3
    have HR3 := Lib.hid hr3
    have HC3 := Lib.hid hc3
    have HH3 := Lib.hid (HH2.out.trans hh3)
    have HL3 := Lib.hid hl3
    have HX3 : Hid (Few (es3.map (·.x))) := few_of hf3
    have HML : Hid ((es3.map (·.x)).length = L3) := by
      rw [List.length_map]
      exact hl3
    clear hf3 hr3 hc3 hh3 hl3 HC2 HS2 HH2 HBA
    have HW3 := Lib.hid ((HR3.out.holds (ws := es3.map (·.x)) rfl).isWs HX3.out)
    go_wp2_with fail
    refine (specWidest_any _ _ 0 L3 0 cp3 [] (es3.map (·.x)) _ rfl HML.out (by omega) (fun i hi => by simp at hi) HX3.out (.inl rfl) HW3.out).mono ?_
    rintro e w4 ⟨g4, cp4, es4, L4, rfl, hl4, he4, hr4, hb⟩
    have hL4 : L4 ≤ 11 := by
      have h1 := mapOk_len (widL_mapOk [] (es3.map (·.x)))
      rw [← he4, List.length_map, hl4] at h1
      omega
    have HF4 : Hid (∀ d ∈ es4, d.x.xs.length ≤ 10) := fun d hd => by
      have h1 : d.x ∈ widL [] (es3.map (·.x)) := by
        rw [← he4]
        exact List.mem_map.2 ⟨d, hd, rfl⟩
      rcases widL_mem h1 with h2 | h2
      · simp at h2
      · obtain ⟨y, hy, e⟩ := List.mem_map.1 h2
        rw [← e]
        exact HF3.out y hy
    have HR4 := Lib.hid (hr4.mono (base' := w.heap.size) HH3.out.size)
    have HC4 : Hid (Cur w4 B a len cap (N + 200)) := (HC3.out.below hb).more (by omega)
    have HH4 := Lib.hid (HH3.out.trans (Hole.of_below hb))
    have HL4 := Lib.hid hl4
    clear hl4 he4 hr4 hb HR3 HC3 HH3 HW3
    go_wp2
    go_ret
    exact ⟨g4, cp4, es4, L4, rfl, HL4.out, hL4, HF4.out, HR4.out, HC4.out, HH4.out⟩

set_option maxHeartbeats 4000000 in
theorem drawWidest_any (a : Option Addr) (len cap : Nat) (w : World) (h : Bytes w a len) (hl : len ≤ 1048576) :
    Calls Tryz.prog 5 #[.slice a len cap] w fun e w' => ∃ v1 v2 es1 es2, e = .returned (.tuple #[v1, v2]) ∧ DrawnM w' w.heap.size v1 es1 ∧ DrawnM w' w.heap.size v2 es2 ∧ Below w.heap.size w w' := by
  have HO := Lib.hid (open_any a len cap w h hl)
  clear h
  go_enter Tryz.func5, Tryz.ntmps5
  go_wp2_with fail
  refine HO.out.mono ?_
  rintro e w1 ⟨rfl, hc1, hb1⟩
  have HC1 := Lib.hid hc1
  have HB1 := Lib.hid hb1
  have hlt1 := hc1.lt
  clear hc1 hb1 HO
  go_wp2_with fail
  refine (story_any w.heap.size a len cap 0 _ (by omega) HC1.out).mono ?_
  rintro e w2 ⟨v, es, rfl, hl1, hl2, hf, hr, hc2, hh2⟩
  obtain ⟨ag, cg, hv, -⟩ := hr.form
  subst hv
  have HF := Lib.hid hf
  have HR2 := Lib.hid hr
  have HC2 := Lib.hid hc2
  have HH2 := Lib.hid hh2
  have hs2 : w1.heap.size ≤ w2.heap.size := HH2.out.size
  clear hf hr hc2 hh2 HC1
  go_wp2_with fail
  refine (cut_any w.heap.size a len cap _ ag es.length cg w1.heap.size es _ (by omega) HC2.out HR2.out hlt1 rfl hl1 hl2 HF.out).mono ?_
  rintro e w3 ⟨g3, cp3, es3, L3, rfl, rfl, hL3, hf3, hr3, hc3, hh3⟩
  have HF3 := Lib.hid hf3
  have HR3 := Lib.hid hr3
  have HC3 := Lib.hid hc3
  have HH3 := Lib.hid hh3
  have HRS := Lib.hid (HR2.out.hole hh3 hlt1)
  clear hf3 hr3 hc3 hh3 HC2 HR2
  go_wp2_with fail
  refine (some_any w.heap.size a len cap _ ag es.length cg w1.heap.size es _ (by omega) HC3.out HRS.out hlt1 rfl hl1 hl2 HF.out).mono ?_
  rintro e w4 ⟨g4, cp4, es4, L4, rfl, rfl, hL4, hf4, hr4, hc4, hh4⟩
  have hs3 : w2.heap.size ≤ w3.heap.size := HH3.out.size
  have HR5 := Lib.hid ((HR3.out.hole hh4 (by omega)).mono (base' := w.heap.size) (by omega))
  have HR4 := Lib.hid (hr4.mono (base' := w.heap.size) (by omega))
  have HF4 := Lib.hid hf4
  have HB4 : Hid (Below w.heap.size w w4) := Hole.below HB1.out ((HH2.out.trans HH3.out).trans hh4) (Nat.le_refl _) HB1.out.size
  clear hr4 hc4 hh4 hf4 HR3 HC3
  go_wp2
  exact bodyPost_ret (v := .tuple #[.slice (some ⟨g3, 0, none⟩) es3.length cp3, .slice (some ⟨g4, 0, none⟩) es4.length cp4]) (by simp [results, Tryz.results5, go_sem]) rfl ⟨_, _, es3, es4, rfl, ⟨g3, cp3, rfl, by omega, HF3.out, HR5.out⟩, ⟨g4, cp4, rfl, by omega, HF4.out, HR4.out⟩, HB4.out⟩

end Go.Proofs.YtidpcjcnhklmpabGreat

/- Contracts of Within of both sides. -/
namespace Go.Proofs.YtidpcjcnhklmpabGreat
open Go.ChangeShapes Go.WideShapes Go.ChangeAt Go.RowKit Go.Joins
attribute [local go_sem ↓] Go.wp_at_zero Go.wp_at_succ

/-- Two lists of writes are the same. -/
def sameB (us vs : List Wr) : Bool := decide (us.length = vs.length) && (List.range us.length).all fun i => decide (cmpW (us.getD i wz) (vs.getD i wz) = 0)

theorem same_len {us vs : List Wr} (h : us.length ≠ vs.length) : sameB us vs = false := by
  unfold sameB
  rw [decide_eq_false h, Bool.false_and]

theorem same_false {us vs : List Wr} {i : Nat} (hi : i < us.length) (h : cmpW (us.getD i wz) (vs.getD i wz) ≠ 0) : sameB us vs = false := by
  unfold sameB
  rw [Bool.and_eq_false_iff]
  refine .inr ?_
  rw [List.all_eq_false]
  exact ⟨i, List.mem_range.2 hi, by simpa using h⟩

theorem same_true {us vs : List Wr} (hl : us.length = vs.length) (h : ∀ i, i < us.length → cmpW (us.getD i wz) (vs.getD i wz) = 0) : sameB us vs = true := by
  unfold sameB
  rw [decide_eq_true hl, Bool.true_and, List.all_eq_true]
  intro i hi
  exact decide_eq_true (h i (List.mem_range.1 hi))

set_option maxHeartbeats 1000000 in
theorem sameWrite_any (x y : Wr) (a a' : Option Addr) (cp cp' : Nat) (w : World) (hn : x.xs.length ≤ 1048576) (hm : y.xs.length ≤ 1048576) (hh : IsDeps w a x.xs) (hh' : IsDeps w a' y.xs) :
    Calls Tryz.prog 39 #[wrOf x a cp, wrOf y a' cp'] w fun e w' => e = .returned (.bool (cmpW x y == 0)) ∧ Below w.heap.size w w' := by
  obtain ⟨xk, xc, xs', xq, xv, xd, xx⟩ := x
  obtain ⟨yk, yc, ys, yq, yv, yd, yy⟩ := y
  have HB : Hid (Below w.heap.size w ((w.alloc (.cells #[.int .i64 xk, .int .i64 xc, .int .i64 xs', .int .i64 xq, .int .i64 xv, .bool xd, .slice a xx.length cp] 35)).alloc (.cells #[.int .i64 yk, .int .i64 yc, .int .i64 ys, .int .i64 yq, .int .i64 yv, .bool yd, .slice a' yy.length cp'] 35))) := ((Below.refl _ _).alloc (Nat.le_refl _) _).alloc (by simp) _
  have HI := Lib.hid (hh.below HB.out)
  have HJ := Lib.hid (hh'.below HB.out)
  clear hh hh'
  go_enter Tryz.func39, Tryz.ntmps39
  go_wp2_with fail
  refine (implWriteCmp_gen xk xc xs' xq xv xd a xx _ cp yk yc ys yq yv yd a' yy _ cp' _ rfl rfl hn hm HI.out HJ.out).mono ?_
  rintro e w1 ⟨rfl, hb⟩
  have HB1 := Lib.hid (below_step HB.out HB.out.size hb)
  clear hb
  go_wp2
  go_ret
  exact ⟨rfl, HB1.out⟩

set_option maxHeartbeats 4000000 in
theorem equalFunc_any (a b : Option Addr) (n m cap cap' : Nat) (us vs : List Wr) (w : World) (hn : us.length = n) (hm : vs.length = m) (hn1 : n ≤ 1048576) (hm1 : m ≤ 1048576) (hx : Few us) (hy : Few vs) (hi : IsWs w a us) (hj : IsWs w b vs) :
    Calls Tryz.prog 37 #[.slice a n cap, .slice b m cap', .func (.func 39) #[] #[]] w fun e w' => e = .returned (.bool (sameB us vs)) ∧ Below w.heap.size w w' := by
  have HI : Hid (IsWs w a us) := hi
  have HJ : Hid (IsWs w b vs) := hj
  have HN : Hid (us.length = n) := hn
  have HM : Hid (vs.length = m) := hm
  have HX : Hid (Few us) := hx
  have HY : Hid (Few vs) := hy
  clear hi hj hn hm hx hy
  by_cases hnm : n = m
  case neg =>
    have HF : Hid (sameB us vs = false) := same_len (by rw [HN.out, HM.out]; exact hnm)
    have hb : ((n : Int) != (m : Int)) = true := by rw [bne_iff_ne]; omega
    go_enter Tryz.func37, Tryz.ntmps37
    go_wp2
    go_ret
    exact ⟨ret_bool HF.out.symm, Below.refl _ _⟩
  subst hnm
  go_enter Tryz.func37, Tryz.ntmps37
  go_wp2
  go_loopw [17] (fun i wr => ∃ k : Nat, k ≤ n ∧ i = .int .i64 k ∧ Hid (∀ j, j < k → cmpW (us.getD j wz) (vs.getD j wz) = 0) ∧ Hid (Below w.heap.size w wr)) (fun i _ => n - (intOf i).toNat)
  case atStart => exact ⟨0, Nat.zero_le _, rfl, fun j hj => absurd hj (Nat.not_lt_zero j), Below.refl _ _⟩
  case round =>
    obtain ⟨k, hk, rfl, HK, HB⟩ := hrel
    by_cases hk' : k < n
    · obtain ⟨b1, o1, ad, cp, rfl, hz, ⟨e0, e1, e2, e3, e4, e5, e6⟩, hd⟩ := HI.out.at HB.out HN.out hk'
      obtain ⟨b2, o2, ad', cp', rfl, hz', ⟨f0, f1, f2, f3, f4, f5, f6⟩, hd'⟩ := HJ.out.at HB.out HM.out hk'
      have i1 : (0 : Int) ≤ (k : Int) := by omega
      have i2 : (k : Int) < (n : Int) := by omega
      have HS : Hid (∀ W, Below wr.heap.size wr W → Calls Tryz.prog 39 #[wrOf (us.getD k wz) ad cp, wrOf (vs.getD k wz) ad' cp'] W fun e w' => e = .returned (.bool (cmpW (us.getD k wz) (vs.getD k wz) == 0)) ∧ Below W.heap.size W w') := fun W hW =>
        sameWrite_any _ _ ad ad' cp cp' W (HX.out k (by rw [HN.out]; exact hk')) (HY.out k (by rw [HM.out]; exact hk')) (hd.below hW) (hd'.below hW)
      have HE : Hid (cmpW (us.getD k wz) (vs.getD k wz) ≠ 0 → sameB us vs = false) := fun h => same_false (by rw [HN.out]; exact hk') h
      have HK' : Hid (cmpW (us.getD k wz) (vs.getD k wz) = 0 → ∀ j, j < k + 1 → cmpW (us.getD j wz) (vs.getD j wz) = 0) := fun h j hj => by
        by_cases h' : j < k
        · exact HK.out j h'
        · have : j = k := by omega
          rw [this]
          exact h
      clear hd hd' HI HJ
      by_cases hc : cmpW (us.getD k wz) (vs.getD k wz) = 0
      · have HK2 := Lib.hid (HK'.out hc)
        have hcb : (cmpW (us.getD k wz) (vs.getD k wz) == 0) = true := by simpa using hc
        rw [hcb] at HS
        clear hc hcb HE HK'
        generalize us.getD k wz = x at *
        generalize vs.getD k wz = y at *
        obtain ⟨xk, xc, xs', xq, xv, xd, xx⟩ := x
        obtain ⟨yk, yc, ys, yq, yv, yd, yy⟩ := y
        simp only at e0 e1 e2 e3 e4 e5 e6 f0 f1 f2 f3 f4 f5 f6 HS
        go_wp2_with fail
        refine (HS.out _ (((Below.refl _ _).alloc (Nat.le_refl _) _).alloc (by simp) _)).mono ?_
        rintro e w2 ⟨rfl, hb⟩
        have HB2 : Hid (Below w.heap.size w w2) := below_step HB.out HB.out.size (below_step (((Below.refl _ _).alloc (Nat.le_refl _) _).alloc (by simp) _) (by simp; omega) hb)
        clear hb
        go_wp2
        exact ⟨⟨k + 1, by omega, by go_num, HK2, HB2⟩, by simp [intOf]; omega⟩
      · have HF := Lib.hid (HE.out hc)
        have hcb : (cmpW (us.getD k wz) (vs.getD k wz) == 0) = false := by simpa using hc
        rw [hcb] at HS
        clear hc hcb HE HK'
        generalize us.getD k wz = x at *
        generalize vs.getD k wz = y at *
        obtain ⟨xk, xc, xs', xq, xv, xd, xx⟩ := x
        obtain ⟨yk, yc, ys, yq, yv, yd, yy⟩ := y
        simp only at e0 e1 e2 e3 e4 e5 e6 f0 f1 f2 f3 f4 f5 f6 HS
        go_wp2_with fail
        refine (HS.out _ (((Below.refl _ _).alloc (Nat.le_refl _) _).alloc (by simp) _)).mono ?_
        rintro e w2 ⟨rfl, hb⟩
        have HB2 : Hid (Below w.heap.size w w2) := below_step HB.out HB.out.size (below_step (((Below.refl _ _).alloc (Nat.le_refl _) _).alloc (by simp) _) (by simp; omega) hb)
        clear hb
        go_wp2
        go_ret
        exact ⟨ret_bool HF.out.symm, HB2.out⟩
    · have hkk : k = n := by omega
      subst hkk
      have HF : Hid (sameB us vs = true) := same_true (by rw [HN.out, HM.out]) (fun i hi => HK.out i (by rw [← HN.out]; exact hi))
      go_wp2
      go_ret
      exact ⟨ret_bool HF.out.symm, HB.out⟩

def withinB (us vs : List Wr) : Bool := mapOkB us && (mapOkB vs && sameB (joinB us vs) vs)

set_option maxHeartbeats 4000000 in
theorem implWithin_any (a b : Option Addr) (n m cap cap' : Nat) (us vs : List Wr) (w : World) (hn : us.length = n) (hm : vs.length = m) (hn1 : n ≤ 1048576) (hm1 : m ≤ 1048576) (hx : Few us) (hy : Few vs) (hi : IsWs w a us) (hj : IsWs w b vs) :
    Calls Tryz.prog 16 #[.slice a n cap, .slice b m cap'] w fun e w' => e = .returned (.bool (withinB us vs)) ∧ Below w.heap.size w w' := by
  have HI : Hid (IsWs w a us) := hi
  have HJ : Hid (IsWs w b vs) := hj
  have HN : Hid (us.length = n) := hn
  have HM : Hid (vs.length = m) := hm
  have HX : Hid (Few us) := hx
  have HY : Hid (Few vs) := hy
  clear hi hj hn hm hx hy
  cases ha : mapOkB us
  · have HE : Hid (withinB us vs = false) := by unfold withinB; rw [ha, Bool.false_and]; exact Lib.hid rfl
    go_enter Tryz.func16, Tryz.ntmps16
    go_wp2_with fail
    refine (implMapOk_is false a n cap us ha _ HN.out hn1 HX.out HI.out).mono ?_
    rintro e w1 ⟨rfl, hb⟩
    have HB1 := Lib.hid hb
    clear hb
    go_wp2
    go_ret
    exact ⟨ret_bool HE.out.symm, HB1.out⟩
  cases hb : mapOkB vs
  · have HE : Hid (withinB us vs = false) := by unfold withinB; rw [hb, Bool.false_and, Bool.and_false]; exact Lib.hid rfl
    go_enter Tryz.func16, Tryz.ntmps16
    go_wp2_with fail
    refine (implMapOk_is true a n cap us ha _ HN.out hn1 HX.out HI.out).mono ?_
    rintro e w1 ⟨rfl, hb1⟩
    have HB1 := Lib.hid hb1
    clear hb1
    go_wp2_with fail
    refine (implMapOk_is false b m cap' vs hb _ HM.out hm1 HY.out (HJ.out.below HB1.out)).mono ?_
    rintro e w2 ⟨rfl, hb2⟩
    have HB2 : Hid (Below w.heap.size w w2) := below_step HB1.out HB1.out.size hb2
    clear hb2
    go_wp2
    go_ret
    exact ⟨ret_bool HE.out.symm, HB2.out⟩
  have HE : Hid (withinB us vs = sameB (joinB us vs) vs) := by unfold withinB; rw [ha, hb, Bool.true_and, Bool.true_and]; exact Lib.hid rfl
  have HJF := Lib.hid (joinB_few us vs)
  have HJL := Lib.hid (joinB_len us vs)
  go_enter Tryz.func16, Tryz.ntmps16
  go_wp2_with fail
  refine (implMapOk_is true a n cap us ha _ HN.out hn1 HX.out HI.out).mono ?_
  rintro e w1 ⟨rfl, hb1⟩
  have HB1 := Lib.hid hb1
  clear hb1
  go_wp2_with fail
  refine (implMapOk_is true b m cap' vs hb _ HM.out hm1 HY.out (HJ.out.below HB1.out)).mono ?_
  rintro e w2 ⟨rfl, hb2⟩
  have HB2 : Hid (Below w.heap.size w w2) := below_step HB1.out HB1.out.size hb2
  clear hb2 HB1
  go_wp2_with fail
  refine (implMapJoin_any a b n m cap cap' us vs _ HN.out HM.out hn1 hm1 HX.out HY.out (HI.out.below HB2.out) (HJ.out.below HB2.out)).mono ?_
  rintro e w3 ⟨v, es, rfl, hes, hrow, hb3⟩
  obtain ⟨ga, gc, L, rfl, hl, hg⟩ := hrow.ownA hes
  have HB3 : Hid (Below w.heap.size w w3) := below_step HB2.out HB2.out.size hb3
  have HG := Lib.hid (hg.isWs HJF.out)
  have HL := Lib.hid hl
  have hL6 : L ≤ 6 := by rw [← hl]; exact HJL.out
  clear hb3 hg hl hes hrow HB2
  go_wp2_with fail
  refine (equalFunc_any ga b L m gc cap' (joinB us vs) vs _ HL.out HM.out (by omega) hm1 HJF.out HY.out HG.out (HJ.out.below HB3.out)).mono ?_
  rintro e w4 ⟨rfl, hb4⟩
  have HB4 : Hid (Below w.heap.size w w4) := below_step HB3.out HB3.out.size hb4
  clear hb4
  rw [← HE.out]
  go_wp2
  go_ret
  exact ⟨rfl, HB4.out⟩

end Go.Proofs.YtidpcjcnhklmpabGreat
