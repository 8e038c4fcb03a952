import Derived.Test.YtidpcjcnhklmpacPack11
import Derived.Test.YtidpcjcnhklmpacPack12
import Derived.Test.YtidpcjcnhklmpacPack2
import Derived.RegionTactic
import Derived.BigRegion
import Derived.Deep.RegionHeld3
import Derived.Deep.DrawnRows
import Derived.WalkSpells
/- Two cuts, joined, are a cut: with no program in sight. -/
namespace Go.Proofs.Ytidpcjcnhklmpac
open Go.ChangeShapes Go.WideShapes Go.ChangeAt Go.RowKit Go.Joins

theorem has_join_left : ∀ (vs : List Wr) {us : List Wr}, Rise us → ∀ {key c s q : Int}, hasB us key c s q = true → hasB (joinW us vs) key c s q = true
  | [], _, _, _, _, _, _, h => h
  | x :: r, _, hr, key, c, s, q, h => has_join_left r (rise_putW hr x) ((has_put hr x key c s q).2 (.inl h))

theorem has_join_mem : ∀ (vs : List Wr) {us : List Wr}, Rise us → ∀ {y : Wr}, y ∈ vs → ∀ {c s q : Int}, 0 ≤ tcmp y.c y.s y.q c s q → hasB (joinW us vs) y.k c s q = true
  | [], _, _, _, hy, _, _, _, _ => by simp at hy
  | x :: r, _, hr, y, hy, c, s, q, h => by
    rcases List.mem_cons.1 hy with rfl | hy
    · exact has_join_left r (rise_putW hr y) ((has_put hr y y.k c s q).2 (.inr ⟨rfl, h⟩))
    · exact has_join_mem r (rise_putW hr x) hy h

theorem has_mem {us : List Wr} {key c s q : Int} (h : hasB us key c s q = true) : ∃ u ∈ us, u.k = key ∧ 0 ≤ tcmp u.c u.s u.q c s q := by
  unfold hasB at h
  cases hf : findW us key with
  | none => rw [hf] at h; cases h
  | some u =>
    rw [hf] at h
    exact ⟨u, findW_mem hf, findW_key hf, by simpa using h⟩

theorem has_join_right {us vs : List Wr} (hr : Rise us) {key c s q : Int} (h : hasB vs key c s q = true) : hasB (joinW us vs) key c s q = true := by
  obtain ⟨u, hu, hk, ht⟩ := has_mem h
  rw [← hk]
  exact has_join_mem vs hr hu ht

theorem cut_parts {ws : List Wr} (h : cutB ws = true) : mapOkB ws = true ∧ ∀ x ∈ ws, covB ws x.xs = true := by
  unfold cutB at h
  rw [Bool.and_eq_true] at h
  exact ⟨h.1, fun x hx => List.all_eq_true.1 h.2 x hx⟩

theorem cut_of {ws : List Wr} (h : mapOkB ws = true) (h' : ∀ x ∈ ws, covB ws x.xs = true) : cutB ws = true := by
  unfold cutB
  rw [h, Bool.true_and, List.all_eq_true]
  exact h'

theorem cut_join {us vs : List Wr} (hu : cutB us = true) (hv : cutB vs = true) : cutB (joinB us vs) = true := by
  obtain ⟨hu1, hu2⟩ := cut_parts hu
  obtain ⟨hv1, hv2⟩ := cut_parts hv
  refine cut_of (joinB_mapOk us vs) fun x hx => ?_
  have hr := ((mapOk_iff us).1 hu1).2
  have e : joinB us vs = joinW us vs := by
    unfold joinB
    rw [if_pos ⟨hu1, hv1⟩]
  rw [e] at hx ⊢
  rw [cov_iff]
  intro d hd
  obtain ⟨-, h2, -⟩ := join_spec vs us hr
  rcases h2 x hx with h | h
  · exact has_join_left vs hr ((cov_iff _ _).1 (hu2 x h) d hd)
  · exact has_join_right hr ((cov_iff _ _).1 (hv2 x h) d hd)

end Go.Proofs.Ytidpcjcnhklmpac

/- The contract of DrawTagCmp. -/
namespace Go.Proofs.Ytidpcjcnhklmpac
open Go.ChangeShapes Go.WideShapes Go.ChangeAt Go.RowKit Go.Joins
attribute [local go_sem ↓] Go.wp_at_zero Go.wp_at_succ

theorem Hole.belowOf {B c : Nat} {w0 w w' : World} (h : Hole B w w') (h0 : Below c w0 w) (hB : c ≤ B) (hc : c ≤ w.heap.size) : Below c w0 w' := Hole.below h0 h hB hc

theorem open_as (a : Option Addr) (len cap B : Nat) (w : World) (hB : w.heap.size = B) (h : Bytes w a len) (hl : len ≤ 1048576) :
    Calls Try.prog 24 #[.slice a len cap] w fun e w' => e = .returned (.pointer (some ⟨B, 0, none⟩)) ∧ Cur w' B a len cap 0 ∧ Below w.heap.size w w' := by
  subst hB
  exact open_any a len cap w h hl

theorem two_tags (w : World) (t : Nat) : TagBox ((w.alloc (.cells #[.int .i64 0, .int .i64 0, .int .i64 0] t)).alloc (.cells #[.int .i64 0, .int .i64 0, .int .i64 0] t)) w.heap.size 0 0 0 ∧ TagBox ((w.alloc (.cells #[.int .i64 0, .int .i64 0, .int .i64 0] t)).alloc (.cells #[.int .i64 0, .int .i64 0, .int .i64 0] t)) (w.heap.size + 1) 0 0 0 := by
  have h := TagBox.start (w.alloc (.cells #[.int .i64 0, .int .i64 0, .int .i64 0] t)) 0 0 0 t
  have e : (w.alloc (.cells #[.int .i64 0, .int .i64 0, .int .i64 0] t)).heap.size = w.heap.size + 1 := by simp
  rw [e] at h
  exact ⟨(TagBox.start w 0 0 0 t).hole (Hole.of_below (B := w.heap.size + 2) ((Below.refl _ _).alloc (Nat.le_refl _) _)) (by omega), h⟩

end Go.Proofs.Ytidpcjcnhklmpac

/- The contract of DrawWriteCmp. -/
namespace Go.Proofs.Ytidpcjcnhklmpac
open Go.ChangeShapes Go.WideShapes Go.ChangeAt Go.RowKit Go.Joins
attribute [local go_sem ↓] Go.wp_at_zero Go.wp_at_succ

theorem two_writes (w : World) (t : Nat) : WBox ((w.alloc (.cells #[.int .i64 0, .int .i64 0, .int .i64 0, .int .i64 0, .int .i64 0, .bool false, .slice none 0 0] t)).alloc (.cells #[.int .i64 0, .int .i64 0, .int .i64 0, .int .i64 0, .int .i64 0, .bool false, .slice none 0 0] t)) w.heap.size 0 0 0 0 0 false none 0 0 ∧ WBox ((w.alloc (.cells #[.int .i64 0, .int .i64 0, .int .i64 0, .int .i64 0, .int .i64 0, .bool false, .slice none 0 0] t)).alloc (.cells #[.int .i64 0, .int .i64 0, .int .i64 0, .int .i64 0, .int .i64 0, .bool false, .slice none 0 0] t)) (w.heap.size + 1) 0 0 0 0 0 false none 0 0 := by
  have h := WBox.start (w.alloc (.cells #[.int .i64 0, .int .i64 0, .int .i64 0, .int .i64 0, .int .i64 0, .bool false, .slice none 0 0] t)) 0 0 0 0 0 false none 0 0 t
  have e : (w.alloc (.cells #[.int .i64 0, .int .i64 0, .int .i64 0, .int .i64 0, .int .i64 0, .bool false, .slice none 0 0] t)).heap.size = w.heap.size + 1 := by simp
  rw [e] at h
  exact ⟨(WBox.start w 0 0 0 0 0 false none 0 0 t).hole (Hole.of_below (B := w.heap.size + 2) ((Below.refl _ _).alloc (Nat.le_refl _) _)) (by omega), h⟩

/-- What is carried through the drawing of two writes. -/
structure DW (w W : World) (B bA bB g g' : Nat) (a : Option Addr) (len cap : Nat) (N : Int) (k c s q v : Int) (de : Bool) (ds : List Dp) (cp : Nat) (k' c' s' q' v' : Int) (de' : Bool) (ds' : List Dp) (cp' : Nat) : Prop where
  cur : Cur W B a len cap N
  below : Below w.heap.size w W
  r1 : WBox W w.heap.size 0 0 0 0 0 false none 0 0
  r2 : WBox W (w.heap.size + 1) 0 0 0 0 0 false none 0 0
  ba : WBox W bA k c s q v de (some ⟨g, 0, none⟩) ds.length cp
  bb : WBox W bB k' c' s' q' v' de' (some ⟨g', 0, none⟩) ds'.length cp'
  d1 : HoldsDeps W g 0 ds
  d2 : HoldsDeps W g' 0 ds'
  l1 : g < W.heap.size
  l2 : g' < W.heap.size
  eB : B = w.heap.size + 1 + 1
  g1 : B < g
  g2 : B < g'
  gA : g < bA
  gB : bA < bB
  gn : g' ≠ bB
  n1 : ds.length ≤ 7
  n2 : ds'.length ≤ 7

theorem DW.step {w W W' : World} {B bA bB g g' : Nat} {a : Option Addr} {len cap : Nat} {N M : Int} {k c s q v : Int} {de : Bool} {ds : List Dp} {cp : Nat} {k' c' s' q' v' : Int} {de' : Bool} {ds' : List Dp} {cp' : Nat} (h : DW w W B bA bB g g' a len cap N k c s q v de ds cp k' c' s' q' v' de' ds' cp') (hc : Cur W' B a len cap M) (hh : Hole B W W') : DW w W' B bA bB g g' a len cap M k c s q v de ds cp k' c' s' q' v' de' ds' cp' :=
  ⟨hc, hh.belowOf h.below (by have := h.eB; omega) h.below.size, h.r1.hole hh (by have := h.eB; omega), h.r2.hole hh (by have := h.eB; omega), h.ba.hole hh (by have := h.g1; have := h.gA; omega), h.bb.hole hh (by have := h.g1; have := h.gA; have := h.gB; omega), h.d1.hole hh h.l1 (by have := h.g1; omega), h.d2.hole hh h.l2 (by have := h.g2; omega), Nat.lt_of_lt_of_le h.l1 hh.size, Nat.lt_of_lt_of_le h.l2 hh.size, h.eB, h.g1, h.g2, h.gA, h.gB, h.gn, h.n1, h.n2⟩

theorem DW.set {w W : World} {B bA bB g g' : Nat} {a : Option Addr} {len cap : Nat} {N : Int} {k c s q v : Int} {de : Bool} {ds : List Dp} {cp : Nat} {k' c' s' q' v' x1 x2 x3 x4 x5 : Int} {de' x6 : Bool} {ds' : List Dp} {cp' : Nat} (h : DW w W B bA bB g g' a len cap N k c s q v de ds cp k' c' s' q' v' de' ds' cp') (o : Nat) (y : Value) (hb : WBox (W.setCell ⟨bB, o, none⟩ y) bB x1 x2 x3 x4 x5 x6 (some ⟨g', 0, none⟩) ds'.length cp') : DW w (W.setCell ⟨bB, o, none⟩ y) B bA bB g g' a len cap N k c s q v de ds cp x1 x2 x3 x4 x5 x6 ds' cp' := by
  have := h.eB
  have := h.g1
  have := h.gA
  have := h.gB
  exact ⟨h.cur.setOther (by omega) o y, h.below.setCell (by show w.heap.size ≤ bB; omega) y, h.r1.other (by omega) o y, h.r2.other (by omega) o y, h.ba.other (by omega) o y, hb, h.d1.set (by show bB ≠ g; omega) y, h.d2.set (Ne.symm h.gn) y, by simpa [World.setCell] using h.l1, by simpa [World.setCell] using h.l2, h.eB, h.g1, h.g2, h.gA, h.gB, h.gn, h.n1, h.n2⟩

abbrev put7 (W : World) (R : Nat) (v0 v1 v2 v3 v4 v5 v6 : Value) : World :=
  ((((((W.setCell ⟨R, 0, none⟩ v0).setCell ⟨R, 1, none⟩ v1).setCell ⟨R, 2, none⟩ v2).setCell ⟨R, 3, none⟩ v3).setCell ⟨R, 4, none⟩ v4).setCell ⟨R, 5, none⟩ v5).setCell ⟨R, 6, none⟩ v6

theorem holds_put7 {W : World} {R g : Nat} {ds : List Dp} (h : HoldsDeps W g 0 ds) (hn : R ≠ g) (v0 v1 v2 v3 v4 v5 v6 : Value) : HoldsDeps (put7 W R v0 v1 v2 v3 v4 v5 v6) g 0 ds := by
  have h0 := h.set (a := ⟨R, 0, none⟩) hn v0
  have h1 := h0.set (a := ⟨R, 1, none⟩) hn v1
  have h2 := h1.set (a := ⟨R, 2, none⟩) hn v2
  have h3 := h2.set (a := ⟨R, 3, none⟩) hn v3
  have h4 := h3.set (a := ⟨R, 4, none⟩) hn v4
  have h5 := h4.set (a := ⟨R, 5, none⟩) hn v5
  exact h5.set (a := ⟨R, 6, none⟩) hn v6

theorem below_put7 {w W : World} {R : Nat} (h : Below w.heap.size w W) (hR : w.heap.size ≤ R) (v0 v1 v2 v3 v4 v5 v6 : Value) : Below w.heap.size w (put7 W R v0 v1 v2 v3 v4 v5 v6) := by
  have h0 := h.setCell (p := ⟨R, 0, none⟩) hR v0
  have h1 := h0.setCell (p := ⟨R, 1, none⟩) hR v1
  have h2 := h1.setCell (p := ⟨R, 2, none⟩) hR v2
  have h3 := h2.setCell (p := ⟨R, 3, none⟩) hR v3
  have h4 := h3.setCell (p := ⟨R, 4, none⟩) hR v4
  have h5 := h4.setCell (p := ⟨R, 5, none⟩) hR v5
  exact h5.setCell (p := ⟨R, 6, none⟩) hR v6

theorem holds_drew {W : World} {g : Nat} {ds : List Dp} (h : HoldsDeps W g 0 ds) : HoldsDeps W.drew g 0 ds := h

theorem draw_end {w W : World} {B bA bB g g' : Nat} {a : Option Addr} {len cap : Nat} {N : Int} {k c s q v : Int} {de : Bool} {ds : List Dp} {cp : Nat} {k' c' s' q' v' : Int} {de' : Bool} {ds' : List Dp} {cp' : Nat} (h : DW w W B bA bB g g' a len cap N k c s q v de ds cp k' c' s' q' v' de' ds' cp') (v0 v1 v2 v3 v4 v5 v6 u0 u1 u2 u3 u4 u5 u6 : Value) :
    g < (put7 (put7 W w.heap.size v0 v1 v2 v3 v4 v5 v6) (w.heap.size + 1) u0 u1 u2 u3 u4 u5 u6).drew.heap.size ∧ g' < (put7 (put7 W w.heap.size v0 v1 v2 v3 v4 v5 v6) (w.heap.size + 1) u0 u1 u2 u3 u4 u5 u6).drew.heap.size ∧ HoldsDeps (put7 (put7 W w.heap.size v0 v1 v2 v3 v4 v5 v6) (w.heap.size + 1) u0 u1 u2 u3 u4 u5 u6).drew g 0 ds ∧ HoldsDeps (put7 (put7 W w.heap.size v0 v1 v2 v3 v4 v5 v6) (w.heap.size + 1) u0 u1 u2 u3 u4 u5 u6).drew g' 0 ds' ∧ Below w.heap.size w (put7 (put7 W w.heap.size v0 v1 v2 v3 v4 v5 v6) (w.heap.size + 1) u0 u1 u2 u3 u4 u5 u6).drew := by
  have := h.eB
  have := h.g1
  have := h.g2
  have a1 : w.heap.size ≠ g := by omega
  have a2 : w.heap.size + 1 ≠ g := by omega
  have b1 : w.heap.size ≠ g' := by omega
  have b2 : w.heap.size + 1 ≠ g' := by omega
  exact ⟨by simpa [World.setCell] using h.l1, by simpa [World.setCell] using h.l2, holds_drew (holds_put7 (holds_put7 h.d1 a1 _ _ _ _ _ _ _) a2 _ _ _ _ _ _ _), holds_drew (holds_put7 (holds_put7 h.d2 b1 _ _ _ _ _ _ _) b2 _ _ _ _ _ _ _), (below_put7 (below_put7 h.below (Nat.le_refl _) _ _ _ _ _ _ _) (by omega) _ _ _ _ _ _ _).drew⟩

theorem cur_put7 {W : World} {B R : Nat} {a : Option Addr} {len cap : Nat} {N : Int} (h : Cur W B a len cap N) (hR : B < R) (v0 v1 v2 v3 v4 v5 v6 : Value) : Cur (put7 W R v0 v1 v2 v3 v4 v5 v6) B a len cap N := by
  have h0 := h.setOther hR 0 v0
  have h1 := h0.setOther hR 1 v1
  have h2 := h1.setOther hR 2 v2
  have h3 := h2.setOther hR 3 v3
  have h4 := h3.setOther hR 4 v4
  have h5 := h4.setOther hR 5 v5
  exact h5.setOther hR 6 v6

theorem box_put7 {W : World} {R b : Nat} {k c s q v : Int} {de : Bool} {x : Option Addr} {len cap : Nat} (h : WBox W b k c s q v de x len cap) (hn : R ≠ b) (v0 v1 v2 v3 v4 v5 v6 : Value) : WBox (put7 W R v0 v1 v2 v3 v4 v5 v6) b k c s q v de x len cap := by
  have h0 := h.other hn 0 v0
  have h1 := h0.other hn 1 v1
  have h2 := h1.other hn 2 v2
  have h3 := h2.other hn 3 v3
  have h4 := h3.other hn 4 v4
  have h5 := h4.other hn 5 v5
  exact h5.other hn 6 v6

theorem box_own7 {W : World} {b : Nat} {k0 c0 s0 q0 v0 : Int} {de0 : Bool} {x0 : Option Addr} {len0 cap0 : Nat} (h : WBox W b k0 c0 s0 q0 v0 de0 x0 len0 cap0) (k c s q v : Int) (de : Bool) (x : Option Addr) (len cap : Nat) : WBox (put7 W b (.int .i64 k) (.int .i64 c) (.int .i64 s) (.int .i64 q) (.int .i64 v) (.bool de) (.slice x len cap)) b k c s q v de x len cap := by
  have h0 := h.set0 k
  have h1 := h0.set1 c
  have h2 : WBox ((((W.setCell ⟨b, 0, none⟩ (.int .i64 k)).setCell ⟨b, 1, none⟩ (.int .i64 c)).setCell ⟨b, 2, none⟩ (.int .i64 s))) b k c s q0 v0 de0 x0 len0 cap0 :=
    ⟨by simpa [World.setCell] using h1.lt, cell_set_off h1.c0 (by omega), cell_set_off h1.c1 (by omega), cell_set_same h1.c2, cell_set_off h1.c3 (by omega), cell_set_off h1.c4 (by omega), cell_set_off h1.c5 (by omega), cell_set_off h1.c6 (by omega), fun o => by rw [World.frozen?_setCell]; exact h1.fz o⟩
  have h3 : WBox (((((W.setCell ⟨b, 0, none⟩ (.int .i64 k)).setCell ⟨b, 1, none⟩ (.int .i64 c)).setCell ⟨b, 2, none⟩ (.int .i64 s))).setCell ⟨b, 3, none⟩ (.int .i64 q)) b k c s q v0 de0 x0 len0 cap0 :=
    ⟨by simpa [World.setCell] using h2.lt, cell_set_off h2.c0 (by omega), cell_set_off h2.c1 (by omega), cell_set_off h2.c2 (by omega), cell_set_same h2.c3, cell_set_off h2.c4 (by omega), cell_set_off h2.c5 (by omega), cell_set_off h2.c6 (by omega), fun o => by rw [World.frozen?_setCell]; exact h2.fz o⟩
  have h4 := h3.set4 v
  have h5 := h4.set5 de
  exact h5.set6 x len cap

end Go.Proofs.Ytidpcjcnhklmpac
