import Derived.Test.YtaopkoamjfmhhaaPack8
import Derived.Test.YtaopkoamjfmhhaaPack9
import Derived.Deep.DeepCutAuto
/- The draw of a counter. -/
namespace Go.Proofs.Ytaopkoamjfmhhaa
open Go.ChangeShapes Go.WideShapes Go.ChangeAt Go.RowKit Go.Joins

theorem RowsC.off {w w' : World} {B base : Nat} {a : Option Addr} {n c : Nat} {b : Option Addr} {m d : Nat} {us ds : List Int} (h : RowsC w base a n c b m d us ds) (hh : Hole B w w') (hB : B < base) : RowsC w' base a n c b m d us ds := ⟨h.1.off hh hB, h.2.1.off hh hB, h.2.2⟩

theorem row_int {w : World} {base g n c : Nat} {zs : List Int} (h : RowI w base (.slice (some ⟨g, 0, none⟩) n c) zs) : OwnI w g (g + 1) (some ⟨g, 0, none⟩) zs := by
  rcases rowI_at h with e | ⟨q, hq, -, -, ho⟩
  · exact .inl e
  · have := own_slice hq
    subst this
    exact ho

theorem row_ne {w : World} {base g n c b : Nat} {zs : List Int} {s t : Value} {ty : TypeId} (h : RowI w base (.slice (some ⟨g, 0, none⟩) n c) zs) (hz : 0 < zs.length) (hs : ∀ k z, s ≠ .int k z) (hb : w.heap[b]? = some (.cells #[s, t] ty (0, 0))) : g ≠ b := by
  intro e
  subst e
  rcases row_int h with e | ⟨q, hq, -, -, -, hc, -⟩
  · rw [e] at hz
    cases hz
  · injection hq with hq
    injection hq with hq
    subst hq
    have h0 := hc 0 hz
    rw [cell_of_row w g 0 _ _ (0, 0) hb] at h0
    simp at h0
    exact hs _ _ h0

theorem row_ptr {w : World} {base : Nat} {x : Option Addr} {n c : Nat} {zs : List Int} (h : RowI w base (.slice x n c) zs) (hz : 0 < zs.length) : ∃ g, x = some ⟨g, 0, none⟩ := by
  rcases h.2 with ⟨h1, h2⟩ | ⟨g, c, cur, h1, _⟩
  · omega
  · injection h1 with h1
    exact ⟨g, h1⟩

/-- All numbers in 0 .. M. -/
def smallC (M : Int) (us ds : List Int) : Prop := perB M us = true ∧ perB M ds = true

theorem small_len {M : Int} {us ds : List Int} (h : smallC M us ds) : us.length = 4 ∧ ds.length = 4 := by
  obtain ⟨x0, x1, x2, x3, rfl, -⟩ := perB_four h.1
  obtain ⟨y0, y1, y2, y3, rfl, -⟩ := perB_four h.2
  exact ⟨rfl, rfl⟩

theorem perB_more {M K : Int} {zs : List Int} (h : perB M zs = true) (hK : M ≤ K) : perB K zs = true := by
  obtain ⟨x0, x1, x2, x3, rfl, h0, h1, h2, h3⟩ := perB_four h
  exact (perB_is _ _ _ _ _).2 ⟨by omega, by omega, by omega, by omega⟩

theorem perB_set {M K : Int} {zs : List Int} (h : perB M zs = true) (hK : M ≤ K) (q : Nat) (z : Int) (hz : 0 ≤ z ∧ z ≤ K) : perB K (zs.set q z) = true := by
  obtain ⟨x0, x1, x2, x3, rfl, h0, h1, h2, h3⟩ := perB_four h
  match q with
  | 0 => exact (perB_is _ _ _ _ _).2 ⟨hz, by omega, by omega, by omega⟩
  | 1 => exact (perB_is _ _ _ _ _).2 ⟨by omega, hz, by omega, by omega⟩
  | 2 => exact (perB_is _ _ _ _ _).2 ⟨by omega, by omega, hz, by omega⟩
  | 3 => exact (perB_is _ _ _ _ _).2 ⟨by omega, by omega, by omega, hz⟩
  | q + 4 => exact perB_more h hK

theorem perB_at {M : Int} {zs : List Int} (h : perB M zs = true) (q : Nat) (hq : q < 4) : 0 ≤ zs.getD q 0 ∧ zs.getD q 0 ≤ M := by
  obtain ⟨x0, x1, x2, x3, rfl, h0, h1, h2, h3⟩ := perB_four h
  match q, hq with
  | 0, _ => exact h0
  | 1, _ => exact h1
  | 2, _ => exact h2
  | 3, _ => exact h3

theorem small_add {M : Int} {us ds : List Int} (h : smallC M us ds) (hM : M ≤ 100000) (q : Nat) (hq : q < 4) (n : Int) (h1 : -100 ≤ n) (h2 : n ≤ 100) : addOk us ds (q : Int) n = true ∧ smallC (M + 100) (addU us (q : Int) n) (addD ds (q : Int) n) := by
  have k1 := perB_at h.1 q hq
  have k2 := perB_at h.2 q hq
  have hU : perB (M + 100) (addU us (q : Int) n) = true := by
    unfold addU
    split
    · simp only [Int.toNat_natCast]
      exact perB_set h.1 (by omega) q _ (by omega)
    · exact perB_more h.1 (by omega)
  have hD : perB (M + 100) (addD ds (q : Int) n) = true := by
    unfold addD
    split
    · exact perB_more h.2 (by omega)
    · simp only [Int.toNat_natCast]
      exact perB_set h.2 (by omega) q _ (by omega)
  refine ⟨?_, hU, hD⟩
  unfold addOk cntB btw
  rw [perB_more h.1 (by omega), perB_more h.2 (by omega), perB_more hU (by omega), perB_more hD (by omega)]
  simp
  omega

/-- What lies where while a counter is drawn. -/
structure CS (w wr : World) (B : Nat) (a : Option Addr) (len cap : Nat) (N : Int) (bx g1 c1 g2 c2 : Nat) (us ds : List Int) : Prop where
  hole : Hole B w wr
  cur : Cur wr B a len cap N
  rr : wr.heap[w.heap.size]? = some (.cells #[.slice none 0 0, .slice none 0 0] 26 (0, 0))
  hbx : w.heap.size < bx
  box : wr.heap[bx]? = some (.cells #[.slice (some ⟨g1, 0, none⟩) us.length c1, .slice (some ⟨g2, 0, none⟩) ds.length c2] 26 (0, 0))
  rows : RowsC wr (w.heap.size + 1) (some ⟨g1, 0, none⟩) us.length c1 (some ⟨g2, 0, none⟩) ds.length c2 us ds
  pos : 0 < us.length ∧ 1 < ds.length

theorem CS.lt {w wr : World} {B : Nat} {a : Option Addr} {len cap : Nat} {N : Int} {bx g1 c1 g2 c2 : Nat} {us ds : List Int} (h : CS w wr B a len cap N bx g1 c1 g2 c2 us ds) : bx < wr.heap.size := (Array.getElem?_eq_some_iff.1 h.box).1

theorem CS.move {w wr w' : World} {B : Nat} {a : Option Addr} {len cap : Nat} {N M : Int} {bx g1 c1 g2 c2 : Nat} {us ds : List Int} (h : CS w wr B a len cap N bx g1 c1 g2 c2 us ds) (hB : B < w.heap.size) (hh : Hole B wr w') (hc : Cur w' B a len cap M) : CS w w' B a len cap M bx g1 c1 g2 c2 us ds := by
  have h1 := h.lt
  have h2 := h.hbx
  exact ⟨h.hole.trans hh, hc, (hh.block _ (by omega) (by omega)).trans h.rr, h.hbx, (hh.block _ (by omega) (by omega)).trans h.box, h.rows.off hh (by omega), h.pos⟩

theorem CS.more {w wr : World} {B : Nat} {a : Option Addr} {len cap : Nat} {N M : Int} {bx g1 c1 g2 c2 : Nat} {us ds : List Int} (h : CS w wr B a len cap N bx g1 c1 g2 c2 us ds) (hM : N ≤ M) : CS w wr B a len cap M bx g1 c1 g2 c2 us ds := ⟨h.hole, h.cur.more hM, h.rr, h.hbx, h.box, h.rows, h.pos⟩

/-- What a call of the specification's CounterAdd hands over while a counter is drawn. -/
def GotC (base : Nat) (M : Int) (w : World) (v : Value) : Prop := ∃ g c g' c' us ds, v = cntV (some ⟨g, 0, none⟩) us.length c (some ⟨g', 0, none⟩) ds.length c' ∧ smallC M us ds ∧ RowsC w base (some ⟨g, 0, none⟩) us.length c (some ⟨g', 0, none⟩) ds.length c' us ds

theorem GotC.off {w w' : World} {B base : Nat} {M : Int} {v : Value} (h : GotC base M w v) (hh : Hole B w w') (hB : B < base) : GotC base M w' v := by
  obtain ⟨g, c, g', c', us, ds, h1, h2, h3⟩ := h
  exact ⟨g, c, g', c', us, ds, h1, h2, h3.off hh hB⟩

def TupC (base : Nat) (M : Int) : Fact := fun v w => ∃ u, v = .tuple #[u, .bool true] ∧ GotC base M w u

theorem lasts_tupC (c : Int) (B : Nat) (a : Option Addr) (len cap base : Nat) (M : Int) (hB : B < base) : lasts (CurK c B a len cap) (TupC base M) := by
  rintro v w w' ⟨u, h1, h2⟩ hr
  exact ⟨u, h1, h2.off hr.1 hB⟩

theorem lasts_gotC (c : Int) (B : Nat) (a : Option Addr) (len cap base : Nat) (M : Int) (hB : B < base) : lasts (CurK c B a len cap) (fun v w => GotC base M w v) := fun _ _ _ h hr => h.off hr.1 hB

def BoxK (B : Nat) : Fact := fun v w => ∃ b, v = .pointer (some ⟨b, 0, none⟩) ∧ B ≤ b ∧ w.heap[b]? = some (.cells #[.slice none 0 0, .slice none 0 0] 26 (0, 0))

theorem lasts_boxK (c : Int) (B D : Nat) (a : Option Addr) (len cap : Nat) (hD : B < D) : lasts (CurK c B a len cap) (BoxK D) := by
  rintro v w w' ⟨b, h1, h2, h3⟩ hr
  exact ⟨b, h1, h2, (hr.1.block b (Array.getElem?_eq_some_iff.1 h3).1 (by omega)).trans h3⟩

set_option maxRecDepth 100000 in
theorem got_slice {w : World} {base : Nat} {M : Int} {v : Value} (h : GotC base M w v) : ∃ a n c b m d us ds, v = cntV a n c b m d ∧ smallC M us ds ∧ us.length = n ∧ ds.length = m ∧ IsC w a b us ds := by
  obtain ⟨g, c, g', c', us, ds, h1, h2, h3⟩ := h
  exact ⟨_, _, _, _, _, _, us, ds, h1, h2, rfl, rfl, (row_int h3.1).isIs, (row_int h3.2.1).isIs⟩

/-- The box of the counter gets another one. -/
theorem CS.next {w wr w' : World} {B : Nat} {a : Option Addr} {len cap : Nat} {N M : Int} {bx g1 c1 g2 c2 h1 d1 h2 d2 : Nat} {us ds us' ds' : List Int} (h : CS w wr B a len cap N bx g1 c1 g2 c2 us ds) (hB : B < w.heap.size) (hh : Hole B wr w') (hc : Cur w' B a len cap M) (hr : RowsC w' (w.heap.size + 1) (some ⟨h1, 0, none⟩) us'.length d1 (some ⟨h2, 0, none⟩) ds'.length d2 us' ds') (hp : 0 < us'.length ∧ 1 < ds'.length) :
    CS w ((w'.setCell ⟨bx, 0, none⟩ (.slice (some ⟨h1, 0, none⟩) us'.length d1)).setCell ⟨bx, 1, none⟩ (.slice (some ⟨h2, 0, none⟩) ds'.length d2)) B a len cap M bx h1 d1 h2 d2 us' ds' := by
  have l1 := h.lt
  have l2 := h.hbx
  have hb := (hh.block bx (by omega) (by omega)).trans h.box
  have n1 := row_ne hr.1 hp.1 (fun _ _ e => by cases e) hb
  have n2 := row_ne hr.2.1 (by omega) (fun _ _ e => by cases e) hb
  refine ⟨((h.hole.trans hh).setNew (by omega) 0 _).setNew (by omega) 1 _, (hc.setOther (by omega) 0 _).setOther (by omega) 1 _, ?_, h.hbx, two_setCell1 (two_setCell0 hb), ?_, hp⟩
  · exact (Below.heap_setCell _ _ _ _ (by show w.heap.size ≠ bx; omega)).trans ((Below.heap_setCell _ _ _ _ (by show w.heap.size ≠ bx; omega)).trans ((hh.block _ (by omega) (by omega)).trans h.rr))
  · exact (hr.kept (grown_set w' bx 0 _) (fun e => n1 (own_slice e).symm) (fun e => n2 (own_slice e).symm)).kept (grown_set _ bx 1 _) (fun e => n1 (own_slice e).symm) (fun e => n2 (own_slice e).symm)

theorem row_cell {w : World} {base g n c i : Nat} {zs : List Int} (h : RowI w base (.slice (some ⟨g, 0, none⟩) n c) zs) (hi : i < zs.length) : w.cell? ⟨g, i, none⟩ = some (.int .i64 (zs.getD i 0)) ∧ ∀ o, w.frozen? ⟨g, o, none⟩ = false := by
  rcases row_int h with e | ⟨q, hq, -, -, -, hc, hf⟩
  · rw [e] at hi
    cases hi
  · injection hq with hq
    injection hq with hq
    subst hq
    exact ⟨hc i hi, hf⟩

theorem CS.setx {w wr : World} {B : Nat} {a : Option Addr} {len cap : Nat} {N : Int} {bx g1 c1 g2 c2 : Nat} {us ds : List Int} (h : CS w wr B a len cap N bx g1 c1 g2 c2 us ds) (hB : B < w.heap.size) (q : Nat) (z : Int) : CS w (wr.setCell ⟨g1, q, none⟩ (.int .i64 z)) B a len cap N bx g1 c1 g2 c2 (us.set q z) ds := by
  have hg := (World.ownsRow.lt h.rows.1 g1 rfl).1
  have n1 := row_ne h.rows.1 h.pos.1 (fun _ _ e => by cases e) h.box
  refine ⟨h.hole.setNew (by omega) q _, h.cur.setOther (by omega) q _, (Below.heap_setCell _ _ _ _ (by show w.heap.size ≠ g1; omega)).trans h.rr, h.hbx, ?_, ?_, by rw [List.length_set]; exact h.pos⟩
  · rw [List.length_set]
    exact (Below.heap_setCell _ _ _ _ (by show bx ≠ g1; omega)).trans h.box
  · have := h.rows.setx q z
    rw [List.length_set]
    exact this

theorem CS.sety {w wr : World} {B : Nat} {a : Option Addr} {len cap : Nat} {N : Int} {bx g1 c1 g2 c2 : Nat} {us ds : List Int} (h : CS w wr B a len cap N bx g1 c1 g2 c2 us ds) (hB : B < w.heap.size) (q : Nat) (z : Int) : CS w (wr.setCell ⟨g2, q, none⟩ (.int .i64 z)) B a len cap N bx g1 c1 g2 c2 us (ds.set q z) := by
  have hg := (World.ownsRow.lt h.rows.2.1 g2 rfl).1
  have n1 := row_ne h.rows.2.1 (by have := h.pos.2; omega) (fun _ _ e => by cases e) h.box
  refine ⟨h.hole.setNew (by omega) q _, h.cur.setOther (by omega) q _, (Below.heap_setCell _ _ _ _ (by show w.heap.size ≠ g2; omega)).trans h.rr, h.hbx, ?_, ?_, by rw [List.length_set]; exact h.pos⟩
  · rw [List.length_set]
    exact (Below.heap_setCell _ _ _ _ (by show bx ≠ g2; omega)).trans h.box
  · have := h.rows.sety q z
    rw [List.length_set]
    exact this

theorem CS.box_ne {w wr : World} {B : Nat} {a : Option Addr} {len cap : Nat} {N : Int} {bx g1 c1 g2 c2 : Nat} {us ds : List Int} (h : CS w wr B a len cap N bx g1 c1 g2 c2 us ds) : some bx ≠ (Value.slice (some ⟨g2, 0, none⟩) ds.length c2).ownBlock := fun e => by
  have n1 := row_ne h.rows.2.1 (by have := h.pos.2; omega) (fun _ _ e => by cases e) h.box
  exact n1 (own_slice e.symm).symm

theorem CS.grow {w wr w' : World} {B : Nat} {a : Option Addr} {len cap : Nat} {N : Int} {bx g1 c1 g2 c2 g8 c8 : Nat} {us ds : List Int} {z : Int} (h : CS w wr B a len cap N bx g1 c1 g2 c2 us ds) (hB : B < w.heap.size) (hG : wr.grownBy w' (Value.slice (some ⟨g2, 0, none⟩) ds.length c2).ownBlock) (hr : RowI w' (w.heap.size + 1) (.slice (some ⟨g8, 0, none⟩) (ds.length + 1) c8) (ds ++ [z])) (hg : (Value.slice (some ⟨g2, 0, none⟩) ds.length c2).ownBlock = some g8 ∨ wr.heap.size ≤ g8) :
    CS w (w'.setCell ⟨bx, 1, none⟩ (.slice (some ⟨g8, 0, none⟩) (ds.length + 1) c8)) B a len cap N bx g1 c1 g8 c8 us (ds ++ [z]) := by
  have hg2 := World.ownsRow.lt h.rows.2.1 g2 rfl
  have hg1 := World.ownsRow.lt h.rows.1 g1 rfl
  have hlt := h.lt
  have hbb := h.hbx
  have hne := h.box_ne
  have hob : ∀ q, (Value.slice (some ⟨g2, 0, none⟩) ds.length c2).ownBlock = some q → w.heap.size + 1 ≤ q := fun q hq => by
    have := own_slice hq
    omega
  have hbox := (hG.block bx hlt hne).trans h.box
  have hgb : g8 ≠ bx := row_ne hr (by simp) (fun _ _ e => by cases e) hbox
  have hg1b : g1 ≠ bx := row_ne h.rows.1 h.pos.1 (fun _ _ e => by cases e) h.box
  have hnr : ∀ q, q < w.heap.size + 1 → some q ≠ (Value.slice (some ⟨g2, 0, none⟩) ds.length c2).ownBlock := fun q hq e => by have := hob q e.symm; omega
  have hh : Hole B w w' := ⟨hG.os.trans h.hole.os, hG.tape.trans h.hole.tape, hG.output.trans h.hole.output, Nat.le_trans h.hole.size hG.size, fun j hj hn => (hG.block j (Nat.lt_of_lt_of_le hj h.hole.size) (hnr j (by omega))).trans (h.hole.block j hj hn)⟩
  have hx : RowI w' (w.heap.size + 1) (.slice (some ⟨g1, 0, none⟩) us.length c1) us := World.ownsRow.kept h.rows.1 hG (.inr fun e => h.rows.2.2.1 g1 rfl e.symm)
  have hl : (ds ++ [z]).length = ds.length + 1 := by simp
  refine ⟨hh.setNew (by omega) 1 _, (h.cur.grown hG (fun q hq => Nat.lt_of_lt_of_le hB (Nat.le_trans (Nat.le_succ _) (hob q hq)))).setOther (Nat.lt_trans hB hbb) 1 _, ?_, h.hbx, ?_, ?_, h.pos.1, by rw [hl]; have := h.pos.2; omega⟩
  · exact (Below.heap_setCell _ _ _ _ (by show w.heap.size ≠ bx; omega)).trans ((hG.block _ (Nat.lt_trans hbb hlt) (hnr _ (Nat.lt_succ_self _))).trans h.rr)
  · rw [hl]
    exact two_setCell1 hbox
  · rw [hl]
    refine ⟨World.ownsRow.kept hx (grown_set w' bx 1 _) (.inr fun e => hg1b (own_slice e).symm), World.ownsRow.kept hr (grown_set w' bx 1 _) (.inr fun e => hgb (own_slice e).symm), fun q hq e => ?_, rfl, hl⟩
    have e1 := own_slice hq
    have e2 := own_slice e
    rcases hg with hg | hg
    · have e3 := own_slice hg
      exact h.rows.2.2.1 g1 rfl (by show some g2 = some g1; rw [← e1, e2, e3])
    · omega

theorem rowsC_box {w : World} {base b : Nat} {g c g' c' : Nat} {us ds : List Int} {s s' t t' : Value} (h : RowsC w base (some ⟨g, 0, none⟩) us.length c (some ⟨g', 0, none⟩) ds.length c' us ds) (hp : 0 < us.length ∧ 0 < ds.length) (hs : ∀ k z, s ≠ .int k z) (hb : w.heap[b]? = some (.cells #[s, t] 26 (0, 0))) : RowsC ((w.setCell ⟨b, 0, none⟩ s').setCell ⟨b, 1, none⟩ t') base (some ⟨g, 0, none⟩) us.length c (some ⟨g', 0, none⟩) ds.length c' us ds := by
  have n1 := row_ne h.1 hp.1 hs hb
  have n2 := row_ne h.2.1 hp.2 hs hb
  exact (h.kept (grown_set w b 0 _) (fun e => n1 (own_slice e).symm) (fun e => n2 (own_slice e).symm)).kept (grown_set _ b 1 _) (fun e => n1 (own_slice e).symm) (fun e => n2 (own_slice e).symm)

set_option maxRecDepth 100000 in
theorem add_got (base : Nat) (M K : Int) (g1 c1 g2 c2 : Nat) (us ds : List Int) (q : Nat) (z : Int) (w : World) (hm : smallC M us ds) (hM : M ≤ 100000) (hK : M + 100 ≤ K) (hq : (q : Int) < 4) (h1 : -100 ≤ z) (h2 : z ≤ 100) (hb : base ≤ w.heap.size) (hr : RowsC w base (some ⟨g1, 0, none⟩) us.length c1 (some ⟨g2, 0, none⟩) ds.length c2 us ds) :
    Calls Try.prog 15 #[cntV (some ⟨g1, 0, none⟩) us.length c1 (some ⟨g2, 0, none⟩) ds.length c2, .int .i64 (q : Int), .int .i64 z] w fun e w' => ∃ u, e = .returned (.tuple #[u, .bool true]) ∧ GotC base K w' u ∧ Below w.heap.size w w' := by
  have hl := small_len hm
  obtain ⟨ha, hs⟩ := small_add hm hM q (by omega) z h1 h2
  have hg := ca_good ha
  refine (specCounterAdd_row _ _ c1 _ _ c2 us ds (q : Int) z w rfl (by unfold maxLen; omega) rfl (by unfold maxLen; omega) ⟨(row_int hr.1).isIs, (row_int hr.2.1).isIs⟩).mono ?_
  rintro e w' ⟨g, cp, g', cp', rfl, hrr, hbb⟩
  rw [hg.1, hg.2] at hrr
  rw [hg.1, hg.2, ha]
  have hs' : smallC K (addU us (q : Int) z) (addD ds (q : Int) z) := ⟨perB_more hs.1 hK, perB_more hs.2 hK⟩
  have hl' := small_len hs'
  obtain ⟨x, hx⟩ := row_ptr hrr.1 (by omega)
  obtain ⟨y, hy⟩ := row_ptr hrr.2.1 (by omega)
  subst hx hy
  exact ⟨_, rfl, ⟨x, cp, y, cp', _, _, rfl, hs', hrr.mono hb⟩, hbb⟩

theorem got_zeros (w : World) (B : Nat) (hB : B ≤ w.heap.size) (o : Oper) (ho : o.op = .makeSlice 24 (.const (.int .i64 4)) (.const (.int .i64 4))) {ρ : Operand → Value} (hp : Plain ρ) : got Try.prog (fun v w' => Below w.heap.size w w' ∧ RowNF B [0, 0, 0, 0] v w' ∧ NewV w v w') ((execOp ρ o).run Try.prog w) := by
  have hr : (Instr.makeSlice 24 (.int .i64 4) (.int .i64 4)).run Try.prog w = .ok (.slice (some ⟨w.heap.size, 0, none⟩) 4 4) (w.alloc (.cells (madeCells #[.int .i64 0] 4) 3)) := run_make_ints 4 (by omega) w
  have hrow : RowI (w.alloc (.cells (madeCells #[.int .i64 0] 4) 3)) B (.slice (some ⟨w.heap.size, 0, none⟩) 4 4) [0, 0, 0, 0] := ⟨rfl, .inr ⟨w.heap.size, 4, _, rfl, hB, heap_alloc_new w _, Nat.le_refl _, by unfold maxLen; omega, by rw [size_madeCells], by simp [madeCells, intV]; rfl⟩⟩
  unfold execOp
  rw [ho]
  simp only [hp.1, Sem.run_bind, hr, Result.andThen_ok, Sem.run_pure]
  refine ⟨(Below.refl _ _).alloc (Nat.le_refl _) _, ⟨w.heap.size, 4, rfl, hB, by simp, hrow⟩, by simp, fun g hg => ?_⟩
  have := own_slice hg
  subst this
  exact ⟨Nat.le_refl _, by simp⟩

set_option maxRecDepth 100000 in
set_option maxHeartbeats 8000000 in
theorem counter_any (B : Nat) (a : Option Addr) (len cap : Nat) (N : Int) (w : World) (hN : N ≤ 80000) (h : Cur w B a len cap N) :
    Calls Try.prog 20 #[.pointer (some ⟨B, 0, none⟩)] w fun e w' => ∃ g cp g' cq us ds, e = .returned (cntV (some ⟨g, 0, none⟩) us.length cp (some ⟨g', 0, none⟩) ds.length cq) ∧ us.length ≤ 5 ∧ ds.length ≤ 5 ∧ RowsC w' w.heap.size (some ⟨g, 0, none⟩) us.length cp (some ⟨g', 0, none⟩) ds.length cq us ds ∧ Cur w' B a len cap (N + 200) ∧ Hole B w w' := by
  have hB := h.lt
  have hres : Try.f20.results = #[.cell 2 26] := by kernel_rfl
  obtain ⟨i0, hi0, hx0⟩ := Option.map_eq_some_iff.1 infoInt
  simp only [Prod.mk.injEq] at hx0
  have HI0 := Lib.hid hi0
  have HX0 := Lib.hid hx0
  have hA : Below w.heap.size w (w.alloc (.cells #[.slice none 0 0, .slice none 0 0] 26)) := (Below.refl _ _).alloc (Nat.le_refl _) _
  have HC := Lib.hid (h.below hA)
  have HH := Lib.hid (Hole.of_below (B := B) hA)
  have hrr : (w.alloc (.cells #[.slice none 0 0, .slice none 0 0] 26)).heap[w.heap.size]? = some (.cells #[.slice none 0 0, .slice none 0 0] 26 (0, 0)) := heap_alloc_new w _
  have HRR := Lib.hid hrr
  have hz0 : (w.alloc (.cells #[.slice none 0 0, .slice none 0 0] 26)).heap.size = w.heap.size + 1 := by simp
  have HZ0 := Lib.hid hz0
  clear h hi0 hx0 hA hrr hz0
  go_enter Try.func20, Try.ntmps20
  go_wp2_with fail
  generalize (w.alloc (.cells #[.slice none 0 0, .slice none 0 0] 26)) = V at *
  refine wp_region_slotsP 4 [[], [], [(7, true), (8, true)], []] (fun a w' => Below V.heap.size V w' ∧ PairB (fun x => x == 7 || x == 8) a w') (fun w w' => Below w.heap.size w w') (by kernel_rfl) (by kernel_rfl) (by rfl) ⟨(Below.refl _ _).drew, ?_⟩ ?_
  · intro x hx g hg
    simp only [Bool.or_eq_true, beq_iff_eq] at hx
    rcases hx with rfl | rfl
    · simp [Act.eval, undef, Value.ownBlock] at hg
    · simp [Act.eval, undef, Value.ownBlock] at hg
  refine slotP_new (d := 7) (RowNF V.heap.size [0, 0, 0, 0]) (lasts_rowNF _ _) rfl (by simp) (fun _ _ h hr => below_step h h.size hr) ?_ ?_
  · intro ρ w' ⟨p1, p2, p3⟩ hS hn
    exact got_zeros w' V.heap.size hS.size _ rfl ⟨p1, p2, p3⟩
  refine slotP_new (d := 8) (RowNF V.heap.size [0, 0, 0, 0]) (lasts_rowNF _ _) rfl (by simp) (fun _ _ h hr => below_step h h.size hr) ?_ ?_
  · intro ρ w' ⟨p1, p2, p3⟩ hS hn
    exact got_zeros w' V.heap.size hS.size _ rfl ⟨p1, p2, p3⟩
  refine slotP_act (TwoF V.heap.size [0, 0, 0, 0] [0, 0, 0, 0]) (lasts_twoF _ _ _) (by intro x hx; cases hx; rfl) (fun _ _ h hr => below_step h h.size hr) (fun _ _ h => h.size) ?_ ?_
  · intro ρ w' ⟨p1, p2, p3⟩ hS hP hn
    simp at hn
    obtain ⟨⟨g1, c1, e1, l1, k1, o1⟩, g2, c2, e2, l2, k2, o2⟩ := hn
    have hne : g2 ≠ g1 := fun e => hP 7 rfl g1 (by rw [e1]; rfl) 8 rfl (by decide) (by rw [e2, e]; rfl)
    go_simp
    exact ⟨Below.refl _ _, g1, c1, g2, c2, rfl, l1, l2, k1, k2, hne, o1, o2, fun q hq e => hne (by rw [own_slice hq] at e; exact (own_slice e).symm), rfl, rfl⟩
  refine slotP_fact (Box2F V.heap.size) (lasts_box2F _) (by intro x hx; cases hx; rfl) (fun _ _ h hr => below_step h h.size hr) (fun _ _ h => h.size) ?_ ?_
  · intro ρ w' ⟨p1, p2, p3⟩ hS hn
    have hz := hS.size
    go_simp
    exact ⟨(Below.refl _ _).alloc (Nat.le_refl _) _, _, rfl, hz, heap_alloc_new _ _⟩
  refine slotP_end ?_
  rintro vs w2 ⟨hS, -⟩ hF
  simp at hF
  obtain ⟨⟨bx, fb, hb1, hb2⟩, ⟨g1, c1, g2, c2, f9, l1, l2, k1, k2, hne, hrc⟩, ⟨_, _, f8, -⟩, _, _, f7, -⟩ := hF
  simp only [List.take_succ_cons, List.take_zero, List.drop_succ_cons, List.drop_zero, putAll, fb, f9, f8, f7]
  clear fb f9 f8 f7
  simp only [Act.put, List.setIfInBounds_toArray, List.set_cons_succ, List.set_cons_zero]
  have hhc : Hole B V w2 := Hole.of_below hS
  have hbV : w.heap.size < bx := by have := HZ0.out; omega
  have HS0 : Hid (CS w ((w2.setCell ⟨bx, 0, none⟩ (.slice (some ⟨g1, 0, none⟩) 4 c1)).setCell ⟨bx, 1, none⟩ (.slice (some ⟨g2, 0, none⟩) 4 c2)) B a len cap N bx g1 c1 g2 c2 [0, 0, 0, 0] [0, 0, 0, 0]) := by
    have hr : RowsC w2 (w.heap.size + 1) (some ⟨g1, 0, none⟩) 4 c1 (some ⟨g2, 0, none⟩) 4 c2 [0, 0, 0, 0] [0, 0, 0, 0] := hrc.mono (by have := HZ0.out; omega)
    refine ⟨((HH.out.trans hhc).setNew (by omega) 0 _).setNew (by omega) 1 _, ((HC.out.below hS).setOther (by omega) 0 _).setOther (by omega) 1 _, ?_, hbV, two_setCell1 (two_setCell0 hb2), rowsC_box (us := [0, 0, 0, 0]) (ds := [0, 0, 0, 0]) hr (by simp) (fun _ _ e => by cases e) hb2, by simp⟩
    exact (Below.heap_setCell _ _ _ _ (by show w.heap.size ≠ bx; omega)).trans ((Below.heap_setCell _ _ _ _ (by show w.heap.size ≠ bx; omega)).trans ((hS.block _ (by have := HZ0.out; omega)).trans HRR.out))
  have HM0 : Hid (smallC 0 [0, 0, 0, 0] [0, 0, 0, 0]) := ⟨by decide, by decide⟩
  obtain ⟨cx0, cx1, fx, -⟩ := cells_two hb2
  clear hS hhc hrc hb2 l1 l2 k1 k2 hne HC HH HRR HZ0 hb1
  go_wp2_with fail
  clear cx0 cx1 fx hbV
  generalize ((w2.setCell ⟨bx, 0, none⟩ (.slice (some ⟨g1, 0, none⟩) 4 c1)).setCell ⟨bx, 1, none⟩ (.slice (some ⟨g2, 0, none⟩) 4 c2)) = W3 at *
  refine (pick_any B a len cap _ 6 _ (by omega) (by omega) (by omega) HS0.out.cur).mono ?_
  rintro e w3 ⟨r, rfl, hr0, hr6, hc3, hh3⟩
  have HS3 := Lib.hid (HS0.out.move hB hh3 hc3)
  clear hc3 hh3 HS0
  obtain ⟨k0, hk0, hk05⟩ : ∃ k : Nat, r = (k : Int) ∧ k ≤ 5 := ⟨r.toNat, by omega, by omega⟩
  subst hk0
  go_wp2
  go_loopw [4] (fun i wr => ∃ (k : Nat) (g1 c1 g2 c2 : Nat) (us ds : List Int), k ≤ 5 ∧ i = .int .i64 k ∧ Hid (smallC (500 - 100 * (k : Int)) us ds) ∧ Hid (CS w wr B a len cap (N + 1 + 100 - 20 * (k : Int)) bx g1 c1 g2 c2 us ds)) (fun i _ => (intOf i).toNat)
  case atStart => exact ⟨k0, g1, c1, g2, c2, _, _, hk05, rfl, ⟨perB_more HM0.out.1 (by omega), perB_more HM0.out.2 (by omega)⟩, HS3.out.more (by omega)⟩
  case round =>
    clear HS3 HM0 hr0 hr6 hk05
    obtain ⟨k, g1, c1, g2, c2, us, ds, hk, rfl, HM, HS⟩ := hrel
    have hlt := HS.out.lt
    by_cases hk' : 0 < k
    · obtain ⟨j, rfl⟩ : ∃ j, k = j + 1 := ⟨k - 1, by omega⟩
      have i1 : (0 : Int) < ((j + 1 : Nat) : Int) := by omega
      go_wp2_with fail
      have HS6 := Lib.hid (HS.out.more (show _ ≤ N + 1 + 100 - 20 * ((j + 1 : Nat) : Int) + 13 - ((13 : Nat) : Int) by omega))
      refine wp_region_slots_w 11 [9] (16, 23) [[(3, false)], [(0, false)], [(18, true)], [(0, false)], [(20, true)], [(21, true)], [(17, true), (19, true), (22, true)], [(23, true)], [(16, true)], [(16, true)], []] (fun w' => ∃ f : Nat, f ≤ 13 ∧ Hole B wr w' ∧ CS w w' B a len cap (N + 1 + 100 - 20 * ((j + 1 : Nat) : Int) + 13 - (f : Int)) bx g1 c1 g2 c2 us ds) (fun w' => Hole B wr w' ∧ CS w w' B a len cap (N + 1 + 100 - 20 * ((j + 1 : Nat) : Int) + 13) bx g1 c1 g2 c2 us ds) (fun f w' => Hole B wr w' ∧ CS w w' B a len cap (N + 1 + 100 - 20 * ((j + 1 : Nat) : Int) + 13 - (f : Int)) bx g1 c1 g2 c2 us ds) (fun _ _ => True) (fun _ => none) (fun _ w w' => CurK 1 B a len cap w w') (by kernel_rfl) (by kernel_rfl) (fun _ _ d _ _ h => by cases d <;> exact h) (by rfl) ⟨(Hole.refl _ _).drew, HS6.out.move hB (Hole.refl _ _).drew (HS6.out.cur.below (Below.refl _ _).drew)⟩ (by kernel_rfl) (fun _ => trivial) (fun _ => trivial) (by kernel_rfl) (fun _ _ _ _ _ _ _ _ => trivial) (fun _ _ _ _ _ _ h => by cases h) (fun _ f w1 w2 h1 h2 => ⟨h1.1.trans h2.1, (h1.2.move hB h2.1 (h2.2 _ (by omega) h1.2.cur)).more (by push_cast; omega)⟩) (fun f w1 hf h => ⟨f + 1, Nat.succ_le_of_lt (by simpa using hf), h⟩) (fun f w1 hf h => ⟨h.1, h.2.more (by omega)⟩) ?_
      apply slotU_eq
      · intro ρ w' ⟨p1, p2, p3⟩ ⟨f, hf, hG, hS⟩ _ hn
        obtain ⟨d0, d1, -, -⟩ := cells_two hS.box
        simp at hn
        go_simp
        exact ⟨curK_refl 1 (by omega) _ _ _ _ _, rfl⟩
      apply slotU_eq
      · intro ρ w' ⟨p1, p2, p3⟩ ⟨f, hf, hG, hS⟩ _ hn
        simp at hn
        go_simp
        exact ⟨curK_refl 1 (by omega) _ _ _ _ _, rfl⟩
      refine slotU_fact (LessK 4) (fun _ _ _ _ _ _ h _ => h) ?_ ?_
      · intro ρ w' ⟨p1, p2, p3⟩ ⟨f, hf, hG, hS⟩ _ hn
        simp at hn
        go_simp
        exact got_call (pick_curK 1 (by omega) B a len cap _ 4 w' (by omega) (by omega) (by omega) hS.cur) fun e w'' ⟨r, he, hr, hk⟩ => ⟨_, he, hk, r, rfl, hr⟩
      apply slotU_eq
      · intro ρ w' ⟨p1, p2, p3⟩ ⟨f, hf, hG, hS⟩ _ hn
        simp at hn
        go_simp
        exact ⟨curK_refl 1 (by omega) _ _ _ _ _, rfl⟩
      refine slotU_fact (LessK 20) (fun _ _ _ _ _ _ h _ => h) ?_ ?_
      · intro ρ w' ⟨p1, p2, p3⟩ ⟨f, hf, hG, hS⟩ _ hn
        simp at hn
        go_simp
        exact got_call (pick_curK 1 (by omega) B a len cap _ 20 w' (by omega) (by omega) (by omega) hS.cur) fun e w'' ⟨r, he, hr, hk⟩ => ⟨_, he, hk, r, rfl, hr⟩
      refine slotU_fact (fun v _ => ∃ z : Int, v = .int .i64 z ∧ -100 ≤ z ∧ z ≤ 100) (fun _ _ _ _ _ _ h _ => h) ?_ ?_
      · intro ρ w' ⟨p1, p2, p3⟩ ⟨f, hf, hG, hS⟩ _ hn
        simp at hn
        obtain ⟨r, e21, hr⟩ := hn
        have hsub : IntKind.i64.wrap ((r : Int) - 8) = (r : Int) - 8 := IntWalk.i64_in _ ⟨by omega, by omega⟩
        go_simp
        exact ⟨curK_refl 1 (by omega) _ _ _ _ _, _, rfl, by omega, by omega⟩
      refine slotU_fact (TupC (w.heap.size + 1) (500 - 100 * (j : Int))) (fun _ _ _ => lasts_tupC _ _ _ _ _ _ _ (by omega)) ?_ ?_
      · intro ρ w' ⟨p1, p2, p3⟩ ⟨f, hf, hG, hS⟩ _ hn
        simp at hn
        obtain ⟨e17, ⟨r, e19, hr⟩, z, e22, hz1, hz2⟩ := hn
        have hsz := hS.lt
        have hbb := hS.hbx
        go_simp
        exact got_call (add_got (w.heap.size + 1) (500 - 100 * ((j + 1 : Nat) : Int)) (500 - 100 * (j : Int)) g1 c1 g2 c2 us ds r z w' HM.out (by omega) (by push_cast; omega) (by omega) hz1 hz2 (by omega) hS.rows) fun e w'' ⟨u, he, hg, hb⟩ => ⟨_, he, curK_below 1 (by omega) _ _ _ _ hb, u, rfl, hg⟩
      refine slotU_fact (TupC (w.heap.size + 1) (500 - 100 * (j : Int))) (fun _ _ _ => lasts_tupC _ _ _ _ _ _ _ (by omega)) ?_ ?_
      · intro ρ w' ⟨p1, p2, p3⟩ ⟨f, hf, hG, hS⟩ _ hn
        simp at hn
        obtain ⟨u, e23, hu⟩ := hn
        go_simp
        exact ⟨curK_refl 1 (by omega) _ _ _ _ _, u, rfl, hu⟩
      refine slotU_fact (fun v wx => GotC (w.heap.size + 1) (500 - 100 * (j : Int)) wx v) (fun _ _ _ => lasts_gotC 1 B a len cap (w.heap.size + 1) _ (by omega)) ?_ ?_
      · intro ρ w' ⟨p1, p2, p3⟩ ⟨f, hf, hG, hS⟩ _ hn
        simp at hn
        obtain ⟨u, e16, hu⟩ := hn
        go_simp
        exact ⟨curK_refl 1 (by omega) _ _ _ _ _, hu⟩
      apply slotU_eq
      · intro ρ w' ⟨p1, p2, p3⟩ ⟨f, hf, hG, hS⟩ _ hn
        simp at hn
        obtain ⟨u, e16, hu⟩ := hn
        go_simp
        exact ⟨curK_refl 1 (by omega) _ _ _ _ _, rfl⟩
      refine slotU_fact (BoxK wr.heap.size) (fun _ _ _ => lasts_boxK _ _ _ _ _ _ (by have := HS.out.hbx; omega)) ?_ ?_
      · intro ρ w' ⟨p1, p2, p3⟩ ⟨f, hf, hG, hS⟩ _ hn
        have hz := hG.size
        go_simp
        exact ⟨curK_below 1 (by omega) _ _ _ _ ((Below.refl _ _).alloc (Nat.le_refl _) _), _, rfl, hz, heap_alloc_new _ _⟩
      refine slotU_end ?_
      rintro vs w4 ⟨hG, hS⟩ hF
      simp at hF
      obtain ⟨⟨b5, f5, hb51, hb52⟩, f25, f24, ⟨_, f16, -⟩, ⟨_, f23, -⟩, ⟨_, f22, -⟩, ⟨_, f21, -⟩, f20, ⟨_, f19, -⟩, f18, f17⟩ := hF
      obtain ⟨g1', c1', g2', c2', us', ds', f24, hm', hr'⟩ := f24
      have hl' := small_len hm'
      have HLN := Lib.hid hl'
      have HM2 := Lib.hid hm'
      have hbx5 : bx < b5 := by omega
      have hbb := HS.out.hbx
      obtain ⟨x0, x1, fx, lx⟩ := cells_two hb52
      obtain ⟨y0, y1, fy, ly⟩ := cells_two hS.box
      have HN5 := Lib.hid (HS.out.next (us' := us') (ds' := ds') hB ((hG.setNew hb51 0 (.slice (some ⟨g1', 0, none⟩) us'.length c1')).setNew hb51 1 (.slice (some ⟨g2', 0, none⟩) ds'.length c2')) ((((hS.cur.more (show _ ≤ N + 1 + 100 - 20 * (j : Int) by push_cast; omega))).setOther (by omega) 0 _).setOther (by omega) 1 _) (rowsC_box hr' (by omega) (fun _ _ e => by cases e) hb52) (by omega))
      clear hG hS hb52 hr' hm' HS HM HS6 hb51 hl'
      simp only [List.take_succ_cons, List.take_zero, List.drop_succ_cons, List.drop_zero, putAll, f5, f25, f24, f16, f23, f22, f21, f20, f19, f18, f17]
      clear f5 f25 f24 f16 f23 f22 f21 f20 f19 f18 f17
      simp only [Act.put, List.setIfInBounds_toArray, List.set_cons_succ, List.set_cons_zero]
      go_wp2
      exact ⟨⟨j, g1', c1', g2', c2', us', ds', by omega, by (congr 1) <;> (try push_cast) <;> (try omega), HM2, HN5⟩, by simp [intOf]⟩
    · have hkk : k = 0 := by omega
      subst hkk
      have hl := small_len HM.out
      have HLN := Lib.hid hl
      clear hl HM hlt
      have HS4 := Lib.hid (HS.out.more (show _ ≤ N + 101 by omega))
      clear HS
      go_wp2_with fail
      refine (once_any B a len cap _ 10 _ (by omega) (by omega) (by omega) HS4.out.cur).mono ?_
      rintro e w5 ⟨r5, rfl, hc5, hh5⟩
      have HV5 := Lib.hid (HS4.out.move hB hh5 hc5)
      clear hc5 hh5 HS4
      cases r5
      · obtain ⟨y0, y1, fy, ly⟩ := cells_two HV5.out.box
        obtain ⟨r0, r1, fr, lr⟩ := cells_two HV5.out.rr
        go_wp2
        refine bodyPost_ret (v := cntV (some ⟨g1, 0, none⟩) us.length c1 (some ⟨g2, 0, none⟩) ds.length c2) ?_ rfl ?_
        · simp only [results, hres]
          go_simp
        · exact ⟨g1, c1, g2, c2, us, ds, rfl, by have := HLN.out.1; omega, by have := HLN.out.2; omega, ((HV5.out.rows.aside (p := ⟨w.heap.size, 0, none⟩) (Nat.lt_succ_self _) _).aside (p := ⟨w.heap.size, 1, none⟩) (Nat.lt_succ_self _) _).mono (Nat.le_succ _), ((HV5.out.cur.setOther hB 0 _).setOther hB 1 _).more (by omega), (HV5.out.hole.setNew (Nat.le_refl _) 0 _).setNew (Nat.le_refl _) 1 _⟩
      · go_wp2_with fail
        refine (pick_any B a len cap _ 3 _ (by omega) (by omega) (by omega) HV5.out.cur).mono ?_
        rintro e w6 ⟨r, rfl, hr0, hr3, hc6, hh6⟩
        have HV6 := Lib.hid (HV5.out.move hB hh6 hc6)
        clear hc6 hh6 HV5
        obtain ⟨y0, y1, fy, ly⟩ := cells_two HV6.out.box
        have OX := row_int HV6.out.rows.1
        have OY := row_int HV6.out.rows.2.1
        have hbxx := HV6.out.hbx
        by_cases h0 : r = 0
        · subst h0
          clear hr0 hr3 y0 y1 fy ly OX OY
          go_wp2_with fail
          have HS6 := Lib.hid (HV6.out.more (show _ ≤ N + 103 + 3 * 11 - 3 * ((11 : Nat) : Int) by omega))
          refine wp_region_slots_n 10 [[(3, false)], [(37, true)], [(0, false)], [(39, true)], [(40, true)], [(0, false)], [(42, true)], [(41, true), (43, true)], [(44, true)], [(38, true)]] (fun w' => ∃ f : Nat, f ≤ 11 ∧ CS w w' B a len cap (N + 103 + 3 * 11 - 3 * (f : Int)) bx g1 c1 g2 c2 us ds) (fun w' => CS w w' B a len cap (N + 103 + 3 * 11) bx g1 c1 g2 c2 us ds) (fun f w' => CS w w' B a len cap (N + 103 + 3 * 11 - 3 * (f : Int)) bx g1 c1 g2 c2 us ds) (CurK 3 B a len cap) (by kernel_rfl) (by kernel_rfl) (by rfl) (HS6.out.move hB (Hole.refl _ _).drew (HS6.out.cur.below (Below.refl _ _).drew)) (fun f w1 w2 h1 h2 => (h1.move hB h2.1 (h2.2 _ (by omega) h1.cur)).more (by push_cast; omega)) (fun f w1 hf h => ⟨f + 1, Nat.succ_le_of_lt (by simpa using hf), h⟩) (fun f w1 hf h => h.more (by omega)) ?_
          apply slot_eq
          · intro ρ w' ⟨p1, p2, p3⟩ ⟨f, hf, hS⟩ hn
            simp at hn
            go_simp
            exact ⟨curK_refl 3 (by omega) _ _ _ _ _, rfl⟩
          apply slot_eq
          · intro ρ w' ⟨p1, p2, p3⟩ ⟨f, hf, hS⟩ hn
            obtain ⟨d0, d1, -, -⟩ := cells_two hS.box
            simp at hn
            go_simp
            exact ⟨curK_refl 3 (by omega) _ _ _ _ _, rfl⟩
          apply slot_eq
          · intro ρ w' ⟨p1, p2, p3⟩ ⟨f, hf, hS⟩ hn
            simp at hn
            go_simp
            exact ⟨curK_refl 3 (by omega) _ _ _ _ _, rfl⟩
          refine slot_fact IntK (fun _ _ _ h _ => h) ?_ ?_
          · intro ρ w' ⟨p1, p2, p3⟩ ⟨f, hf, hS⟩ hn
            simp at hn
            go_simp
            exact got_call (raw_curK 3 (by omega) B a len cap _ w' (by omega) hS.cur) fun e w'' ⟨r, he, hk⟩ => ⟨_, he, hk, r, rfl⟩
          refine slot_fact (BuiltK B 3) (lasts_builtK _ _ _ _ _ _) ?_ ?_
          · intro ρ w' ⟨p1, p2, p3⟩ ⟨f, hf, hS⟩ hn
            simp at hn
            obtain ⟨r, f24⟩ := hn
            have hbs := hS.cur.lt
            go_simp
            exact ⟨curK_below 3 (by omega) _ _ _ _ ((Below.refl _ _).alloc (Nat.le_refl _) _), _, rfl, laid3 w' B r hbs _ _⟩
          apply slot_eq
          · intro ρ w' ⟨p1, p2, p3⟩ ⟨f, hf, hS⟩ hn
            simp at hn
            go_simp
            exact ⟨curK_refl 3 (by omega) _ _ _ _ _, rfl⟩
          refine slot_fact (LessK 3) (fun _ _ _ h _ => h) ?_ ?_
          · intro ρ w' ⟨p1, p2, p3⟩ ⟨f, hf, hS⟩ hn
            simp at hn
            go_simp
            exact got_call (pick_curK 3 (by omega) B a len cap _ 3 w' (by omega) (by omega) (by omega) hS.cur) fun e w'' ⟨r, he, hr, hk⟩ => ⟨_, he, hk, r, rfl, hr⟩
          refine slot_fact (PtrK B 3) (lasts_ptrK _ _ _ _ _ _) ?_ ?_
          · intro ρ w' ⟨p1, p2, p3⟩ ⟨f, hf, hS⟩ hn
            simp at hn
            obtain ⟨⟨b, f25, hL⟩, q, f27, hq⟩ := hn
            have i1 : (0 : Int) ≤ (q : Int) := by omega
            go_simp
            exact ⟨curK_refl 3 (by omega) _ _ _ _ _, b, q, rfl, by omega, hL⟩
          refine slot_fact IntK (fun _ _ _ h _ => h) ?_ ?_
          · intro ρ w' ⟨p1, p2, p3⟩ ⟨f, hf, hS⟩ hn
            simp at hn
            obtain ⟨b, q, f28, hq, hL⟩ := hn
            obtain ⟨z, hz⟩ := hL.cell hq
            go_simp
            exact ⟨curK_refl 3 (by omega) _ _ _ _ _, z, rfl⟩
          apply slot_eq
          · intro ρ w' ⟨p1, p2, p3⟩ ⟨f, hf, hS⟩ hn
            have hp := hS.pos.1
            have hi : (0 : Int) < (us.length : Int) := by omega
            simp at hn
            go_simp
            exact ⟨curK_refl 3 (by omega) _ _ _ _ _, rfl⟩
          refine slot_end ?_
          rintro vs w7 hS hF
          simp at hF
          obtain ⟨f46, ⟨z, f45⟩, ⟨b44, q44, f44, -⟩, ⟨q43, f43, -⟩, f42, ⟨b41, f41, -⟩, ⟨z40, f40⟩, f39, f38, f37⟩ := hF
          have HV7 := Lib.hid (hS.setx hB 0 z)
          obtain ⟨d0, dz⟩ := row_cell hS.rows.1 (i := 0) hS.pos.1
          clear hS HS6 HV6
          simp only [List.take_succ_cons, List.take_zero, List.drop_succ_cons, List.drop_zero, putAll, f46, f45, f44, f43, f42, f41, f40, f39, f38, f37]
          clear f46 f45 f44 f43 f42 f41 f40 f39 f38 f37
          simp only [Act.put, List.setIfInBounds_toArray, List.set_cons_succ, List.set_cons_zero]
          go_upto_region 15 with fail
          generalize (w7.setCell ⟨g1, 0, none⟩ (.int .i64 z)) = wX at *
          clear d0 dz
          obtain ⟨y0, y1, fy, ly⟩ := cells_two HV7.out.box
          obtain ⟨r0, r1, fr, lr⟩ := cells_two HV7.out.rr
          go_wp2
          refine bodyPost_ret (v := cntV (some ⟨g1, 0, none⟩) (us.set 0 z).length c1 (some ⟨g2, 0, none⟩) ds.length c2) ?_ rfl ?_
          · simp only [results, hres]
            go_simp
          · exact ⟨g1, c1, g2, c2, (us.set 0 z), ds, rfl, by rw [List.length_set]; have := HLN.out.1; omega, by have := HLN.out.2; omega, ((HV7.out.rows.aside (p := ⟨w.heap.size, 0, none⟩) (Nat.lt_succ_self _) _).aside (p := ⟨w.heap.size, 1, none⟩) (Nat.lt_succ_self _) _).mono (Nat.le_succ _), ((HV7.out.cur.setOther hB 0 _).setOther hB 1 _).more (by omega), (HV7.out.hole.setNew (Nat.le_refl _) 0 _).setNew (Nat.le_refl _) 1 _⟩
        by_cases h1 : r = 1
        · subst h1
          clear h0 hr0 hr3 y0 y1 fy ly OX OY
          have HA : Hid (Below w6.heap.size w6 (w6.alloc (.cells #[.int .i64 1] 3))) := (Below.refl _ _).alloc (Nat.le_refl _) _
          have HVA := Lib.hid (HV6.out.move hB (Hole.of_below HA.out) (HV6.out.cur.below HA.out))
          have HRA : Hid ((w6.alloc (.cells #[.int .i64 1] 3)).ownsRow (w.heap.size + 1) 3 1 (.slice (some ⟨g2, 0, none⟩) ds.length c2) ds.length (ds.map intV)) := HVA.out.rows.2.1
          have HCC := Lib.hid (oneI_cells w6 3 1)
          have hlt6 := HV6.out.lt
          obtain ⟨y0, y1, fy, ly⟩ := cells_two HV6.out.box
          clear HV6
          go_wp2_with (at_builtin; refine wpList_append_lies _ (by rfl) _ _ _ (by rfl) (w.heap.size + 1) 3 i0 (.int .i64 0) 1 8 Try.underlying24 HI0.out HX0.out.1 HX0.out.2.1 HX0.out.2.2 (by rfl) (by omega) (.slice (some ⟨g2, 0, none⟩) ds.length c2) ds.length (ds.map intV) (by rfl) HRA.out ⟨w6.heap.size, 0, none⟩ 1 1 [intV 1] (by rfl) (by rfl) HCC.out (intV_one [1]) (by omega) (by have := HLN.out.2; unfold maxLen; omega) (by have := HLN.out.2; omega) (by simp; omega) _ rfl ?_; intro g8 cp8 w8 hown hgrow hg8 _; refine Hid.out ?_)
          refine Lib.hid ?_
          have HVG8 := Lib.hid (HVA.out.grow hB (z := 1) (c8 := cp8) (g8 := g8) hgrow (by unfold RowI; rw [List.length_append, List.map_append]; exact hown) (hg8.imp id (fun e => Nat.le_of_eq e.symm)))
          have hbl := (hgrow.block bx (by simp; omega) (HVA.out.box_ne)).trans HVA.out.box
          clear y0 y1 fy ly hown hgrow hg8 HRA HCC HA HVA
          obtain ⟨y0, y1, fy, ly⟩ := cells_two hbl
          clear hbl
          go_upto_region 15 with fail
          generalize (w8.setCell ⟨bx, 1, none⟩ (.slice (some ⟨g8, 0, none⟩) (ds.length + 1) cp8)) = wX at *
          clear y0 y1 fy ly
          obtain ⟨y0, y1, fy, ly⟩ := cells_two HVG8.out.box
          obtain ⟨r0, r1, fr, lr⟩ := cells_two HVG8.out.rr
          go_wp2
          refine bodyPost_ret (v := cntV (some ⟨g1, 0, none⟩) us.length c1 (some ⟨g8, 0, none⟩) (ds ++ [1]).length cp8) ?_ rfl ?_
          · simp only [results, hres]
            go_simp
          · exact ⟨g1, c1, g8, cp8, us, ds ++ [1], rfl, by have := HLN.out.1; omega, by rw [List.length_append]; have := HLN.out.2; simp; omega, ((HVG8.out.rows.aside (p := ⟨w.heap.size, 0, none⟩) (Nat.lt_succ_self _) _).aside (p := ⟨w.heap.size, 1, none⟩) (Nat.lt_succ_self _) _).mono (Nat.le_succ _), ((HVG8.out.cur.setOther hB 0 _).setOther hB 1 _).more (by omega), (HVG8.out.hole.setNew (Nat.le_refl _) 0 _).setNew (Nat.le_refl _) 1 _⟩
        · have k0 : (r == 0) = false := by simpa using h0
          have k1 : (r == 1) = false := by simpa using h1
          have HV7 := Lib.hid (HV6.out.sety hB 1 (-1))
          obtain ⟨d0, dz⟩ := row_cell HV6.out.rows.2.1 (i := 1) HV6.out.pos.2
          have hi : (1 : Int) < (ds.length : Int) := by have := HV6.out.pos.2; omega
          clear h0 h1 HV6 OX OY
          go_upto_region 15 with fail
          generalize (w6.setCell ⟨g2, 1, none⟩ (.int .i64 (-1))) = wX at *
          clear d0 dz y0 y1 fy ly
          obtain ⟨y0, y1, fy, ly⟩ := cells_two HV7.out.box
          obtain ⟨r0, r1, fr, lr⟩ := cells_two HV7.out.rr
          go_wp2
          refine bodyPost_ret (v := cntV (some ⟨g1, 0, none⟩) us.length c1 (some ⟨g2, 0, none⟩) (ds.set 1 (-1)).length c2) ?_ rfl ?_
          · simp only [results, hres]
            go_simp
          · exact ⟨g1, c1, g2, c2, us, (ds.set 1 (-1)), rfl, by have := HLN.out.1; omega, by rw [List.length_set]; have := HLN.out.2; omega, ((HV7.out.rows.aside (p := ⟨w.heap.size, 0, none⟩) (Nat.lt_succ_self _) _).aside (p := ⟨w.heap.size, 1, none⟩) (Nat.lt_succ_self _) _).mono (Nat.le_succ _), ((HV7.out.cur.setOther hB 0 _).setOther hB 1 _).more (by omega), (HV7.out.hole.setNew (Nat.le_refl _) 0 _).setNew (Nat.le_refl _) 1 _⟩

end Go.Proofs.Ytaopkoamjfmhhaa

/- The draws of DrawVecCmp and DrawVecTick. -/
namespace Go.Proofs.Ytaopkoamjfmhhaa
open Go.ChangeShapes Go.WideShapes Go.ChangeAt Go.RowKit Go.Joins

/-- A vector that was drawn. -/
def VecG (lo : Nat) : Fact := fun v w => ∃ g cp zs, v = vecV (some ⟨g, 0, none⟩) zs.length cp ∧ zs.length ≤ 5 ∧ RowI w lo (.slice (some ⟨g, 0, none⟩) zs.length cp) zs

theorem lasts_vecG (c : Int) (B : Nat) (a : Option Addr) (len cap lo : Nat) (hB : B < lo) : lasts (CurK c B a len cap) (VecG lo) := by
  rintro v w w' ⟨g, cp, zs, h1, h2, h3⟩ hr
  exact ⟨g, cp, zs, h1, h2, h3.off hr.1 hB⟩

theorem OwnI.offH {w w' : World} {B lo hi : Nat} {a : Option Addr} {zs : List Int} (h : OwnI w lo hi a zs) (hh : Hole B w w') (hB : B < lo) : OwnI w' lo hi a zs := by
  rcases h with h | ⟨b, ha, h1, h2, hlt, hc, hf⟩
  · exact .inl h
  · exact .inr ⟨b, ha, h1, h2, Nat.lt_of_lt_of_le hlt hh.size, fun i hi => (hh.cell hlt (by omega)).trans (hc i hi), fun o => (hh.frozen hlt (by omega)).trans (hf o)⟩

/-- A vector that was joined. -/
def AnsG (lo : Nat) : Fact := fun v w => ∃ g cp zs, v = vecV g zs.length cp ∧ zs.length ≤ 5 ∧ OwnI w lo w.heap.size g zs

theorem lasts_ansG (c : Int) (B : Nat) (a : Option Addr) (len cap lo : Nat) (hB : B < lo) : lasts (CurK c B a len cap) (AnsG lo) := by
  rintro v w w' ⟨g, cp, zs, h1, h2, h3⟩ hr
  exact ⟨g, cp, zs, h1, h2, (h3.offH hr.1 hB).wider (Nat.le_refl _) hr.1.size⟩

theorem RowI.toOwn {w : World} {lo : Nat} {g : Option Addr} {n cp : Nat} {zs : List Int} (h : RowI w lo (.slice g n cp) zs) : OwnI w lo w.heap.size g zs := by
  obtain ⟨a', c', e, ho⟩ := h.form
  injection e with e1 e2 e3
  subst e1
  exact ho

theorem joinV_len5 (xs ys : List Int) : (joinV xs ys).length ≤ 5 := by
  unfold joinV
  split
  · rename_i h
    rw [Bool.and_eq_true] at h
    obtain ⟨x0, x1, x2, x3, rfl, -⟩ := vecB_four h.1
    simp
    omega
  · simp

theorem cell_hole {B : Nat} {w w' : World} {b j : Nat} {v : Value} (hh : Hole B w w') (hz : b < w.heap.size) (hn : b ≠ B) (h : w.cell? ⟨b, j, none⟩ = some v) : w'.cell? ⟨b, j, none⟩ = some v := (hh.cell hz hn).trans h

theorem frozen_hole {B : Nat} {w w' : World} {b : Nat} (hh : Hole B w w') (hz : b < w.heap.size) (hn : b ≠ B) (h : ∀ o, w.frozen? ⟨b, o, none⟩ = false) : ∀ o, w'.frozen? ⟨b, o, none⟩ = false := fun o => (hh.frozen hz hn).trans (h o)

def BuiltD (D B n : Nat) : Fact := fun v w => ∃ b, v = .slice (some ⟨b, 0, none⟩) n n ∧ b ≠ D ∧ LaidK B n b w

def PtrD (D B n : Nat) : Fact := fun v w => ∃ b q, v = .pointer (some ⟨b, q, none⟩) ∧ q < n ∧ b ≠ D ∧ LaidK B n b w

theorem laid3v (w : World) (B : Nat) (x y z : Int) (h : B < w.heap.size) : LaidK B 3 w.heap.size (w.alloc (.cells #[.int .i64 x, .int .i64 y, .int .i64 z] 3)) := laid3 w B x h y z

end Go.Proofs.Ytaopkoamjfmhhaa

/- The draw of DrawCounterJoin. -/
namespace Go.Proofs.Ytaopkoamjfmhhaa
open Go.ChangeShapes Go.WideShapes Go.ChangeAt Go.RowKit Go.Joins

theorem counter_curK (c : Int) (hc : 200 ≤ c) (B : Nat) (a : Option Addr) (len cap lo : Nat) (M : Int) (w : World) (hM : M ≤ 80000) (hB : lo ≤ w.heap.size) (h : Cur w B a len cap M) :
    Calls Try.prog 20 #[.pointer (some ⟨B, 0, none⟩)] w fun e w' => ∃ g1 c1 h1 d1 us1 ds1, e = .returned (cntV (some ⟨g1, 0, none⟩) us1.length c1 (some ⟨h1, 0, none⟩) ds1.length d1) ∧ us1.length ≤ 5 ∧ ds1.length ≤ 5 ∧ RowsC w' lo (some ⟨g1, 0, none⟩) us1.length c1 (some ⟨h1, 0, none⟩) ds1.length d1 us1 ds1 ∧ CurK c B a len cap w w' := by
  obtain ⟨at_, seed, hcur, hN', hk, hl⟩ := h
  have h0 : Cur w B a len cap at_ := ⟨at_, seed, hcur, Int.le_refl _, hk, hl⟩
  refine (counter_any B a len cap at_ w (by omega) h0).mono ?_
  rintro e w' ⟨g, cp, h, cq, us, ds, rfl, h5, h6, hr, hc', hh⟩
  refine ⟨g, cp, h, cq, us, ds, rfl, h5, h6, hr.mono hB, hh, fun K _ hK => hc'.more ?_⟩
  obtain ⟨at2, seed2, hc2, h2, _⟩ := hK
  have e1 : at2 = at_ := by
    have h3 := hc2.c1
    rw [hcur.c1] at h3
    injection h3 with h3
    injection h3 with _ h3
    exact h3.symm
  omega

/-- A counter that was drawn. -/
def CtrG (lo : Nat) : Fact := fun v w => ∃ g1 c1 h1 d1 us1 ds1, v = cntV (some ⟨g1, 0, none⟩) us1.length c1 (some ⟨h1, 0, none⟩) ds1.length d1 ∧ us1.length ≤ 5 ∧ ds1.length ≤ 5 ∧ RowsC w lo (some ⟨g1, 0, none⟩) us1.length c1 (some ⟨h1, 0, none⟩) ds1.length d1 us1 ds1

theorem lasts_ctrG (c : Int) (B : Nat) (a : Option Addr) (len cap lo : Nat) (hB : B < lo) : lasts (CurK c B a len cap) (CtrG lo) := by
  rintro v w w' ⟨g, cp, h, cq, us, ds, h1, h2, h3, h4⟩ hr
  exact ⟨g, cp, h, cq, us, ds, h1, h2, h3, h4.off hr.1 hB⟩

theorem RowsC.isC {w : World} {base g n c h m d : Nat} {us ds : List Int} (hr : RowsC w base (some ⟨g, 0, none⟩) n c (some ⟨h, 0, none⟩) m d us ds) : IsC w (some ⟨g, 0, none⟩) (some ⟨h, 0, none⟩) us ds := ⟨(row_int hr.1).isIs, (row_int hr.2.1).isIs⟩

set_option maxRecDepth 100000 in
set_option maxHeartbeats 8000000 in
theorem drawCounterJoin_any (a : Option Addr) (len cap : Nat) (w : World) (h : Bytes w a len) (hl : len ≤ 1048576) :
    Calls Try.prog 6 #[.slice a len cap] w fun e w' => ∃ g1 c1 h1 d1 us1 ds1 g2 c2 h2 d2 us2 ds2, e = .returned (.tuple #[cntV (some ⟨g1, 0, none⟩) us1.length c1 (some ⟨h1, 0, none⟩) ds1.length d1, cntV (some ⟨g2, 0, none⟩) us2.length c2 (some ⟨h2, 0, none⟩) ds2.length d2]) ∧ us1.length ≤ 5 ∧ ds1.length ≤ 5 ∧ us2.length ≤ 5 ∧ ds2.length ≤ 5 ∧ IsC w' (some ⟨g1, 0, none⟩) (some ⟨h1, 0, none⟩) us1 ds1 ∧ IsC w' (some ⟨g2, 0, none⟩) (some ⟨h2, 0, none⟩) us2 ds2 ∧ Below w.heap.size w w' := by
  have hres : Try.f6.results = #[.cell 2 26, .cell 3 26] := by kernel_rfl
  have HY := Lib.hid h
  clear h
  go_enter Try.func6, Try.ntmps6
  go_wp2_with fail
  have HB0 : Hid (Below w.heap.size w ((w.alloc (.cells #[.slice none 0 0, .slice none 0 0] 26)).alloc (.cells #[.slice none 0 0, .slice none 0 0] 26))) := ((Below.refl _ _).alloc (Nat.le_refl _) _).alloc (by simp) _
  have r00 : ((w.alloc (.cells #[.slice none 0 0, .slice none 0 0] 26)).alloc (.cells #[.slice none 0 0, .slice none 0 0] 26)).cell? ⟨w.heap.size, 0, none⟩ = some (.slice none 0 0) := by go_simp
  have r01 : ((w.alloc (.cells #[.slice none 0 0, .slice none 0 0] 26)).alloc (.cells #[.slice none 0 0, .slice none 0 0] 26)).cell? ⟨w.heap.size, 1, none⟩ = some (.slice none 0 0) := by go_simp
  have q0 : ∀ o, ((w.alloc (.cells #[.slice none 0 0, .slice none 0 0] 26)).alloc (.cells #[.slice none 0 0, .slice none 0 0] 26)).frozen? ⟨w.heap.size, o, none⟩ = false := fun o => by go_simp
  have r10 : ((w.alloc (.cells #[.slice none 0 0, .slice none 0 0] 26)).alloc (.cells #[.slice none 0 0, .slice none 0 0] 26)).cell? ⟨w.heap.size + 1, 0, none⟩ = some (.slice none 0 0) := by go_simp
  have r11 : ((w.alloc (.cells #[.slice none 0 0, .slice none 0 0] 26)).alloc (.cells #[.slice none 0 0, .slice none 0 0] 26)).cell? ⟨w.heap.size + 1, 1, none⟩ = some (.slice none 0 0) := by go_simp
  have q1 : ∀ o, ((w.alloc (.cells #[.slice none 0 0, .slice none 0 0] 26)).alloc (.cells #[.slice none 0 0, .slice none 0 0] 26)).frozen? ⟨w.heap.size + 1, o, none⟩ = false := fun o => by go_simp
  have hz0 : w.heap.size + 1 < ((w.alloc (.cells #[.slice none 0 0, .slice none 0 0] 26)).alloc (.cells #[.slice none 0 0, .slice none 0 0] 26)).heap.size := by simp
  generalize ((w.alloc (.cells #[.slice none 0 0, .slice none 0 0] 26)).alloc (.cells #[.slice none 0 0, .slice none 0 0] 26)) = V at *
  have HYV := Lib.hid (HY.out.below HB0.out)
  refine (open_any a len cap V HYV.out hl).mono ?_
  rintro e w1 ⟨rfl, hc1, hb1⟩
  have HC1 := Lib.hid hc1
  have HB1 := Lib.hid (below_step HB0.out HB0.out.size hb1)
  replace r00 := (hb1.cell (p := ⟨w.heap.size, 0, none⟩) (show w.heap.size < V.heap.size by omega)).trans r00
  replace r01 := (hb1.cell (p := ⟨w.heap.size, 1, none⟩) (show w.heap.size < V.heap.size by omega)).trans r01
  replace q0 := (fun o => (hb1.frozen (p := ⟨w.heap.size, o, none⟩) (show w.heap.size < V.heap.size by omega)).trans (q0 o))
  replace r10 := (hb1.cell (p := ⟨w.heap.size + 1, 0, none⟩) (show w.heap.size + 1 < V.heap.size by omega)).trans r10
  replace r11 := (hb1.cell (p := ⟨w.heap.size + 1, 1, none⟩) (show w.heap.size + 1 < V.heap.size by omega)).trans r11
  replace q1 := (fun o => (hb1.frozen (p := ⟨w.heap.size + 1, o, none⟩) (show w.heap.size + 1 < V.heap.size by omega)).trans (q1 o))
  have hV1 : V.heap.size < w1.heap.size := hc1.lt
  have hle1 : V.heap.size ≤ w1.heap.size := by omega
  clear hc1 hb1 HYV HY HB0
  generalize V.heap.size = B at *
  go_wp2_with fail
  refine (counter_any B a len cap 0 _ (by omega) HC1.out).mono ?_
  rintro e w2 ⟨g1, c1, h1, d1, us1, ds1, rfl, h51, h61, hr1, hc2, hh2⟩
  have HR2 := Lib.hid hr1
  have HC2 := Lib.hid hc2
  have HH2 := Lib.hid hh2
  have hle2 : w1.heap.size ≤ w2.heap.size := hh2.size
  replace r00 := cell_hole hh2 (show w.heap.size < w1.heap.size by omega) (by omega) r00
  replace r01 := cell_hole hh2 (show w.heap.size < w1.heap.size by omega) (by omega) r01
  replace q0 := frozen_hole hh2 (show w.heap.size < w1.heap.size by omega) (by omega) q0
  replace r10 := cell_hole hh2 (show w.heap.size + 1 < w1.heap.size by omega) (by omega) r10
  replace r11 := cell_hole hh2 (show w.heap.size + 1 < w1.heap.size by omega) (by omega) r11
  replace q1 := frozen_hole hh2 (show w.heap.size + 1 < w1.heap.size by omega) (by omega) q1
  clear hr1 hc2 hh2 HC1
  go_wp2_with fail
  have hA : Below w2.heap.size w2 (w2.alloc (.cells #[.slice (some ⟨g1, 0, none⟩) us1.length c1, .slice (some ⟨h1, 0, none⟩) ds1.length d1] 26)) := (Below.refl _ _).alloc (Nat.le_refl _) _
  have x0 : (w2.alloc (.cells #[.slice (some ⟨g1, 0, none⟩) us1.length c1, .slice (some ⟨h1, 0, none⟩) ds1.length d1] 26)).cell? ⟨w2.heap.size, 0, none⟩ = some (.slice (some ⟨g1, 0, none⟩) us1.length c1) := by go_simp
  have x1 : (w2.alloc (.cells #[.slice (some ⟨g1, 0, none⟩) us1.length c1, .slice (some ⟨h1, 0, none⟩) ds1.length d1] 26)).cell? ⟨w2.heap.size, 1, none⟩ = some (.slice (some ⟨h1, 0, none⟩) ds1.length d1) := by go_simp
  have hz5 : w2.heap.size < (w2.alloc (.cells #[.slice (some ⟨g1, 0, none⟩) us1.length c1, .slice (some ⟨h1, 0, none⟩) ds1.length d1] 26)).heap.size := by simp
  replace HR2 := Lib.hid (HR2.out.below hA)
  replace HC2 := Lib.hid (HC2.out.below hA)
  replace HH2 := Lib.hid (HH2.out.trans (Hole.of_below hA))
  replace r00 := (hA.cell (p := ⟨w.heap.size, 0, none⟩) (show w.heap.size < w2.heap.size by omega)).trans r00
  replace r01 := (hA.cell (p := ⟨w.heap.size, 1, none⟩) (show w.heap.size < w2.heap.size by omega)).trans r01
  replace q0 := (fun o => (hA.frozen (p := ⟨w.heap.size, o, none⟩) (show w.heap.size < w2.heap.size by omega)).trans (q0 o))
  replace r10 := (hA.cell (p := ⟨w.heap.size + 1, 0, none⟩) (show w.heap.size + 1 < w2.heap.size by omega)).trans r10
  replace r11 := (hA.cell (p := ⟨w.heap.size + 1, 1, none⟩) (show w.heap.size + 1 < w2.heap.size by omega)).trans r11
  replace q1 := (fun o => (hA.frozen (p := ⟨w.heap.size + 1, o, none⟩) (show w.heap.size + 1 < w2.heap.size by omega)).trans (q1 o))
  clear hA
  generalize (w2.alloc (.cells #[.slice (some ⟨g1, 0, none⟩) us1.length c1, .slice (some ⟨h1, 0, none⟩) ds1.length d1] 26)) = w3 at *
  have hle3 : w2.heap.size < w3.heap.size := hz5
  refine wp_region_slots_n 3 [[(5, false)], [(4, false)], [(11, true)]] (fun w' => Hole B w3 w' ∧ ∃ K : Int, K ≤ 70000 ∧ Cur w' B a len cap K) (fun w' => Hole B w3 w') (fun f w' => Hole B w3 w' ∧ Cur w' B a len cap (10000 - 300 * (f : Int)) ∧ f ≤ 5) (CurK 300 B a len cap) (by kernel_rfl) (by kernel_rfl) (by rfl) ⟨(Hole.refl _ _).drew, (HC2.out.below (Below.refl _ _).drew).more (by simp), by simp⟩ (fun f w1 w2 h1 h2 => ⟨h1.1.trans h2.1, (h2.2 _ (by omega) h1.2.1).more (by push_cast; omega), by have := h1.2.2; omega⟩) (fun f w1 hf h => ⟨h.1, _, by omega, h.2.1⟩) (fun f w1 hf h => h.1) ?_
  iterate 2 (apply slot_eq; · (intro ρ w' ⟨p1, p2, p3⟩ ⟨hS, K, hK, hCK⟩ hn; have y0 := cell_hole hS hz5 (by omega) x0; have y1 := cell_hole hS hz5 (by omega) x1; simp at hn; go_simp; exact ⟨curK_refl 300 (by omega) _ _ _ _ _, rfl⟩))
  refine slot_fact (CtrG (B + 1)) (lasts_ctrG _ _ _ _ _ _ (by omega)) ?_ ?_
  · intro ρ w' ⟨p1, p2, p3⟩ ⟨hS, K, hK, hCK⟩ hn
    have hsz := hS.size
    simp at hn
    go_simp
    exact got_call (counter_curK 300 (by omega) B a len cap (B + 1) K w' (by omega) (by omega) hCK) fun e w'' ⟨g, cp, h, cq, us, ds, he, h5, h6, hr, hk⟩ => ⟨_, he, hk, g, cp, h, cq, us, ds, rfl, h5, h6, hr⟩
  refine slot_end ?_
  rintro vs w4 hS hF
  simp at hF
  obtain ⟨⟨g2, c2, h2, d2, us2, ds2, f12, h52, h62, hr2⟩, f11, f10⟩ := hF
  have OW2 := Lib.hid hr2
  replace r00 := cell_hole hS (show w.heap.size < w3.heap.size by omega) (by omega) r00
  replace r01 := cell_hole hS (show w.heap.size < w3.heap.size by omega) (by omega) r01
  replace q0 := frozen_hole hS (show w.heap.size < w3.heap.size by omega) (by omega) q0
  replace r10 := cell_hole hS (show w.heap.size + 1 < w3.heap.size by omega) (by omega) r10
  replace r11 := cell_hole hS (show w.heap.size + 1 < w3.heap.size by omega) (by omega) r11
  replace q1 := frozen_hole hS (show w.heap.size + 1 < w3.heap.size by omega) (by omega) q1
  have HHX := Lib.hid (HH2.out.trans hS)
  have OW1 := Lib.hid ((HR2.out.mono (show B + 1 ≤ w1.heap.size by omega)).off hS (by omega))
  clear hS HR2 HC2 x0 x1 hr2
  simp only [List.take_succ_cons, List.take_zero, List.drop_succ_cons, List.drop_zero, putAll, f12, f11, f10]
  clear f12 f11 f10
  simp only [Act.put, List.setIfInBounds_toArray, List.set_cons_succ, List.set_cons_zero]
  go_wp2
  refine bodyPost_ret (v := .tuple #[cntV (some ⟨g1, 0, none⟩) us1.length c1 (some ⟨h1, 0, none⟩) ds1.length d1, cntV (some ⟨g2, 0, none⟩) us2.length c2 (some ⟨h2, 0, none⟩) ds2.length d2]) ?_ rfl ?_
  · simp only [results, hres]
    go_simp
  · refine ⟨g1, c1, h1, d1, us1, ds1, g2, c2, h2, d2, us2, ds2, rfl, h51, h61, h52, h62, ?_, ?_, ?_⟩
    · exact ((((OW1.out.aside (p := ⟨w.heap.size, 0, none⟩) (by show w.heap.size < B + 1; omega) _).aside (p := ⟨w.heap.size, 1, none⟩) (by show w.heap.size < B + 1; omega) _).aside (p := ⟨w.heap.size + 1, 0, none⟩) (by show w.heap.size + 1 < B + 1; omega) _).aside (p := ⟨w.heap.size + 1, 1, none⟩) (by show w.heap.size + 1 < B + 1; omega) _).isC
    · exact ((((OW2.out.aside (p := ⟨w.heap.size, 0, none⟩) (by show w.heap.size < B + 1; omega) _).aside (p := ⟨w.heap.size, 1, none⟩) (by show w.heap.size < B + 1; omega) _).aside (p := ⟨w.heap.size + 1, 0, none⟩) (by show w.heap.size + 1 < B + 1; omega) _).aside (p := ⟨w.heap.size + 1, 1, none⟩) (by show w.heap.size + 1 < B + 1; omega) _).isC
    · exact ((((Hole.below HB1.out HHX.out (by omega) HB1.out.size).setCell (p := ⟨w.heap.size, 0, none⟩) (Nat.le_refl _) _).setCell (p := ⟨w.heap.size, 1, none⟩) (Nat.le_refl _) _).setCell (p := ⟨w.heap.size + 1, 0, none⟩) (Nat.le_add_right _ 1) _).setCell (p := ⟨w.heap.size + 1, 1, none⟩) (Nat.le_add_right _ 1) _

end Go.Proofs.Ytaopkoamjfmhhaa
