import Derived.Test.YtidpcjcnhklmpacGreatDoorPack15
import Derived.Deep.OwnRows
import Derived.Test.YtidpcjcnhklmpacGreatDoorPack12
import Derived.Test.YtidpcjcnhklmpacGreatDoorPack1
/- Batches of one's own, marked: the contracts of markBatchS and heldBatchS. -/
namespace Go.Proofs.YtidpcjcnhklmpacGreatDoor
open Go.ChangeShapes Go.WideShapes Go.ChangeAt Go.RowKit Go.Joins
attribute [local go_sem ↓] Go.wp_at_zero Go.wp_at_succ

/-- A batch: its writes, where they are said to lie, their room, between which block numbers, and where their dependencies lie. -/
structure Bat where
  ws : List Wr
  a : Option Addr
  cap : Nat
  lo : Nat
  hi : Nat
  γ : Nat → Nat

def btz : Bat := ⟨[], none, 0, 0, 0, fun _ => 0⟩

def batV (e : Bat) : Value := .slice e.a e.ws.length e.cap

def BatsAt (w : World) (b : Nat) (es : List Bat) : Prop := ∀ i, i < es.length → w.cell? ⟨b, i, none⟩ = some (batV (es.getD i btz))

/-- Batches of one's own: a row, and each batch's memory apart from the row and from the others'. -/
def OwnB (w : World) (lo hi : Nat) (a : Option Addr) (es : List Bat) : Prop :=
  es = [] ∨ ∃ b, a = some ⟨b, 0, none⟩ ∧ lo ≤ b ∧ b < hi ∧ b < w.heap.size ∧ BatsAt w b es ∧ (∀ i, i < es.length → lo ≤ (es.getD i btz).lo ∧ (es.getD i btz).hi ≤ hi ∧ (b < (es.getD i btz).lo ∨ (es.getD i btz).hi ≤ b) ∧ OwnA w (es.getD i btz).lo (es.getD i btz).hi (es.getD i btz).a (es.getD i btz).ws (es.getD i btz).γ) ∧ ∀ i j, i < j → j < es.length → (es.getD i btz).hi ≤ (es.getD j btz).lo

set_option maxRecDepth 100000 in
theorem BatsAt.of_block {w w' : World} {b : Nat} {es : List Bat} (h : BatsAt w b es) (hb : w'.heap[b]? = w.heap[b]?) : BatsAt w' b es := fun i hi => (World.cell?_of_block (a := ⟨b, i, none⟩) hb).trans (h i hi)

set_option maxRecDepth 100000 in
theorem OwnB.below {w w' : World} {lo hi : Nat} {a : Option Addr} {es : List Bat} (h : OwnB w lo hi a es) (hb : Below w.heap.size w w') : OwnB w' lo hi a es := by
  rcases h with h | ⟨b, h1, h2, h3, h4, h5, h6, h7⟩
  · exact .inl h
  · exact .inr ⟨b, h1, h2, h3, Nat.lt_of_lt_of_le h4 hb.size, h5.of_block (hb.block b h4), fun i hi => ⟨(h6 i hi).1, (h6 i hi).2.1, (h6 i hi).2.2.1, (h6 i hi).2.2.2.below hb⟩, h7⟩

set_option maxRecDepth 100000 in
theorem OwnB.only {w w' : World} {S : Nat → Prop} {lo hi : Nat} {a : Option Addr} {es : List Bat} (h : OwnB w lo hi a es) (ho : Only S w w') (hS : ∀ x, S x → x < lo) : OwnB w' lo hi a es := by
  rcases h with h | ⟨b, h1, h2, h3, h4, h5, h6, h7⟩
  · exact .inl h
  · exact .inr ⟨b, h1, h2, h3, by rw [ho.size]; exact h4, h5.of_block (ho.block b fun e => by have := hS b e; omega), fun i hi => ⟨(h6 i hi).1, (h6 i hi).2.1, (h6 i hi).2.2.1, (h6 i hi).2.2.2.only ho fun x hx => by have := hS x hx; have := (h6 i hi).1; omega⟩, h7⟩

def batsOf (es : List Bat) : List (List Wr) := es.map (·.ws)

set_option maxRecDepth 100000 in
theorem batsOf_get (es : List Bat) {i : Nat} (h : i < es.length) : (batsOf es).getD i [] = (es.getD i btz).ws := by
  simp [batsOf, List.getD, h]

set_option maxRecDepth 100000 in
theorem OwnB.isBs {w : World} {lo hi : Nat} {a : Option Addr} {es : List Bat} (h : OwnB w lo hi a es) (hx : FewB (batsOf es)) : IsBs w a (batsOf es) := by
  rcases h with h | ⟨b, h1, h2, h3, h4, h5, h6, h7⟩
  · exact .inl (by rw [h]; rfl)
  · refine .inr ⟨b, 0, h1, h4, fun i hi => ?_⟩
    have hi' : i < es.length := by simpa [batsOf] using hi
    have hf := (hx i hi).2
    rw [batsOf_get es hi'] at hf ⊢
    exact ⟨_, _, by rw [Nat.zero_add]; exact h5 i hi', (h6 i hi').2.2.2.isWs hf⟩

/-- How far the marks have come behind these batches. -/
def markKB (es : List Bat) (k : Int) : Int := es.foldl (fun k e => markK e.ws k e.ws.length) k

set_option maxRecDepth 100000 in
theorem markKB_take (es : List Bat) (k : Int) {i : Nat} (h : i < es.length) : markKB (es.take (i + 1)) k = markK (es.getD i btz).ws (markKB (es.take i) k) (es.getD i btz).ws.length := by
  unfold markKB
  have e : es.take (i + 1) = es.take i ++ [es.getD i btz] := by
    rw [List.take_add_one, List.getElem?_eq_getElem h]
    simp [List.getD, h]
  rw [e, List.foldl_append]
  rfl

/-- All that is marked stays within bounds. -/
def TameB (es : List Bat) (k : Int) : Prop := (∀ i, i < es.length → (es.getD i btz).ws.length ≤ 1048576 ∧ bulk (es.getD i btz).ws ≤ 1048576) ∧ ∀ i, i ≤ es.length → 0 ≤ markKB (es.take i) k ∧ markKB (es.take i) k ≤ 1073741824

/-- A batch that is marked, its memory between two block numbers. -/
def MarkedS (w : World) (e : Bat) (k : Int) : Prop := MarkedA w e.a e.ws e.γ k ∧ (e.ws = [] ∨ ∃ b, e.a = some ⟨b, 0, none⟩ ∧ e.lo ≤ b ∧ b < e.hi ∧ ∀ i, i < e.ws.length → 0 < (e.ws.getD i wz).xs.length → e.lo ≤ e.γ i ∧ e.γ i < e.hi)

set_option maxRecDepth 100000 in
theorem MarkedWs.of_blocks {w w' : World} {b : Nat} {ws : List Wr} {γ : Nat → Nat} {k : Int} (h : MarkedWs w b ws γ k) (hb : w'.heap[b]? = w.heap[b]?) (h2 : ∀ i, i < ws.length → 0 < (ws.getD i wz).xs.length → w'.heap[γ i]? = w.heap[γ i]?) : MarkedWs w' b ws γ k := by
  intro i hi
  obtain ⟨⟨e0, e1, e2, e3, e4, e5, a, cp, e6, e7⟩, hd⟩ := h i hi
  have c : ∀ o, w'.cell? ⟨b, o, none⟩ = w.cell? ⟨b, o, none⟩ := fun o => World.cell?_of_block (a := ⟨b, o, none⟩) hb
  exact ⟨⟨(c _).trans e0, (c _).trans e1, (c _).trans e2, (c _).trans e3, (c _).trans e4, (c _).trans e5, a, cp, (c _).trans e6, e7⟩, fun hp => (hd hp).of_block (h2 i hi hp)⟩

set_option maxRecDepth 100000 in
theorem MarkedS.only {w w' : World} {S : Nat → Prop} {e : Bat} {k : Int} (h : MarkedS w e k) (ho : Only S w w') (hS : ∀ x, S x → x < e.lo ∨ e.hi ≤ x) : MarkedS w' e k := by
  refine ⟨?_, h.2⟩
  rcases h.1 with h1 | ⟨b, h1, h2, h3, h4⟩
  · exact .inl h1
  · rcases h.2 with g | ⟨b', g1, g2, g3, g4⟩
    · exact .inl g
    · obtain rfl : b = b' := by rw [h1] at g1; simpa using g1
      exact .inr ⟨b, h1, h2.of_blocks (ho.block b fun hx => by have := hS b hx; omega) fun i hi hp => ho.block _ fun hx => by have := hS _ hx; have := g4 i hi hp; omega, by rw [ho.size]; exact h3, fun i hi hp => by rw [ho.size]; exact h4 i hi hp⟩

/-- Batches that are marked. -/
def MarkedB (w : World) (a : Option Addr) (es : List Bat) (k : Int) : Prop := es = [] ∨ ∃ b, a = some ⟨b, 0, none⟩ ∧ b < w.heap.size ∧ BatsAt w b es ∧ ∀ i, i < es.length → MarkedA w (es.getD i btz).a (es.getD i btz).ws (es.getD i btz).γ (markKB (es.take i) k)

set_option maxRecDepth 100000 in
theorem MarkedB.below {w w' : World} {a : Option Addr} {es : List Bat} {k : Int} (h : MarkedB w a es k) (hb : Below w.heap.size w w') : MarkedB w' a es k := by
  rcases h with h | ⟨b, h1, h2, h3, h4⟩
  · exact .inl h
  · exact .inr ⟨b, h1, Nat.lt_of_lt_of_le h2 hb.size, h3.of_block (hb.block b h2), fun i hi => (h4 i hi).below hb⟩

set_option maxRecDepth 100000 in
theorem OwnA.marked {w w' : World} {e : Bat} {k : Int} (h : OwnA w e.lo e.hi e.a e.ws e.γ) (hm : MarkedA w' e.a e.ws e.γ k) : MarkedS w' e k := by
  refine ⟨hm, ?_⟩
  rcases h with h | ⟨b, h1, h2, h3, h4⟩
  · exact .inl h
  · exact .inr ⟨b, h1, h2.le, h3, fun i hi hp => ⟨(h2.deps i hi hp).1, h4 i hi hp⟩⟩

end Go.Proofs.YtidpcjcnhklmpacGreatDoor

/- The laws' copies of batches: the contracts of toBatch and toBatchS. -/
namespace Go.Proofs.YtidpcjcnhklmpacGreatDoor
open Go.ChangeShapes Go.WideShapes Go.ChangeAt Go.RowKit Go.Joins
attribute [local go_sem ↓] Go.wp_at_zero Go.wp_at_succ

set_option maxRecDepth 100000 in
theorem OwnG.lower {w : World} {base base' b : Nat} {ws : List Wr} {γ : Nat → Nat} (h : OwnG w base b ws γ) (hb : base' ≤ base) : OwnG w base' b ws γ where
  lt := h.lt
  le := Nat.le_trans hb h.le
  open_ := h.open_
  at_ := h.at_
  deps := fun i hi hp => ⟨Nat.le_trans hb (h.deps i hi hp).1, (h.deps i hi hp).2⟩
  inj := h.inj

set_option maxRecDepth 100000 in
theorem OwnA.wider {w : World} {lo lo' hi hi' : Nat} {a : Option Addr} {ws : List Wr} {γ : Nat → Nat} (h : OwnA w lo hi a ws γ) (h1 : lo' ≤ lo) (h2 : hi ≤ hi') : OwnA w lo' hi' a ws γ := by
  rcases h with h | ⟨b, q1, q2, q3, q4⟩
  · exact .inl h
  · exact .inr ⟨b, q1, q2.lower h1, Nat.lt_of_lt_of_le q3 h2, fun i hi hp => Nat.lt_of_lt_of_le (q4 i hi hp) h2⟩

set_option maxRecDepth 100000 in
theorem OwnA.setLow {w : World} {lo hi : Nat} {a : Option Addr} {ws : List Wr} {γ : Nat → Nat} (h : OwnA w lo hi a ws γ) {b : Nat} (hb : b < lo) (o : Nat) (v : Value) : OwnA (w.setCell ⟨b, o, none⟩ v) lo hi a ws γ :=
  h.only (S := fun x => x = b) (Only.set (S := fun x => x = b) (Only.refl _ w) rfl o v) fun x hx => by rw [hx]; exact hb

set_option maxRecDepth 100000 in
theorem infoBatch : (Tryz.prog.info? 31).map (fun i => (i.zero, i.size, i.bytes)) = some (some (.agg #[.slice none 0 0]), 1, 24) := by kernel_rfl

set_option maxRecDepth 100000 in
theorem run_make_bats (n : Nat) (hn : n ≤ 1048576) (w : World) :
    (Instr.makeSlice 25 (.int .i64 (n : Int)) (.int .i64 (n : Int))).run Tryz.prog w = .ok (.slice (some ⟨w.heap.size, 0, none⟩) n n) (w.alloc (.cells (madeCells #[.slice none 0 0] n) 31)) := by
  obtain ⟨i, hi, hzz⟩ := Option.map_eq_some_iff.1 infoBatch
  simp only [Prod.mk.injEq] at hzz
  obtain ⟨hz, hs, hb⟩ := hzz
  have hr := run_make (P := Tryz.prog) w 25 31 i _ Tryz.underlying25 hi hz .i64 .i64 n n (by omega) (Int.le_refl _) (by rw [hb]; omega) (by omega)
  simp only [Int.toNat_natCast, hs, Nat.mul_one] at hr
  exact hr

/-- The row while it is filled in. -/
def fillBat (es : List Bat) (j : Nat) : Value := if j < es.length then batV (es.getD j btz) else .slice none 0 0

set_option maxRecDepth 100000 in
theorem get_old (es : List Bat) (x : Bat) {i : Nat} (h : i < es.length) : (es ++ [x]).getD i btz = es.getD i btz := by
  rw [List.getD_eq_getElem?_getD, List.getD_eq_getElem?_getD, List.getElem?_append_left h]

set_option maxRecDepth 100000 in
theorem fillBat_step (es : List Bat) (x : Bat) (j : Nat) : (if j = es.length then batV x else fillBat es j) = fillBat (es ++ [x]) j := by
  unfold fillBat
  by_cases h : j = es.length
  · rw [if_pos h, if_pos (by simp; omega), h]
    simp [List.getD]
  · rw [if_neg h]
    by_cases hl : j < es.length
    · rw [if_pos hl, if_pos (by simp; omega), get_old es x hl]
    · rw [if_neg hl, if_neg (by simp; omega)]

set_option maxRecDepth 100000 in
theorem rowBat_start (w : World) (t n : Nat) : (w.alloc (.cells (madeCells #[.slice none 0 0] n) t)).rowIs w.heap.size t n (fillBat []) := by
  refine ⟨_, Go.Deep.blk_alloc_new _ _, size_madeCells _ _, fun i hi => ?_⟩
  have e : fillBat [] i = .slice none 0 0 := by unfold fillBat; rw [if_neg (by simp)]
  rw [e]
  have h1 : i % 1 = 0 := by omega
  simp [madeCells, hi, h1]

/-- The batches that are laid so far. -/
def LaidB (w : World) (B : Nat) (es : List Bat) : Prop := (∀ i, i < es.length → B < (es.getD i btz).lo ∧ (es.getD i btz).hi ≤ w.heap.size ∧ OwnA w (es.getD i btz).lo (es.getD i btz).hi (es.getD i btz).a (es.getD i btz).ws (es.getD i btz).γ) ∧ ∀ i j, i < j → j < es.length → (es.getD i btz).hi ≤ (es.getD j btz).lo

set_option maxRecDepth 100000 in
theorem get_new (es : List Bat) (x : Bat) : (es ++ [x]).getD es.length btz = x := by simp [List.getD]

set_option maxRecDepth 100000 in
theorem LaidB.more {w w' : World} {B : Nat} {es : List Bat} (h : LaidB w B es) (hb : Below w.heap.size w w') {x : Bat} (h1 : B < x.lo) (h2 : w.heap.size ≤ x.lo) (h3 : x.hi ≤ w'.heap.size) (h4 : OwnA w' x.lo x.hi x.a x.ws x.γ) : LaidB w' B (es ++ [x]) := by
  constructor
  · intro i hi
    by_cases hl : i < es.length
    · rw [get_old es x hl]
      obtain ⟨q1, q2, q3⟩ := h.1 i hl
      exact ⟨q1, Nat.le_trans q2 hb.size, q3.below hb⟩
    · have hi' : i = es.length := by simp at hi; omega
      rw [hi', get_new]
      exact ⟨h1, h3, h4⟩
  · intro i j hij hj
    by_cases hl : j < es.length
    · rw [get_old es x hl, get_old es x (by omega)]
      exact h.2 i j hij hl
    · have hj' : j = es.length := by simp at hj; omega
      rw [hj', get_new, get_old es x (by omega)]
      exact Nat.le_trans (h.1 i (by omega)).2.1 h2

set_option maxRecDepth 100000 in
theorem LaidB.setRow {w : World} {B : Nat} {es : List Bat} (h : LaidB w B es) (o : Nat) (v : Value) : LaidB (w.setCell ⟨B, o, none⟩ v) B es :=
  ⟨fun i hi => ⟨(h.1 i hi).1, by simpa using (h.1 i hi).2.1, (h.1 i hi).2.2.setLow (h.1 i hi).1 o v⟩, h.2⟩

end Go.Proofs.YtidpcjcnhklmpacGreatDoor

/- The contract of spec.LogRead. -/
namespace Go.Proofs.YtidpcjcnhklmpacGreatDoor
open Go.ChangeShapes Go.WideShapes Go.ChangeAt Go.RowKit Go.Joins
attribute [local go_sem ↓] Go.wp_at_zero Go.wp_at_succ

set_option maxRecDepth 100000 in
theorem OwnG.kept {w w' : World} {base b hi : Nat} {ws : List Wr} {γ : Nat → Nat} (h : OwnG w base b ws γ) (hs : w.heap.size ≤ w'.heap.size) (hb : b < hi) (hg : ∀ i, i < ws.length → 0 < (ws.getD i wz).xs.length → γ i < hi) (hk : ∀ x, base ≤ x → x < hi → x < w.heap.size → w'.heap[x]? = w.heap[x]?) : OwnG w' base b ws γ where
  lt := Nat.lt_of_lt_of_le h.lt hs
  le := h.le
  open_ := fun o => (frozen_of_block (hk b h.le hb h.lt)).trans (h.open_ o)
  at_ := fun i hi => by
    obtain ⟨a, cap, h1, h2⟩ := h.at_ i hi
    exact ⟨a, cap, h1.of_block (hk b h.le hb h.lt), h2⟩
  deps := fun i hi hp => by
    obtain ⟨h1, h2, h3, h4, h5⟩ := h.deps i hi hp
    have hb := hk (γ i) h1 (hg i hi hp) h2
    have e' : ∀ o, w'.cell? ⟨γ i, o, none⟩ = w.cell? ⟨γ i, o, none⟩ := fun o => World.cell?_of_block (a := ⟨γ i, o, none⟩) hb
    exact ⟨h1, Nat.lt_of_lt_of_le h2 hs, h3, fun j hj => ⟨(e' _).trans (h4 j hj).1, (e' _).trans (h4 j hj).2.1, (e' _).trans (h4 j hj).2.2.1, (e' _).trans (h4 j hj).2.2.2⟩, fun o => (frozen_of_block hb).trans (h5 o)⟩
  inj := h.inj

set_option maxRecDepth 100000 in
theorem OwnA.kept {w w' : World} {lo hi : Nat} {a : Option Addr} {ws : List Wr} {γ : Nat → Nat} (h : OwnA w lo hi a ws γ) (hs : w.heap.size ≤ w'.heap.size) (hk : ∀ x, lo ≤ x → x < hi → x < w.heap.size → w'.heap[x]? = w.heap[x]?) : OwnA w' lo hi a ws γ := by
  rcases h with h | ⟨b, h1, h2, h3, h4⟩
  · exact .inl h
  · exact .inr ⟨b, h1, h2.kept hs h3 h4 hk, h3, h4⟩

/-- A row of batches of one's own that grows. -/
structure RowB (w : World) (base : Nat) (v : Value) (es : List Bat) : Prop where
  own : w.ownsRow base 31 1 v es.length (es.map batV)
  laid : ∀ i, i < es.length → base ≤ (es.getD i btz).lo ∧ (es.getD i btz).hi ≤ w.heap.size ∧ OwnA w (es.getD i btz).lo (es.getD i btz).hi (es.getD i btz).a (es.getD i btz).ws (es.getD i btz).γ
  order : ∀ i j, i < j → j < es.length → (es.getD i btz).hi ≤ (es.getD j btz).lo
  apart : ∀ b, v.ownBlock = some b → ∀ i, i < es.length → b < (es.getD i btz).lo ∨ (es.getD i btz).hi ≤ b

set_option maxRecDepth 100000 in
theorem RowB.below {w w' : World} {base : Nat} {v : Value} {es : List Bat} (h : RowB w base v es) (hb : Below w.heap.size w w') : RowB w' base v es where
  own := h.own.kept (row := none) ⟨hb.os, hb.tape, hb.output, hb.size, fun k hk _ => hb.block k hk⟩ (by
    cases e : v.ownBlock
    · exact .inl rfl
    · exact .inr (by simp))
  laid := fun i hi => ⟨(h.laid i hi).1, Nat.le_trans (h.laid i hi).2.1 hb.size, (h.laid i hi).2.2.below hb⟩
  order := h.order
  apart := h.apart

set_option maxRecDepth 100000 in
theorem RowB.more {w w5 : World} {base g5 cap5 : Nat} {v : Value} {es : List Bat} {x : Bat} (h : RowB w base v es) (hx : OwnA w x.lo x.hi x.a x.ws x.γ) (h1 : base ≤ x.lo) (h2 : x.hi ≤ w.heap.size) (hord : ∀ i, i < es.length → (es.getD i btz).hi ≤ x.lo) (hv : ∀ b, v.ownBlock = some b → b < x.lo ∨ x.hi ≤ b)
    (hown : w5.ownsRow base 31 1 (.slice (some ⟨g5, 0, none⟩) (es.length + 1) cap5) (es.length + 1) (es.map batV ++ [batV x])) (hgrow : w.grownBy w5 v.ownBlock) (hg : v.ownBlock = some g5 ∨ g5 = w.heap.size) : RowB w5 base (.slice (some ⟨g5, 0, none⟩) (es.length + 1) cap5) (es ++ [x]) where
  own := by
    rw [List.length_append, List.map_append]
    exact hown
  laid := by
    have k : ∀ d : Bat, OwnA w d.lo d.hi d.a d.ws d.γ → (∀ b, v.ownBlock = some b → b < d.lo ∨ d.hi ≤ b) → OwnA w5 d.lo d.hi d.a d.ws d.γ := fun d hd hn => hd.kept hgrow.size fun y y1 y2 y3 => hgrow.block y y3 fun e => by
      have := hn y e.symm
      omega
    intro i hi
    by_cases hl : i < es.length
    · rw [get_old es x hl]
      obtain ⟨q1, q2, q3⟩ := h.laid i hl
      exact ⟨q1, Nat.le_trans q2 hgrow.size, k _ q3 fun b hb => h.apart b hb i hl⟩
    · have hi' : i = es.length := by simp at hi; omega
      rw [hi', get_new]
      exact ⟨h1, Nat.le_trans h2 hgrow.size, k _ hx hv⟩
  order := by
    intro i j hij hj
    by_cases hl : j < es.length
    · rw [get_old es x hl, get_old es x (by omega)]
      exact h.order i j hij hl
    · have hj' : j = es.length := by simp at hj; omega
      rw [hj', get_new, get_old es x (by omega)]
      exact hord i (by omega)
  apart := by
    intro b hb i hi
    have e5 : g5 = b := by
      simp only [Value.ownBlock, Option.some.injEq] at hb
      exact hb
    subst e5
    by_cases hl : i < es.length
    · rw [get_old es x hl]
      rcases hg with hg | hg
      · exact h.apart _ hg i hl
      · have := (h.laid i hl).2.1
        omega
    · have hi' : i = es.length := by simp at hi; omega
      rw [hi', get_new]
      rcases hg with hg | hg
      · exact hv _ hg
      · omega

set_option maxRecDepth 100000 in
theorem RowB.ownB {w : World} {base n cap : Nat} {a : Option Addr} {es : List Bat} (h : RowB w base (.slice a n cap) es) : n = es.length ∧ OwnB w base w.heap.size a es := by
  rcases h.own.2 with ⟨h1, h2⟩ | ⟨g, cap', cur, h1, h2, h3, _⟩
  · simp only [Value.slice.injEq] at h1
    exact ⟨by omega, .inl (List.length_eq_zero_iff.1 h2)⟩
  · simp only [Value.slice.injEq] at h1
    obtain ⟨rfl, rfl, rfl⟩ := h1
    have hlt : g < w.heap.size := (h.own.lt g rfl).2
    refine ⟨rfl, .inr ⟨g, rfl, h2, hlt, hlt, fun i hi => ?_, fun i hi => ?_, h.order⟩⟩
    · rw [h.own.cellAt i (by omega)]
      simp [List.getD, hi]
    · obtain ⟨q1, q2, q3⟩ := h.laid i hi
      exact ⟨q1, q2, h.apart g rfl i hi, q3⟩

set_option maxRecDepth 100000 in
theorem prefix_drop {a b s : List UInt8} (h : a ++ b <+: s) : b <+: s.drop a.length := by
  obtain ⟨t, rfl⟩ := h
  exact ⟨t, by simp⟩

set_option maxRecDepth 100000 in
theorem prefix_join {a b s : List UInt8} (h : a <+: s) (h' : b <+: s.drop a.length) : a ++ b <+: s := by
  obtain ⟨t, rfl⟩ := h
  rw [List.drop_left] at h'
  exact (List.prefix_append_right_inj a).2 h'

set_option maxRecDepth 100000 in
theorem logT_snoc (bs : List (List Wr)) (b : List Wr) : logT (bs ++ [b]) = logT bs ++ batchT b := by simp [logT]

set_option maxRecDepth 100000 in
set_option maxHeartbeats 8000000 in
theorem specLog_any (s : ByteArray) (w : World) (hs : s.size ≤ 1048576) :
    Calls Tryz.prog 7 #[.string s] w fun e w' => ∃ a cap es, e = .returned (.tuple #[.slice a (List.length es) cap, .int .i64 (((logT (batsOf es)).length : Nat) : Int)]) ∧ IsLog s.data.toList (batsOf es) ∧ es.length ≤ s.size ∧ OwnB w' w.heap.size w'.heap.size a es ∧ Below w.heap.size w w' := by
  obtain ⟨i0, hi0, hx0⟩ := Option.map_eq_some_iff.1 infoBatch
  simp only [Prod.mk.injEq] at hx0
  have HI0 := Lib.hid hi0
  have HX0 := Lib.hid hx0
  clear hi0 hx0
  have hdl : s.data.toList.length = s.size := by simp
  have HDL := Lib.hid hdl
  clear hdl
  have HR0 : Hid (RowB (w.alloc (.cells #[] 31)) w.heap.size (.slice (some ⟨w.heap.size, 0, none⟩) 0 0) []) := ⟨World.ownsRow_made w #[] 0 (Nat.le_refl _) (by simp [maxLen]) (by simp), fun i hi => by simp at hi, fun i j _ hj => by simp at hj, fun b _ i hi => by simp at hi⟩
  have HB0 : Hid (Below w.heap.size w (w.alloc (.cells #[] 31))) := (Below.refl _ _).alloc (Nat.le_refl _) _
  go_enter Tryz.func7, Tryz.ntmps7
  go_wp2
  generalize w.alloc (.cells #[] 31) = W0 at *
  go_loopw [4, 5] (fun o at' wr => ∃ (p : Nat) (a : Option Addr) (n cap : Nat) (es : List Bat), p ≤ s.size ∧ at' = .int .i64 p ∧ o = .slice a n cap ∧ es.length = n ∧ n ≤ p ∧ Hid (∀ b ∈ batsOf es, okWs b = true) ∧ Hid ((logT (batsOf es)).length = p) ∧ Hid (logT (batsOf es) <+: s.data.toList) ∧ Hid (RowB wr w.heap.size (.slice a n cap) es) ∧ Hid (Below w.heap.size w wr)) (fun _ at' _ => s.size - (intOf at').toNat)
  case atStart => exact ⟨0, _, 0, _, [], Nat.zero_le _, rfl, rfl, rfl, Nat.le_refl _, fun b hb => by simp [batsOf] at hb, rfl, List.nil_prefix, HR0, HB0⟩
  case round =>
    clear HR0 HB0
    obtain ⟨p, a, n, cap, es, hp, rfl, rfl, hel, hnp, HOK, HLN, HPR, HR, HB⟩ := hrel
    go_wp2_with fail
    refine (batch_any s p _ hs hp).mono ?_
    rintro e w2 ⟨hb, hans⟩
    have HB2 := Lib.hid (below_step HB.out HB.out.size hb)
    have HR2 := Lib.hid (HR.out.below hb)
    have hs2 : wr.heap.size ≤ w2.heap.size := hb.size
    have hs1 : w.heap.size ≤ wr.heap.size := HB.out.size
    clear hb HB
    rcases hans with ⟨ya, ycp, ys, rfl, hv, hrow⟩ | ⟨hno, rfl⟩
    rotate_left
    · have HIS : Hid (IsLog s.data.toList (batsOf es)) := ⟨HOK.out, HPR.out, fun b hb h => hno b ⟨hb, by
        have := prefix_drop h
        rw [HLN.out] at this
        exact this⟩⟩
      clear hno
      have HBA : Hid (Below w2.heap.size w2 (w2.alloc (.cells #[.slice none 0 0] 31))) := (Below.refl _ _).alloc (Nat.le_refl _) _
      have HB3 := Lib.hid (below_step HB2.out HB2.out.size HBA.out)
      have HR3 := Lib.hid (HR2.out.below HBA.out)
      go_wp2
      refine bodyPost_ret (v := .tuple #[.slice a n cap, .int .i64 (p : Int)]) (by simp [results, Tryz.results7, go_sem]) rfl ?_
      refine ⟨a, cap, es, by rw [hel, HLN.out], HIS.out, by omega, HR3.out.ownB.2, HB3.out⟩
    have hpos := batch_pos hv.1
    have hle : p + (batchT (ys.map (·.x))).length ≤ s.size := by
      have h := hv.2.length_le
      rw [List.length_drop, HDL.out] at h
      omega
    have HPR2 : Hid (logT (batsOf es) ++ batchT (ys.map (·.x)) <+: s.data.toList) := prefix_join HPR.out (by rw [HLN.out]; exact hv.2)
    have HOKX := Lib.hid hv.1
    obtain ⟨a', cap', n', e', hn', hO⟩ := hrow.ownA rfl
    obtain ⟨rfl, rfl, rfl⟩ : ya = a' ∧ ys.length = n' ∧ ycp = cap' := by
      simpa only [Value.slice.injEq] using e'
    have HO := Lib.hid hO
    have HYL : Hid ((ys.map (·.x)).length = ys.length) := hn'
    clear hv hrow e' hn' hO
    generalize gammaG ys = γ at *
    generalize ys.map (·.x) = ws at *
    generalize ys.length = m at *
    obtain ⟨z, hz⟩ : ∃ z, (batchT ws).length = z := ⟨_, rfl⟩
    rw [hz] at hpos hle ⊢
    have HZ := Lib.hid hz
    clear hz
    have HBA : Hid (Below w2.heap.size w2 (w2.alloc (.cells #[.slice ya m ycp] 31))) := (Below.refl _ _).alloc (Nat.le_refl _) _
    have HB3 := Lib.hid (below_step HB2.out HB2.out.size HBA.out)
    have HR3 := Lib.hid (HR2.out.below HBA.out)
    have HO3 := Lib.hid (HO.out.below HBA.out)
    have hs3 : w2.heap.size + 1 = (w2.alloc (.cells #[.slice ya m ycp] 31)).heap.size := by simp
    have HBC : Hid (Below (w2.heap.size + 1) (w2.alloc (.cells #[.slice ya m ycp] 31)) ((w2.alloc (.cells #[.slice ya m ycp] 31)).alloc (.cells #[.slice ya m ycp] 31))) := (Below.refl _ _).alloc (by simp) _
    have HRC := Lib.hid (HR3.out.below (hs3 ▸ HBC.out))
    have HOC := Lib.hid (HO3.out.below (hs3 ▸ HBC.out))
    have HBD := Lib.hid (below_step HB3.out HB3.out.size (hs3 ▸ HBC.out))
    have HCE : Hid (∀ j u, [Value.slice ya m ycp][j]? = some u → ((w2.alloc (.cells #[.slice ya m ycp] 31)).alloc (.cells #[.slice ya m ycp] 31)).cell? ((⟨w2.heap.size + 1, 0, none⟩ : Addr).add j) = some u) := by
      refine Lib.hid fun j u hu => ?_
      match j, hu with
      | 0, hu =>
        obtain rfl : Value.slice ya m ycp = u := by simpa using hu
        simp [go_sem]
    have HOW : Hid (((w2.alloc (.cells #[.slice ya m ycp] 31)).alloc (.cells #[.slice ya m ycp] 31)).ownsRow w.heap.size 31 1 (.slice a n cap) n (es.map batV)) := by
      have h := HRC.out.own
      rw [hel] at h
      exact Lib.hid h
    clear hs3 HBC HR3 HO3 HB3 HBA
    go_wp2_with (at_builtin; refine wpList_append_lies _ (by rfl) _ _ _ (by rfl) w.heap.size 31 i0 (.agg #[.slice none 0 0]) 1 24 Tryz.underlying25 HI0.out HX0.out.1 HX0.out.2.1 HX0.out.2.2 (by rfl) (by omega) (.slice a n cap) n (es.map batV) (by rfl) HOW.out ⟨w2.heap.size + 1, 0, none⟩ 1 1 [.slice ya m ycp] (by rfl) (by rfl) (by simpa using HCE.out) (by simp [Value.oneCell']) (by omega) (by unfold maxLen; omega) (by omega) (by simp; omega) _ rfl ?_; intro g3 cp3 w5 hown hgrow hg3 _; refine Hid.out ?_)
    refine Lib.hid ?_
    have HB5 : Hid (Below w.heap.size w w5) := HBD.out.grown hgrow HBD.out.size fun j hj => (HR2.out.own.lt j hj).1
    have hbv : batV ⟨ws, ya, ycp, wr.heap.size, w2.heap.size, γ⟩ = .slice ya m ycp := by
      unfold batV
      rw [HYL.out]
    have HR5 : Hid (RowB w5 w.heap.size (.slice (some ⟨g3, 0, none⟩) (n + 1) cp3) (es ++ [⟨ws, ya, ycp, wr.heap.size, w2.heap.size, γ⟩])) := by
      subst hel
      refine Lib.hid (HRC.out.more HOC.out hs1 (by simp; omega) (fun i hi => (HR.out.laid i hi).2.1) (fun b hb => .inl (HR.out.own.lt b hb).2) ?_ hgrow hg3)
      rw [hbv]
      exact hown
    have HOK5 : Hid (∀ b ∈ batsOf (es ++ [(⟨ws, ya, ycp, wr.heap.size, w2.heap.size, γ⟩ : Bat)]), okWs b = true) := fun b hb => by
      unfold batsOf at hb
      rw [List.map_append] at hb
      rcases List.mem_append.1 hb with hb | hb
      · exact HOK.out b hb
      · obtain rfl : b = ws := by simpa using hb
        exact HOKX.out
    have HLE : Hid (logT (batsOf (es ++ [(⟨ws, ya, ycp, wr.heap.size, w2.heap.size, γ⟩ : Bat)])) = logT (batsOf es) ++ batchT ws) := by
      show _ = _
      unfold batsOf
      rw [List.map_append]
      exact logT_snoc _ _
    have HLN5 : Hid ((logT (batsOf (es ++ [(⟨ws, ya, ycp, wr.heap.size, w2.heap.size, γ⟩ : Bat)]))).length = p + z) := by
      show _ = _
      rw [HLE.out, List.length_append, HLN.out, HZ.out]
    have HPR5 : Hid (logT (batsOf (es ++ [(⟨ws, ya, ycp, wr.heap.size, w2.heap.size, γ⟩ : Bat)])) <+: s.data.toList) := by
      rw [HLE.out]
      exact HPR2
    clear hown hgrow HRC HOW HCE HOC
    go_wp2
    exact ⟨⟨p + z, _, n + 1, _, _, by omega, by go_num, rfl, by simp [hel], by omega, HOK5, HLN5, HPR5, HR5, HB5⟩, by simp [intOf]; omega⟩

end Go.Proofs.YtidpcjcnhklmpacGreatDoor

/- The contracts of impl.batchesOf and impl.LogRead. -/
namespace Go.Proofs.YtidpcjcnhklmpacGreatDoor
open Go.ChangeShapes Go.WideShapes Go.ChangeAt Go.RowKit Go.Joins
attribute [local go_sem ↓] Go.wp_at_zero Go.wp_at_succ

set_option maxRecDepth 100000 in
theorem RowB.holeQ {w w' : World} {B base : Nat} {v : Value} {es : List Bat} (h : RowB w base v es) (hh : Hole B w w') (hB : B < base) : RowB w' base v es where
  own := World.ownsRow.kept (row := some B) h.own ⟨hh.os, hh.tape, hh.output, hh.size, fun k hk hn => hh.block k hk (fun e => hn (by rw [e]))⟩ (by
    by_cases e : v.ownBlock = none
    · exact .inl e
    · refine .inr fun e2 => ?_
      have := (World.ownsRow.lt h.own B e2).1
      omega)
  laid := fun i hi => ⟨(h.laid i hi).1, Nat.le_trans (h.laid i hi).2.1 hh.size, (h.laid i hi).2.2.kept hh.size fun x x1 _ x3 => hh.block x x3 (by have := (h.laid i hi).1; omega)⟩
  order := h.order
  apart := h.apart

set_option maxRecDepth 100000 in
theorem OwnB.mono {w : World} {lo lo' hi : Nat} {a : Option Addr} {es : List Bat} (h : OwnB w lo hi a es) (hl : lo' ≤ lo) : OwnB w lo' hi a es := by
  rcases h with h | ⟨b, h1, h2, h3, h4, h5, h6, h7⟩
  · exact .inl h
  · exact .inr ⟨b, h1, Nat.le_trans hl h2, h3, h4, h5, fun i hi => ⟨Nat.le_trans hl (h6 i hi).1, (h6 i hi).2⟩, h7⟩

/-- The place of a reader. -/
def rdAt (B : Nat) (w : World) : Nat := match w.cell? ⟨B, 1, none⟩ with
  | some (.int _ z) => z.toNat
  | _ => 0

set_option maxRecDepth 100000 in
theorem rdAt_is {w : World} {B p : Nat} {s : ByteArray} (h : Rdr w B s p) : rdAt B w = p := by
  unfold rdAt
  rw [h.c1]
  simp

set_option maxRecDepth 100000 in
theorem log_all {s : List UInt8} {bs : List (List Wr)} (h : ∀ b ∈ bs, okWs b = true) (hp : logT bs <+: s) (hl : s.length ≤ (logT bs).length) : IsLog s bs := ⟨h, hp, fun b hb hq => by
  have h1 := hq.length_le
  have h2 := batch_pos hb
  rw [List.length_append] at h1
  omega⟩

/-- What reading the batches of a log answers. -/
def LogsAns (s : ByteArray) (w w' : World) (e : Ending) : Prop :=
  Below w.heap.size w w' ∧ ∃ a cap es p, es.length ≤ s.size ∧ IsLog s.data.toList (batsOf es) ∧ (logT (batsOf es)).length = p ∧ OwnB w' w.heap.size w'.heap.size a es ∧
    ((p = s.size ∧ e = .returned (.tuple #[.slice a (List.length es) cap, .nilIface])) ∨ ∃ t v, e = .returned (.tuple #[.slice a (List.length es) cap, .iface 46 (.agg #[.int .i64 (p : Int), .iface t v])]))

set_option maxRecDepth 100000 in
set_option maxHeartbeats 8000000 in
theorem batchesOf_any (s : ByteArray) (w : World) (hs : s.size ≤ 1048576) (hE : EV w) (hV : RV w) (hT : Tab w) :
    Calls Tryz.prog 17 #[.string s] w fun e w' => LogsAns s w w' e := by
  obtain ⟨i0, hi0, hx0⟩ := Option.map_eq_some_iff.1 infoBatch
  simp only [Prod.mk.injEq] at hx0
  have HI0 := Lib.hid hi0
  have HX0 := Lib.hid hx0
  clear hi0 hx0
  have hdl : s.data.toList.length = s.size := by simp
  have HDL := Lib.hid hdl
  clear hdl
  have HE := Lib.hid hE
  have HV := Lib.hid hV
  have HT := Lib.hid hT
  clear hE hV hT
  have HD0 : Hid (Rdr (w.alloc (.cells #[.string s, .int .i64 0] 74)) w.heap.size s 0) := ⟨by simp, by simp [go_sem], by simp [go_sem], fun o => by simp [go_sem]⟩
  have HB0 : Hid (Below w.heap.size w (w.alloc (.cells #[.string s, .int .i64 0] 74))) := (Below.refl _ _).alloc (Nat.le_refl _) _
  have HR0 : Hid (RowB (w.alloc (.cells #[.string s, .int .i64 0] 74)) (w.heap.size + 1) (.slice none 0 0) []) := ⟨World.ownsRow_nil _ _ _ _, fun i hi => by simp at hi, fun i j _ hj => by simp at hj, fun b _ i hi => by simp at hi⟩
  have hz0 : w.heap.size + 1 ≤ (w.alloc (.cells #[.string s, .int .i64 0] 74)).heap.size := by simp
  go_enter Tryz.func17, Tryz.ntmps17
  go_wp2
  generalize w.alloc (.cells #[.string s, .int .i64 0] 74) = W0 at *
  go_loopw [4] (fun o wr => ∃ (p : Nat) (a : Option Addr) (n cap : Nat) (es : List Bat), p ≤ s.size ∧ o = .slice a n cap ∧ es.length = n ∧ n ≤ p ∧ w.heap.size + 1 ≤ wr.heap.size ∧ Hid (∀ b ∈ batsOf es, okWs b = true) ∧ Hid ((logT (batsOf es)).length = p) ∧ Hid (logT (batsOf es) <+: s.data.toList) ∧ Hid (RowB wr (w.heap.size + 1) (.slice a n cap) es) ∧ Hid (Rdr wr w.heap.size s p) ∧ Hid (Below w.heap.size w wr)) (fun _ wr => s.size - rdAt w.heap.size wr)
  case atStart => exact ⟨0, _, 0, _, [], Nat.zero_le _, rfl, rfl, Nat.le_refl _, hz0, fun b hb => by simp [batsOf] at hb, rfl, List.nil_prefix, HR0, HD0, HB0⟩
  case round =>
    clear HR0 HB0 HD0 hz0
    obtain ⟨p, a, n, cap, es, hp, rfl, hel, hnp, hwr, HOK, HLN, HPR, HR, HD, HB⟩ := hrel
    have c1 := HD.out.c1
    by_cases hp' : p < s.size
    rotate_left
    · have hpe : p = s.size := by omega
      have q2 : ¬ (p : Int) < (s.size : Int) := by omega
      have HIS : Hid (IsLog s.data.toList (batsOf es)) := log_all HOK.out HPR.out (by rw [HLN.out, HDL.out]; omega)
      go_wp2
      refine bodyPost_ret (v := .tuple #[.slice a n cap, .nilIface]) (by simp [results, Tryz.results17, go_sem]) rfl ?_
      exact ⟨HB.out, a, cap, es, p, by omega, HIS.out, HLN.out, HR.out.ownB.2.mono (Nat.le_succ _), .inl ⟨hpe, by rw [hel]⟩⟩
    have q2 : (p : Int) < (s.size : Int) := by omega
    go_wp2_with fail
    refine (rdBatch_any w s p w.heap.size _ hs hp HE.out HV.out HT.out HB.out (Nat.le_refl _) HD.out).mono ?_
    rintro e w2 ⟨hh, hans⟩
    have HB2 : Hid (Below w.heap.size w w2) := Hole.below HB.out hh (Nat.le_refl _) HB.out.size
    have HR2 := Lib.hid (HR.out.holeQ hh (Nat.lt_succ_self _))
    have hs2 : wr.heap.size ≤ w2.heap.size := hh.size
    clear hh c1
    rcases hans with ⟨ya, ycp, ys, rfl, hv, hrow, hrd⟩ | ⟨hno, t, v, rfl⟩
    rotate_left
    · have HIS : Hid (IsLog s.data.toList (batsOf es)) := ⟨HOK.out, HPR.out, fun b hb h => hno b ⟨hb, by
        have := prefix_drop h
        rw [HLN.out] at this
        exact this⟩⟩
      clear hno
      go_wp2
      refine bodyPost_ret (v := .tuple #[.slice a n cap, .iface 46 (.agg #[.int .i64 (p : Int), .iface t v])]) (by simp [results, Tryz.results17, go_sem]) rfl ?_
      exact ⟨HB2.out, a, cap, es, p, by omega, HIS.out, HLN.out, HR2.out.ownB.2.mono (Nat.le_succ _), .inr ⟨t, v, by rw [hel]⟩⟩
    have hpos := batch_pos hv.1
    have hle : p + (batchT (ys.map (·.x))).length ≤ s.size := by
      have h := hv.2.length_le
      rw [List.length_drop, HDL.out] at h
      omega
    have HPR2 : Hid (logT (batsOf es) ++ batchT (ys.map (·.x)) <+: s.data.toList) := prefix_join HPR.out (by rw [HLN.out]; exact hv.2)
    have HOKX := Lib.hid hv.1
    obtain ⟨a', cap', n', e', hn', hO⟩ := hrow.ownA rfl
    obtain ⟨rfl, rfl, rfl⟩ : ya = a' ∧ ys.length = n' ∧ ycp = cap' := by
      simpa only [Value.slice.injEq] using e'
    have HO := Lib.hid hO
    have HYL : Hid ((ys.map (·.x)).length = ys.length) := hn'
    have HD2 := Lib.hid hrd
    clear hv hrow e' hn' hO hrd
    generalize gammaG ys = γ at *
    generalize ys.map (·.x) = ws at *
    generalize ys.length = m at *
    obtain ⟨z, hz⟩ : ∃ z, (batchT ws).length = z := ⟨_, rfl⟩
    rw [hz] at hpos hle HD2
    have HZ := Lib.hid hz
    clear hz
    have HBA : Hid (Below w2.heap.size w2 (w2.alloc (.cells #[.slice ya m ycp] 31))) := (Below.refl _ _).alloc (Nat.le_refl _) _
    have HBD := Lib.hid (below_step HB2.out HB2.out.size HBA.out)
    have HRC := Lib.hid (HR2.out.below HBA.out)
    have HOC := Lib.hid (HO.out.below HBA.out)
    have HDC := Lib.hid (HD2.out.below HBA.out)
    have HCE : Hid (∀ j u, [Value.slice ya m ycp][j]? = some u → (w2.alloc (.cells #[.slice ya m ycp] 31)).cell? ((⟨w2.heap.size, 0, none⟩ : Addr).add j) = some u) := by
      refine Lib.hid fun j u hu => ?_
      match j, hu with
      | 0, hu =>
        obtain rfl : Value.slice ya m ycp = u := by simpa using hu
        simp [go_sem]
    have HOW : Hid ((w2.alloc (.cells #[.slice ya m ycp] 31)).ownsRow (w.heap.size + 1) 31 1 (.slice a n cap) n (es.map batV)) := by
      have h := HRC.out.own
      rw [hel] at h
      exact Lib.hid h
    clear HBA
    go_wp2_with (at_builtin; refine wpList_append_lies _ (by rfl) _ _ _ (by rfl) (w.heap.size + 1) 31 i0 (.agg #[.slice none 0 0]) 1 24 Tryz.underlying25 HI0.out HX0.out.1 HX0.out.2.1 HX0.out.2.2 (by rfl) (by omega) (.slice a n cap) n (es.map batV) (by rfl) HOW.out ⟨w2.heap.size, 0, none⟩ 1 1 [.slice ya m ycp] (by rfl) (by rfl) (by simpa using HCE.out) (by simp [Value.oneCell']) (by omega) (by unfold maxLen; omega) (by omega) (by simp; omega) _ rfl ?_; intro g3 cp3 w5 hown hgrow hg3 _; refine Hid.out ?_)
    refine Lib.hid ?_
    have HB5 : Hid (Below w.heap.size w w5) := HBD.out.grown hgrow HBD.out.size fun j hj => by have := (HR2.out.own.lt j hj).1; omega
    have hbv : batV ⟨ws, ya, ycp, wr.heap.size, w2.heap.size, γ⟩ = .slice ya m ycp := by
      unfold batV
      rw [HYL.out]
    have HR5 : Hid (RowB w5 (w.heap.size + 1) (.slice (some ⟨g3, 0, none⟩) (n + 1) cp3) (es ++ [⟨ws, ya, ycp, wr.heap.size, w2.heap.size, γ⟩])) := by
      subst hel
      refine Lib.hid (HRC.out.more HOC.out hwr (by simp) (fun i hi => (HR.out.laid i hi).2.1) (fun b hb => .inl (HR.out.own.lt b hb).2) ?_ hgrow hg3)
      rw [hbv]
      exact hown
    have hobB : (Value.slice a n cap).ownBlock ≠ some w.heap.size := fun e => by have := (HR2.out.own.lt _ e).1; omega
    have HD5 : Hid (Rdr w5 w.heap.size s (p + z)) := HDC.out.of_block hgrow.size (hgrow.block _ HDC.out.lt (fun e => hobB e.symm))
    have hs5 : w.heap.size + 1 ≤ w5.heap.size := HD5.out.lt
    have HOK5 : Hid (∀ b ∈ batsOf (es ++ [(⟨ws, ya, ycp, wr.heap.size, w2.heap.size, γ⟩ : Bat)]), okWs b = true) := fun b hb => by
      unfold batsOf at hb
      rw [List.map_append] at hb
      rcases List.mem_append.1 hb with hb | hb
      · exact HOK.out b hb
      · obtain rfl : b = ws := by simpa using hb
        exact HOKX.out
    have HLE : Hid (logT (batsOf (es ++ [(⟨ws, ya, ycp, wr.heap.size, w2.heap.size, γ⟩ : Bat)])) = logT (batsOf es) ++ batchT ws) := by
      show _ = _
      unfold batsOf
      rw [List.map_append]
      exact logT_snoc _ _
    have HLN5 : Hid ((logT (batsOf (es ++ [(⟨ws, ya, ycp, wr.heap.size, w2.heap.size, γ⟩ : Bat)]))).length = p + z) := by
      show _ = _
      rw [HLE.out, List.length_append, HLN.out, HZ.out]
    have HPR5 : Hid (logT (batsOf (es ++ [(⟨ws, ya, ycp, wr.heap.size, w2.heap.size, γ⟩ : Bat)])) <+: s.data.toList) := by
      rw [HLE.out]
      exact HPR2
    clear hown hgrow HRC HOW HCE HOC HDC
    go_wp2
    exact ⟨⟨p + z, _, n + 1, _, _, by omega, rfl, by simp [hel], by omega, hs5, HOK5, HLN5, HPR5, HR5, HD5, HB5⟩, by rw [rdAt_is HD5.out, rdAt_is HD.out]; omega⟩

set_option maxRecDepth 100000 in
theorem OwnB.wide {w : World} {lo hi hi' : Nat} {a : Option Addr} {es : List Bat} (h : OwnB w lo hi a es) (hl : hi ≤ hi') : OwnB w lo hi' a es := by
  rcases h with h | ⟨b, h1, h2, h3, h4, h5, h6, h7⟩
  · exact .inl h
  · exact .inr ⟨b, h1, h2, Nat.lt_of_lt_of_le h3 hl, h4, h5, fun i hi => ⟨(h6 i hi).1, Nat.le_trans (h6 i hi).2.1 hl, (h6 i hi).2.2⟩, h7⟩

set_option maxRecDepth 100000 in
theorem ET.below {w w' : World} (h : ET w) (hb : Below w.heap.size w w') : ET w' :=
  (hb.cell (p := ⟨0, 0, none⟩) (World.block_lt_of_cell? w _ h)).trans h

set_option maxRecDepth 100000 in
set_option maxHeartbeats 8000000 in
theorem implLog_any (s : ByteArray) (w : World) (hs : s.size ≤ 1048576) (hE : EV w) (hV : RV w) (hT : Tab w) (hY : ET w) :
    Calls Tryz.prog 6 #[.string s] w fun e w' => ∃ a cap es, e = .returned (.tuple #[.slice a (List.length es) cap, .int .i64 (((logT (batsOf es)).length : Nat) : Int)]) ∧ IsLog s.data.toList (batsOf es) ∧ es.length ≤ s.size ∧ OwnB w' w.heap.size w'.heap.size a es ∧ Below w.heap.size w w' := by
  have HE := Lib.hid hE
  have HV := Lib.hid hV
  have HT := Lib.hid hT
  have HY := Lib.hid hY
  clear hE hV hT hY
  go_enter Tryz.func6, Tryz.ntmps6
  go_wp2_with fail
  refine (batchesOf_any s _ hs HE.out HV.out HT.out).mono ?_
  rintro e w1 ⟨hb, a, cap, es, p, hel, hlog, hp, hown, hans⟩
  have HB1 := Lib.hid hb
  have HLG := Lib.hid hlog
  have HP := Lib.hid hp
  have HO := Lib.hid hown
  clear hb hlog hp hown
  generalize hn : es.length = n at *
  have HN := Lib.hid hn
  clear hn
  have HA1 : Hid (Below w1.heap.size w1 (w1.alloc (.cells #[.int .i64 0, .nilIface] 46))) := (Below.refl _ _).alloc (Nat.le_refl _) _
  have HB2 := Lib.hid (below_step HB1.out HB1.out.size HA1.out)
  rcases hans with ⟨hpe, rfl⟩ | ⟨t, v, rfl⟩
  · have HO2 : Hid (OwnB (w1.alloc (.cells #[.int .i64 0, .nilIface] 46)) w.heap.size (w1.alloc (.cells #[.int .i64 0, .nilIface] 46)).heap.size a es) := (HO.out.below HA1.out).wide HA1.out.size
    go_wp2_with fail
    refine (as_nil _ _).mono ?_
    rintro e w2 ⟨rfl, hw⟩
    subst w2
    go_wp2
    refine bodyPost_ret (v := .tuple #[.slice a n cap, .int .i64 (s.size : Int)]) (by simp [results, Tryz.results6, go_sem]) rfl ?_
    exact ⟨a, cap, es, by rw [HN.out, HP.out, hpe], HLG.out, by rw [HN.out]; exact hel, HO2.out, HB2.out⟩
  · have z0 : (w1.alloc (.cells #[.int .i64 0, .nilIface] 46)).cell? ⟨w1.heap.size, 0, none⟩ = some (.int .i64 0) := by simp [go_sem]
    have z1 : (w1.alloc (.cells #[.int .i64 0, .nilIface] 46)).cell? ⟨w1.heap.size, 1, none⟩ = some .nilIface := by simp [go_sem]
    have zf : ∀ o, (w1.alloc (.cells #[.int .i64 0, .nilIface] 46)).frozen? ⟨w1.heap.size, o, none⟩ = false := fun o => by simp [go_sem]
    have HC := Lib.hid (as_hit w1.heap.size (.int .i64 (p : Int)) (.iface t v) (.int .i64 0) .nilIface _ (HY.out.below HB2.out) z0 z1 zf rfl rfl)
    go_wp2_with fail
    generalize hW : w1.alloc (.cells #[.int .i64 0, .nilIface] 46) = W1 at *
    refine HC.out.mono ?_
    rintro e w2 ⟨rfl, hw⟩
    have hsz : w1.heap.size < W1.heap.size := by rw [← hW]; simp
    clear hW HC zf
    have hbb : Below W1.heap.size W1 ((((W1.alloc (.cells #[.pointer (some ⟨w1.heap.size, 0, none⟩)] 48)).alloc (.cells #[.pointer (some ⟨13, 48, none⟩), .pointer (some ⟨W1.heap.size, 0, none⟩), .int .u64 150] 80)).alloc (.cells #[.pointer (some ⟨13, 48, none⟩), .pointer (some ⟨W1.heap.size, 0, none⟩), .int .u64 150] 80)).alloc (.cells #[.int .i64 (p : Int), .iface t v] 46)) := ((((Below.refl _ _).alloc (Nat.le_refl _) _).alloc (by simp) _).alloc (by simp <;> omega) _).alloc (by simp <;> omega) _
    have y0 := (hbb.cell (p := ⟨w1.heap.size, 0, none⟩) hsz).trans z0
    generalize ((((W1.alloc (.cells #[.pointer (some ⟨w1.heap.size, 0, none⟩)] 48)).alloc (.cells #[.pointer (some ⟨13, 48, none⟩), .pointer (some ⟨W1.heap.size, 0, none⟩), .int .u64 150] 80)).alloc (.cells #[.pointer (some ⟨13, 48, none⟩), .pointer (some ⟨W1.heap.size, 0, none⟩), .int .u64 150] 80)).alloc (.cells #[.int .i64 (p : Int), .iface t v] 46)) = X at *
    have hc : w2.cell? ⟨w1.heap.size, 0, none⟩ = some (.int .i64 (p : Int)) := by
      rw [hw]
      exact cell_set_off (cell_set_same y0) (by omega)
    have HB3 : Hid (Below w1.heap.size w1 w2) := by
      rw [hw]
      exact Lib.hid (((below_step HA1.out HA1.out.size hbb).setCell (p := ⟨w1.heap.size, 0, none⟩) (Nat.le_refl _) _).setCell (p := ⟨w1.heap.size, 1, none⟩) (Nat.le_refl _) _)
    clear hw hbb y0 z0 z1
    have HB4 := Lib.hid (below_step HB1.out HB1.out.size HB3.out)
    have HO4 : Hid (OwnB w2 w.heap.size w2.heap.size a es) := (HO.out.below HB3.out).wide HB3.out.size
    go_wp2_with fail
    go_quiet (fail)
    go_wp2
    refine bodyPost_ret (v := .tuple #[.slice a n cap, .int .i64 (p : Int)]) (by simp [results, Tryz.results6, go_sem]) rfl ?_
    refine ⟨a, cap, es, by rw [HN.out, HP.out], HLG.out, by rw [HN.out]; exact hel, ?_, below_drewN HB4.out _⟩
    exact HO4.out.below (below_drewN (Below.refl _ _) _)

end Go.Proofs.YtidpcjcnhklmpacGreatDoor

/- The sizes of batches: the contracts of szBatch and szBatchS. -/
namespace Go.Proofs.YtidpcjcnhklmpacGreatDoor
open Go.ChangeShapes Go.WideShapes Go.ChangeAt Go.RowKit Go.Joins
attribute [local go_sem ↓] Go.wp_at_zero Go.wp_at_succ

/-- How much the batches hold. -/
def heftB : List (List Wr) → Nat
  | [] => 0
  | ws :: r => ws.length + bulk ws + heftB r

set_option maxRecDepth 100000 in
theorem heft_take : ∀ (bs : List (List Wr)) (k : Nat), k < bs.length → heftB (bs.take (k + 1)) = heftB (bs.take k) + ((bs.getD k []).length + bulk (bs.getD k []))
  | [], k, h => by simp at h
  | b :: r, 0, _ => by simp [heftB]
  | b :: r, k + 1, h => by
    have ih := heft_take r k (by simpa using h)
    simp only [List.take_succ_cons, heftB, List.getD_cons_succ]
    omega

set_option maxRecDepth 100000 in
theorem heft_one : ∀ (bs : List (List Wr)) (i : Nat), i < bs.length → (bs.getD i []).length + bulk (bs.getD i []) ≤ heftB bs
  | [], i, h => by simp at h
  | b :: r, 0, _ => by simp [heftB]
  | b :: r, i + 1, h => by
    have ih := heft_one r i (by simpa using h)
    simp only [heftB, List.getD_cons_succ]
    omega

set_option maxRecDepth 100000 in
theorem few_heft {bs : List (List Wr)} (h : heftB bs ≤ 1048576) : FewB bs := fun i hi => by
  have := heft_one bs i hi
  exact ⟨by omega, few_of_bulk (by omega)⟩

end Go.Proofs.YtidpcjcnhklmpacGreatDoor

/- The marks of batches stay within bounds: plain facts. -/
namespace Go.Proofs.YtidpcjcnhklmpacGreatDoor
open Go.ChangeShapes Go.WideShapes Go.ChangeAt Go.RowKit Go.Joins

set_option maxRecDepth 100000 in
theorem markK_bd (ws : List Wr) (k : Int) : k ≤ markK ws k ws.length ∧ markK ws k ws.length ≤ k + 6 * ((ws.length + bulk ws : Nat) : Int) := by
  unfold markK
  rw [List.take_length]
  constructor <;> (push_cast; omega)

set_option maxRecDepth 100000 in
theorem markKB_bd : ∀ (es : List Bat) (k : Int), k ≤ markKB es k ∧ markKB es k ≤ k + 6 * (heftB (batsOf es) : Int)
  | [], k => by simp [markKB, batsOf, heftB]
  | e :: r, k => by
    have h1 := markK_bd e.ws k
    have h2 := markKB_bd r (markK e.ws k e.ws.length)
    have e1 : markKB (e :: r) k = markKB r (markK e.ws k e.ws.length) := rfl
    have e2 : heftB (batsOf (e :: r)) = e.ws.length + bulk e.ws + heftB (batsOf r) := rfl
    rw [e1, e2]
    generalize markK e.ws k e.ws.length = m at *
    push_cast at *
    omega

set_option maxRecDepth 100000 in
theorem heft_part : ∀ (bs : List (List Wr)) (i : Nat), heftB (bs.take i) ≤ heftB bs
  | [], i => by simp
  | b :: r, 0 => by simp [heftB]
  | b :: r, i + 1 => by
    have := heft_part r i
    simp only [List.take_succ_cons, heftB]
    omega

set_option maxRecDepth 100000 in
theorem tame_heft {es : List Bat} (h : heftB (batsOf es) ≤ 100000000) (h2 : ∀ i, i < es.length → (es.getD i btz).ws.length ≤ 1048576 ∧ bulk (es.getD i btz).ws ≤ 1048576) : TameB es 1 := by
  refine ⟨h2, fun i _ => ?_⟩
  have h3 := markKB_bd (es.take i) 1
  have h4 : batsOf (es.take i) = (batsOf es).take i := by simp [batsOf]
  rw [h4] at h3
  have h5 := heft_part (batsOf es) i
  omega

set_option maxRecDepth 100000 in
theorem tame_small {es : List Bat} (h : heftB (batsOf es) ≤ 1048576) : TameB es 1 := tame_heft (by omega) fun i hi => by
  have h1 := heft_one (batsOf es) i (by simpa [batsOf] using hi)
  rw [batsOf_get es hi] at h1
  omega

end Go.Proofs.YtidpcjcnhklmpacGreatDoor

/- What the law FnExactLogRead walks. -/
namespace Go.Proofs.YtidpcjcnhklmpacGreatDoor
open Go.ChangeShapes Go.WideShapes Go.ChangeAt Go.RowKit Go.Joins
attribute [local go_sem ↓] Go.wp_at_zero Go.wp_at_succ

/-- What the variables hold that reading a log looks at. -/
def LV (w : World) : Prop := EV w ∧ RV w ∧ Tab w ∧ ET w

set_option maxRecDepth 100000 in
theorem LV.below {w w' : World} (h : LV w) (hb : Below w.heap.size w w') : LV w' := ⟨h.1.below hb, h.2.1.below hb, h.2.2.1.below hb h.2.2.1.lt, h.2.2.2.below hb⟩

set_option maxRecDepth 100000 in
theorem okWs_bulk {ws : List Wr} (h : okWs ws = true) : ws.length ≤ 6 ∧ bulk ws ≤ 36 := by
  have h1 := okWs_len h
  have h2 := bulk_le (m := 6) fun x hx => depR_len (ok_parts (okWs_all h x hx)).2.2.2.1
  exact ⟨h1.2, by omega⟩

set_option maxRecDepth 100000 in
theorem log_heft : ∀ {bs : List (List Wr)}, (∀ b ∈ bs, okWs b = true) → heftB bs ≤ 42 * bs.length
  | [], _ => by simp [heftB]
  | b :: r, h => by
    have h1 := okWs_bulk (h b (by simp))
    have h2 := log_heft (bs := r) fun x hx => h x (List.mem_cons_of_mem _ hx)
    simp only [heftB, List.length_cons]
    omega

set_option maxRecDepth 100000 in
theorem getB_mem {bs : List (List Wr)} {i : Nat} (h : i < bs.length) : bs.getD i [] ∈ bs := by simp [List.getD, h]

set_option maxRecDepth 100000 in
theorem log_few {bs : List (List Wr)} (h : ∀ b ∈ bs, okWs b = true) : FewB bs := fun i hi => by
  have h1 := okWs_bulk (h _ (getB_mem hi))
  exact ⟨by omega, few_of_bulk (by omega)⟩

set_option maxRecDepth 100000 in
theorem log_tame {es : List Bat} (h : ∀ b ∈ batsOf es, okWs b = true) (hl : es.length ≤ 1048576) : TameB es 1 := by
  have hl2 : (batsOf es).length = es.length := by simp [batsOf]
  refine tame_heft (by have := log_heft h; omega) fun i hi => ?_
  have h1 := okWs_bulk (h _ (getB_mem (i := i) (by omega)))
  rw [batsOf_get es hi] at h1
  omega

end Go.Proofs.YtidpcjcnhklmpacGreatDoor

/- The contracts of l01Open and of the cursor's tag. -/
namespace Go.Proofs.YtidpcjcnhklmpacGreatDoor
open Go.ChangeShapes Go.WideShapes Go.ChangeAt Go.RowKit Go.Joins

/-- What a code that came in is: bytes in a block that was there. -/
def Bytes (w : World) (a : Option Addr) (len : Nat) : Prop :=
  len = 0 ∨ ∃ b o, a = some ⟨b, o, none⟩ ∧ b < w.heap.size ∧ ∀ i, i < len → ∃ z : Int, 0 ≤ z ∧ z ≤ 255 ∧ w.cell? ⟨b, o + i, none⟩ = some (.int .u8 z)

theorem Bytes.below {w w' : World} {a : Option Addr} {len : Nat} (h : Bytes w a len) (hb : Below w.heap.size w w') : Bytes w' a len := by
  rcases h with h | ⟨b, o, ha, hlt, hz⟩
  · exact .inl h
  · refine .inr ⟨b, o, ha, Nat.lt_of_lt_of_le hlt hb.size, fun i hi => ?_⟩
    obtain ⟨z, z0, z1, hc⟩ := hz i hi
    exact ⟨z, z0, z1, held_cell hb hc hlt⟩

theorem cur_start {w : World} {a : Option Addr} {len cap : Nat} (sd : Int) (t : Nat) (h : Bytes w a len) (hl : len ≤ 1048576) (s0 : 0 ≤ sd) (s1 : sd ≤ 65520) :
    Cur (w.alloc (.cells #[.slice a len cap, .int .i64 0, .int .i64 sd] t)) w.heap.size a len cap 0 := by
  refine ⟨0, sd, ⟨by simp, by simp [go_sem], by simp [go_sem], by simp [go_sem], fun o => by simp [go_sem], by omega, s0, s1⟩, by omega, ?_, hl⟩
  rcases h with h | ⟨b, o, ha, hlt, hz⟩
  · exact .inl h
  · refine .inr ⟨b, o, ha, hlt, fun i hi => ?_⟩
    obtain ⟨z, z0, z1, hc⟩ := hz i hi
    exact ⟨z, z0, z1, held_cell ((Below.refl _ _).alloc (Nat.le_refl _) _) hc hlt⟩

set_option maxHeartbeats 400000 in
theorem open_any (a : Option Addr) (len cap : Nat) (w : World) (h : Bytes w a len) (hl : len ≤ 1048576) :
    Calls Tryz.prog 13 #[.slice a len cap] w fun e w' => e = .returned (.pointer (some ⟨w.heap.size, 0, none⟩)) ∧ Cur w' w.heap.size a len cap 0 ∧ Below w.heap.size w w' := by
  have HB : Hid (Bytes w a len) := h
  clear h
  go_enter Tryz.func13, Tryz.ntmps13
  go_wp2
  go_ret
  exact ⟨rfl, cur_start _ _ HB.out hl (by omega) (by omega), (Below.refl _ _).alloc (Nat.le_refl _) _⟩

theorem TagBox.set0 {w : World} {b : Nat} {c s q : Int} (h : TagBox w b c s q) (x : Int) : TagBox (w.setCell ⟨b, 0, none⟩ (.int .i64 x)) b x s q :=
  ⟨by simpa [World.setCell] using h.lt, cell_set_same h.c0, cell_set_off h.c1 (by omega), cell_set_off h.c2 (by omega), fun o => by rw [World.frozen?_setCell]; exact h.fz o⟩

theorem TagBox.set1 {w : World} {b : Nat} {c s q : Int} (h : TagBox w b c s q) (x : Int) : TagBox (w.setCell ⟨b, 1, none⟩ (.int .i64 x)) b c x q :=
  ⟨by simpa [World.setCell] using h.lt, cell_set_off h.c0 (by omega), cell_set_same h.c1, cell_set_off h.c2 (by omega), fun o => by rw [World.frozen?_setCell]; exact h.fz o⟩

theorem TagBox.set2 {w : World} {b : Nat} {c s q : Int} (h : TagBox w b c s q) (x : Int) : TagBox (w.setCell ⟨b, 2, none⟩ (.int .i64 x)) b c s x :=
  ⟨by simpa [World.setCell] using h.lt, cell_set_off h.c0 (by omega), cell_set_off h.c1 (by omega), cell_set_same h.c2, fun o => by rw [World.frozen?_setCell]; exact h.fz o⟩

/-- How a tag's drawing ends, out of any world in which both boxes stand. -/
theorem tag_end {B R : Nat} {a : Option Addr} {len cap : Nat} {N : Int} {w w' : World} {c s q : Int} (hR : w.heap.size ≤ R) (hB : B < w.heap.size) (hc : Cur w' B a len cap N) (hh : Hole B w w') :
    Cur (((w'.setCell ⟨R, 0, none⟩ (.int .i64 c)).setCell ⟨R, 1, none⟩ (.int .i64 s)).setCell ⟨R, 2, none⟩ (.int .i64 q)) B a len cap N ∧ Hole B w (((w'.setCell ⟨R, 0, none⟩ (.int .i64 c)).setCell ⟨R, 1, none⟩ (.int .i64 s)).setCell ⟨R, 2, none⟩ (.int .i64 q)) :=
  ⟨((hc.setOther (by omega) 0 _).setOther (by omega) 1 _).setOther (by omega) 2 _, ((hh.setNew hR 0 _).setNew hR 1 _).setNew hR 2 _⟩

set_option maxHeartbeats 2000000 in
theorem tag_any (B : Nat) (a : Option Addr) (len cap : Nat) (N : Int) (w : World) (hN : N ≤ 10000) (h : Cur w B a len cap N) :
    Calls Tryz.prog 87 #[.pointer (some ⟨B, 0, none⟩)] w fun e w' => ∃ c s q : Int, e = .returned (tagV c s q) ∧ Cur w' B a len cap (N + 9) ∧ Hole B w w' := by
  have HC : Hid (Cur w B a len cap N) := h
  have hB := h.lt
  clear h
  go_enter Tryz.func87, Tryz.ntmps87
  go_wp2_with fail
  have HRb : Hid (TagBox (w.alloc (.cells #[.int .i64 0, .int .i64 0, .int .i64 0] 53)) w.heap.size 0 0 0) := TagBox.start _ _ _ _ _
  have HA : Hid (Below w.heap.size w (w.alloc (.cells #[.int .i64 0, .int .i64 0, .int .i64 0] 53))) := (Below.refl _ _).alloc (Nat.le_refl _) _
  refine (pick_any B a len cap N 12 _ (by omega) (by omega) (by omega) (HC.out.below HA.out)).mono ?_
  rintro e w1 ⟨r1, rfl, q10, q11, hc1, hh1⟩
  have HC1 : Hid (Cur w1 B a len cap (N + 1)) := hc1
  have HR1 : Hid (TagBox w1 w.heap.size 0 0 0) := HRb.out.hole hh1 (by omega)
  have HH1 : Hid (Hole B w w1) := (Hole.of_below HA.out).trans hh1
  clear hc1 hh1 HRb HA
  go_wp2_with fail
  refine (pick_any B a len cap (N + 1) 4 _ (by omega) (by omega) (by omega) HC1.out).mono ?_
  rintro e w2 ⟨r2, rfl, q20, q21, hc2, hh2⟩
  have HC2 : Hid (Cur w2 B a len cap (N + 2)) := hc2.more (by omega)
  have HR2 : Hid (TagBox w2 w.heap.size 0 0 0) := HR1.out.hole hh2 (by omega)
  have HH2 : Hid (Hole B w w2) := HH1.out.trans hh2
  clear hc2 hh2 HC1 HR1 HH1
  go_wp2_with fail
  refine (pick_any B a len cap (N + 2) 6 _ (by omega) (by omega) (by omega) HC2.out).mono ?_
  rintro e w3 ⟨r3, rfl, q30, q31, hc3, hh3⟩
  have HC3 : Hid (Cur w3 B a len cap (N + 3)) := hc3.more (by omega)
  have HR3 : Hid (TagBox w3 w.heap.size 0 0 0) := HR2.out.hole hh3 (by omega)
  have HH3 : Hid (Hole B w w3) := HH2.out.trans hh3
  clear hc3 hh3 HC2 HR2 HH2
  have hz3 := HR3.out.lt
  go_wp2_with fail
  have HA : Hid (Below w3.heap.size w3 (w3.alloc (.cells #[.int .i64 (1 + r1), .int .i64 r2, .int .i64 (1 + r3)] 53))) := (Below.refl _ _).alloc (Nat.le_refl _) _
  have HT : Hid (TagBox (w3.alloc (.cells #[.int .i64 (1 + r1), .int .i64 r2, .int .i64 (1 + r3)] 53)) w3.heap.size (1 + r1) r2 (1 + r3)) := TagBox.start _ _ _ _ _
  refine (once_any B a len cap (N + 3) 14 _ (by omega) (by omega) (by omega) (HC3.out.below HA.out)).mono ?_
  rintro e w4 ⟨b4, rfl, hc4, hh4⟩
  have HC4 : Hid (Cur w4 B a len cap (N + 4)) := hc4.more (by omega)
  have HR4 : Hid (TagBox w4 w.heap.size 0 0 0) := (HR3.out.hole (Hole.of_below (B := B) HA.out) (by omega)).hole hh4 (by omega)
  have HT4 : Hid (TagBox w4 w3.heap.size (1 + r1) r2 (1 + r3)) := HT.out.hole hh4 (by omega)
  have HH4 : Hid (Hole B w w4) := (HH3.out.trans (Hole.of_below HA.out)).trans hh4
  clear hc4 hh4 HC3 HR3 HH3 HA HT
  generalize 1 + r1 = c at *
  generalize 1 + r3 = q at *
  cases b4
  · have x0 := HR4.out.c0
    have x1 := HR4.out.c1
    have x2 := HR4.out.c2
    have xf := HR4.out.fz
    have y0 := HT4.out.c0
    have y1 := HT4.out.c1
    have y2 := HT4.out.c2
    go_wp2
    have HE := tag_end (R := w.heap.size) (c := c) (s := r2) (q := q) (Nat.le_refl _) hB (HC4.out.more (by omega : N + 4 ≤ N + 9)) HH4.out
    exact bodyPost_ret (v := tagV c r2 q) (by simp [results, Tryz.results87, go_sem, x0, x1, x2]) rfl ⟨c, r2, q, rfl, HE.1, HE.2⟩
  · have xne : w3.heap.size ≠ w.heap.size := by omega
    go_wp2_with fail
    refine (pick_any B a len cap (N + 4) 3 _ (by omega) (by omega) (by omega) HC4.out).mono ?_
    rintro e w5 ⟨r5, rfl, q50, q51, hc5, hh5⟩
    have HC5 : Hid (Cur w5 B a len cap (N + 5)) := hc5.more (by omega)
    have HR5 : Hid (TagBox w5 w.heap.size 0 0 0) := HR4.out.hole hh5 (by omega)
    have HT5 : Hid (TagBox w5 w3.heap.size c r2 q) := HT4.out.hole hh5 (by omega)
    have HH5 : Hid (Hole B w w5) := HH4.out.trans hh5
    clear hc5 hh5 HC4 HR4 HT4 HH4
    by_cases k0 : r5 = 0
    · subst k0
      go_wp2_with fail
      refine (raw_any B a len cap (N + 5) _ (by omega) HC5.out).mono ?_
      rintro e w6 ⟨v, rfl, hc6, hh6⟩
      have HC6 : Hid (Cur w6 B a len cap (N + 7)) := hc6.more (by omega)
      have HR6 : Hid (TagBox w6 w.heap.size 0 0 0) := HR5.out.hole hh6 (by omega)
      have HT6 : Hid (TagBox w6 w3.heap.size c r2 q) := HT5.out.hole hh6 (by omega)
      have HH6 : Hid (Hole B w w6) := HH5.out.trans hh6
      clear hc6 hh6 HC5 HR5 HT5 HH5
      go_wp2_with fail
      have HA : Hid (Below w6.heap.size w6 (w6.alloc (.cells ((([v, 100000, 100001] : List Int).map (Value.int .i64)).toArray) 3))) := (Below.refl _ _).alloc (Nat.le_refl _) _
      refine (pick_any B a len cap (N + 7) 3 _ (by omega) (by omega) (by omega) (HC6.out.below HA.out)).mono ?_
      rintro e w7 ⟨r7, rfl, q70, q71, hc7, hh7⟩
      have hB6 := HC6.out.lt
      have hcell : w7.cell? ⟨w6.heap.size, r7.toNat, none⟩ = some (.int .i64 _) := (hh7.cell (by simp) (by omega)).trans (ints_cell w6 [v, 100000, 100001] _ r7.toNat (by simp; omega))
      generalize List.getD [v, 100000, 100001] r7.toNat 0 = u at hcell
      have HC7 : Hid (Cur w7 B a len cap (N + 8)) := hc7.more (by omega)
      have HR7 : Hid (TagBox w7 w.heap.size 0 0 0) := (HR6.out.hole (Hole.of_below (B := B) HA.out) (by omega)).hole hh7 (by omega)
      have HT7 : Hid (TagBox w7 w3.heap.size c r2 q) := (HT6.out.hole (Hole.of_below (B := B) HA.out) (by omega)).hole hh7 (by omega)
      have HH7 : Hid (Hole B w w7) := (HH6.out.trans (Hole.of_below HA.out)).trans hh7
      clear hc7 hh7 HC6 HR6 HT6 HH6 HA
      have x0 := HR7.out.c0
      have x1 := HR7.out.c1
      have x2 := HR7.out.c2
      have xf := HR7.out.fz
      have y0 := HT7.out.c0
      have y1 := HT7.out.c1
      have y2 := HT7.out.c2
      have yf := HT7.out.fz
      go_wp2
      have HE := tag_end (R := w.heap.size) (c := u) (s := r2) (q := q) (Nat.le_refl _) hB ((HC7.out.setOther (R := w3.heap.size) (by omega) 0 (.int .i64 u)).more (by omega : N + 8 ≤ N + 9)) (HH7.out.setNew (R := w3.heap.size) (by omega) 0 (.int .i64 u))
      exact bodyPost_ret (v := tagV u r2 q) (by simp [results, Tryz.results87, go_sem, x0, x1, x2]) rfl ⟨u, r2, q, rfl, HE.1, HE.2⟩
    · by_cases k1 : r5 = 1
      · subst k1
        go_wp2_with fail
        refine (raw_any B a len cap (N + 5) _ (by omega) HC5.out).mono ?_
        rintro e w6 ⟨v, rfl, hc6, hh6⟩
        have HC6 : Hid (Cur w6 B a len cap (N + 7)) := hc6.more (by omega)
        have HR6 : Hid (TagBox w6 w.heap.size 0 0 0) := HR5.out.hole hh6 (by omega)
        have HT6 : Hid (TagBox w6 w3.heap.size c r2 q) := HT5.out.hole hh6 (by omega)
        have HH6 : Hid (Hole B w w6) := HH5.out.trans hh6
        clear hc6 hh6 HC5 HR5 HT5 HH5
        have x0 := HR6.out.c0
        have x1 := HR6.out.c1
        have x2 := HR6.out.c2
        have xf := HR6.out.fz
        have y0 := HT6.out.c0
        have y1 := HT6.out.c1
        have y2 := HT6.out.c2
        have yf := HT6.out.fz
        go_wp2
        have HE := tag_end (R := w.heap.size) (c := c) (s := v) (q := q) (Nat.le_refl _) hB ((HC6.out.setOther (R := w3.heap.size) (by omega) 1 (.int .i64 v)).more (by omega : N + 7 ≤ N + 9)) (HH6.out.setNew (R := w3.heap.size) (by omega) 1 (.int .i64 v))
        exact bodyPost_ret (v := tagV c v q) (by simp [results, Tryz.results87, go_sem, x0, x1, x2]) rfl ⟨c, v, q, rfl, HE.1, HE.2⟩
      · have k0' : (r5 == 0) = false := by simp [k0]
        have k1' : (r5 == 1) = false := by simp [k1]
        clear k0 k1
        go_wp2_with fail
        refine (raw_any B a len cap (N + 5) _ (by omega) HC5.out).mono ?_
        rintro e w6 ⟨v, rfl, hc6, hh6⟩
        have HC6 : Hid (Cur w6 B a len cap (N + 7)) := hc6.more (by omega)
        have HR6 : Hid (TagBox w6 w.heap.size 0 0 0) := HR5.out.hole hh6 (by omega)
        have HT6 : Hid (TagBox w6 w3.heap.size c r2 q) := HT5.out.hole hh6 (by omega)
        have HH6 : Hid (Hole B w w6) := HH5.out.trans hh6
        clear hc6 hh6 HC5 HR5 HT5 HH5
        go_wp2_with fail
        have HA : Hid (Below w6.heap.size w6 (w6.alloc (.cells ((([v, 1000, 1001] : List Int).map (Value.int .i64)).toArray) 3))) := (Below.refl _ _).alloc (Nat.le_refl _) _
        refine (pick_any B a len cap (N + 7) 3 _ (by omega) (by omega) (by omega) (HC6.out.below HA.out)).mono ?_
        rintro e w7 ⟨r7, rfl, q70, q71, hc7, hh7⟩
        have hB6 := HC6.out.lt
        have hcell : w7.cell? ⟨w6.heap.size, r7.toNat, none⟩ = some (.int .i64 _) := (hh7.cell (by simp) (by omega)).trans (ints_cell w6 [v, 1000, 1001] _ r7.toNat (by simp; omega))
        generalize List.getD [v, 1000, 1001] r7.toNat 0 = u at hcell
        have HC7 : Hid (Cur w7 B a len cap (N + 8)) := hc7.more (by omega)
        have HR7 : Hid (TagBox w7 w.heap.size 0 0 0) := (HR6.out.hole (Hole.of_below (B := B) HA.out) (by omega)).hole hh7 (by omega)
        have HT7 : Hid (TagBox w7 w3.heap.size c r2 q) := (HT6.out.hole (Hole.of_below (B := B) HA.out) (by omega)).hole hh7 (by omega)
        have HH7 : Hid (Hole B w w7) := (HH6.out.trans (Hole.of_below HA.out)).trans hh7
        clear hc7 hh7 HC6 HR6 HT6 HH6 HA
        have x0 := HR7.out.c0
        have x1 := HR7.out.c1
        have x2 := HR7.out.c2
        have xf := HR7.out.fz
        have y0 := HT7.out.c0
        have y1 := HT7.out.c1
        have y2 := HT7.out.c2
        have yf := HT7.out.fz
        go_wp2
        have HE := tag_end (R := w.heap.size) (c := c) (s := r2) (q := u) (Nat.le_refl _) hB ((HC7.out.setOther (R := w3.heap.size) (by omega) 2 (.int .i64 u)).more (by omega : N + 8 ≤ N + 9)) (HH7.out.setNew (R := w3.heap.size) (by omega) 2 (.int .i64 u))
        exact bodyPost_ret (v := tagV c r2 u) (by simp [results, Tryz.results87, go_sem, x0, x1, x2]) rfl ⟨c, r2, u, rfl, HE.1, HE.2⟩

end Go.Proofs.YtidpcjcnhklmpacGreatDoor
