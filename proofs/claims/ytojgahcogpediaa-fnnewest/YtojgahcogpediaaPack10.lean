import Derived.Test.YtojgahcogpediaaPack3
import Derived.Test.YtojgahcogpediaaPack9
import Derived.Deep.RegionHeld3
import Derived.Deep.DeepCutAuto
import Derived.Test.YtojgahcogpediaaPack6
/- The contract of the cursor's story. -/
namespace Go.Proofs.Ytojgahcogpediaa
open Go.ChangeShapes Go.WideShapes Go.ChangeAt Go.RowKit Go.Joins
attribute [local go_sem ↓] Go.wp_at_zero Go.wp_at_succ

/-- A row stays where its own blocks stay. -/
theorem RowG.stay {w w' : World} {base : Nat} {v : Value} {es : List EnG} (h : RowG w base v es) (hs : w.heap.size ≤ w'.heap.size)
    (hb : ∀ b, base ≤ b → b < w.heap.size → (v.ownBlock = some b ∨ ∃ e ∈ es, 0 < e.x.xs.length ∧ e.g = b) → w'.heap[b]? = w.heap[b]?) : RowG w' base v es where
  own := by
    refine ⟨h.own.1, ?_⟩
    rcases h.own.2 with h1 | ⟨g, cap, cur, h1, h2, h3, h4⟩
    · exact .inl h1
    · exact .inr ⟨g, cap, cur, h1, h2, (hb g h2 (Array.getElem?_eq_some_iff.1 h3).1 (.inl (by rw [h1]; rfl))).trans h3, h4⟩
  deps := fun e he => ⟨(h.deps e he).1.of_block hs fun hp => hb e.g ((h.deps e he).1 hp).2.1 ((h.deps e he).1 hp).2.2.1 (.inr ⟨e, he, hp, rfl⟩), (h.deps e he).2⟩
  apart := h.apart

theorem RowG.hole {w w' : World} {B base : Nat} {v : Value} {es : List EnG} (h : RowG w base v es) (hh : Hole B w w') (hB : B < base) : RowG w' base v es :=
  h.stay hh.size fun b hb hlt _ => hh.block b hlt (by omega)

/-- None of the row's blocks is X. -/
def Off (v : Value) (es : List EnG) (X : Nat) : Prop := v.ownBlock ≠ some X ∧ ∀ e ∈ es, 0 < e.x.xs.length → e.g ≠ X

theorem RowG.set {w : World} {base X : Nat} {v : Value} {es : List EnG} (h : RowG w base v es) (hX : Off v es X) (o : Nat) (u : Value) : RowG (w.setCell ⟨X, o, none⟩ u) base v es :=
  h.stay (by simp [World.setCell]) fun b _ _ hu => Below.heap_setCell _ _ _ _ (by
    rcases hu with hu | ⟨e, he, hp, rfl⟩
    · intro e
      exact hX.1 (by rw [hu]; congr 1)
    · exact hX.2 e he hp)

/-- Four numbers in a block, each from 0 to m. -/
def SeqAt (w : World) (b : Nat) (m : Int) : Prop := b < w.heap.size ∧ (∀ i, i < 4 → ∃ z : Int, w.cell? ⟨b, i, none⟩ = some (.int .i64 z) ∧ 0 ≤ z ∧ z ≤ m) ∧ ∀ o, w.frozen? ⟨b, o, none⟩ = false

theorem SeqAt.of_block {w w' : World} {b : Nat} {m : Int} (h : SeqAt w b m) (hs : w.heap.size ≤ w'.heap.size) (hb : w'.heap[b]? = w.heap[b]?) : SeqAt w' b m :=
  ⟨Nat.lt_of_lt_of_le h.1 hs, fun i hi => by
    obtain ⟨z, h1, h2⟩ := h.2.1 i hi
    exact ⟨z, (World.cell?_of_block (a := ⟨b, i, none⟩) hb).trans h1, h2⟩, fun o => (frozen_of_block hb).trans (h.2.2 o)⟩

theorem SeqAt.hole {w w' : World} {B b : Nat} {m : Int} (h : SeqAt w b m) (hh : Hole B w w') (hB : b ≠ B) : SeqAt w' b m := h.of_block hh.size (hh.block b h.1 hB)

theorem SeqAt.set {w : World} {b : Nat} {m : Int} (h : SeqAt w b m) {i : Nat} {z : Int} (h0 : 0 ≤ z) (h1 : z ≤ m + 1) : SeqAt (w.setCell ⟨b, i, none⟩ (.int .i64 z)) b (m + 1) := by
  refine ⟨by simpa [World.setCell] using h.1, fun j hj => ?_, fun o => by rw [World.frozen?_setCell]; exact h.2.2 o⟩
  obtain ⟨y, g1, g2, g3⟩ := h.2.1 j hj
  by_cases e : i = j
  · subst e
    exact ⟨z, cell_set_same g1, h0, h1⟩
  · exact ⟨y, cell_set_off g1 e, g2, by omega⟩

theorem infoInt4 : (Try.prog.info? 3).map (fun i => (i.zero, i.size, i.bytes)) = some (some (.int .i64 0), 1, 8) := by kernel_rfl

theorem run_make_four (w : World) :
    (Instr.makeSlice 127 (.int .i64 4) (.int .i64 4)).run Try.prog w = .ok (.slice (some ⟨w.heap.size, 0, none⟩) 4 4) (w.alloc (.cells (madeCells #[.int .i64 0] 4) 3)) := by
  obtain ⟨i, hi, hzz⟩ := Option.map_eq_some_iff.1 infoInt4
  simp only [Prod.mk.injEq] at hzz
  obtain ⟨hz, hs, hb⟩ := hzz
  have hr := run_make (P := Try.prog) w 127 3 i _ Try.underlying127 hi hz .i64 .i64 4 4 (by omega) (Int.le_refl _) (by rw [hb]; omega) (by omega)
  simp only [hs] at hr
  exact hr

theorem seq_start (w : World) : SeqAt (w.alloc (.cells (madeCells #[.int .i64 0] 4) 3)) w.heap.size 0 := by
  refine ⟨by simp, fun i hi => ⟨0, ?_, by omega, by omega⟩, fun o => frozen_of_row _ _ o _ _ (heap_alloc_new w _)⟩
  rw [cell_of_row _ _ i _ _ (0, 0) (heap_alloc_new w _)]
  have h4 : i = 0 ∨ i = 1 ∨ i = 2 ∨ i = 3 := by omega
  rcases h4 with rfl | rfl | rfl | rfl <;> simp [madeCells]

/-- What is carried through the story's rounds: the row of writes told so far, the numbers of the sites, the cursor, what was there. -/
structure Tale (w wr : World) (B : Nat) (a : Option Addr) (len cap : Nat) (N : Int) (v : Value) (es : List EnG) : Prop where
  row : RowG wr w.heap.size v es
  off : Off v es (w.heap.size + 1)
  seq : SeqAt wr (w.heap.size + 1) es.length
  few : ∀ d ∈ es, d.x.xs.length ≤ 10
  clock : ∀ d ∈ es, 0 ≤ d.x.c ∧ d.x.c ≤ es.length
  cur : Cur wr B a len cap (N + 25 * es.length + 1)
  hole : Hole B w wr

abbrev ZeroBox (W : World) (T : Nat) : Prop :=
  W.cell? ⟨T, 0, none⟩ = some (.int .i64 0) ∧ W.cell? ⟨T, 1, none⟩ = some (.int .i64 0) ∧ W.cell? ⟨T, 2, none⟩ = some (.int .i64 0) ∧ W.cell? ⟨T, 3, none⟩ = some (.int .i64 0) ∧ W.cell? ⟨T, 4, none⟩ = some (.int .i64 0) ∧ W.cell? ⟨T, 5, none⟩ = some (.bool false) ∧ W.cell? ⟨T, 6, none⟩ = some (.slice none 0 0) ∧ (∀ o, W.frozen? ⟨T, o, none⟩ = false) ∧ T < W.heap.size

theorem zero_alloc (W : World) (t : Nat) : ZeroBox (W.alloc (.cells #[.int .i64 0, .int .i64 0, .int .i64 0, .int .i64 0, .int .i64 0, .bool false, .slice none 0 0] t)) W.heap.size := by
  have h := WBox.start W 0 0 0 0 0 false none 0 0 t
  exact ⟨h.c0, h.c1, h.c2, h.c3, h.c4, h.c5, h.c6, h.fz, h.lt⟩

theorem zero_hole {W W' : World} {B T : Nat} (hh : Hole B W W') (h : ZeroBox W T) (hT : T ≠ B) : ZeroBox W' T := by
  obtain ⟨h0, h1, h2, h3, h4, h5, h6, h7, h8⟩ := h
  exact ⟨(hh.cell h8 hT).trans h0, (hh.cell h8 hT).trans h1, (hh.cell h8 hT).trans h2, (hh.cell h8 hT).trans h3, (hh.cell h8 hT).trans h4, (hh.cell h8 hT).trans h5, (hh.cell h8 hT).trans h6, fun o => (hh.frozen h8 hT).trans (h7 o), Nat.lt_of_lt_of_le h8 hh.size⟩

theorem cur_drew {w : World} {B : Nat} {a : Option Addr} {len cap : Nat} {N : Int} (h : Cur w B a len cap N) : Cur w.drew B a len cap N := h.below (Below.refl _ _).drew

theorem cur_alloc {w : World} {B : Nat} {a : Option Addr} {len cap : Nat} {N : Int} (h : Cur w B a len cap N) (o : Obj) : Cur (w.alloc o) B a len cap N := h.below ((Below.refl _ _).alloc (Nat.le_refl _) _)

theorem WBox.set2 {w : World} {b : Nat} {k c s q v : Int} {de : Bool} {x : Option Addr} {len cap : Nat} (h : WBox w b k c s q v de x len cap) (y : Int) : WBox (w.setCell ⟨b, 2, none⟩ (.int .i64 y)) b k c y q v de x len cap :=
  ⟨by simpa [World.setCell] using h.lt, cell_set_off h.c0 (by omega), cell_set_off h.c1 (by omega), cell_set_same h.c2, cell_set_off h.c3 (by omega), cell_set_off h.c4 (by omega), cell_set_off h.c5 (by omega), cell_set_off h.c6 (by omega), fun o => by rw [World.frozen?_setCell]; exact h.fz o⟩

theorem WBox.set3 {w : World} {b : Nat} {k c s q v : Int} {de : Bool} {x : Option Addr} {len cap : Nat} (h : WBox w b k c s q v de x len cap) (y : Int) : WBox (w.setCell ⟨b, 3, none⟩ (.int .i64 y)) b k c s y v de x len cap :=
  ⟨by simpa [World.setCell] using h.lt, cell_set_off h.c0 (by omega), cell_set_off h.c1 (by omega), cell_set_off h.c2 (by omega), cell_set_same h.c3, cell_set_off h.c4 (by omega), cell_set_off h.c5 (by omega), cell_set_off h.c6 (by omega), fun o => by rw [World.frozen?_setCell]; exact h.fz o⟩

theorem ZeroBox.box {W : World} {T : Nat} (h : ZeroBox W T) : WBox W T 0 0 0 0 0 false none 0 0 := by
  obtain ⟨h0, h1, h2, h3, h4, h5, h6, h7, h8⟩ := h
  exact ⟨h8, h0, h1, h2, h3, h4, h5, h6, h7⟩

def setW (W : World) (T : Nat) (k c s q v : Int) (de : Bool) (x : Option Addr) (l p : Nat) : World :=
  ((((((W.setCell ⟨T, 0, none⟩ (.int .i64 k)).setCell ⟨T, 1, none⟩ (.int .i64 c)).setCell ⟨T, 2, none⟩ (.int .i64 s)).setCell ⟨T, 3, none⟩ (.int .i64 q)).setCell ⟨T, 4, none⟩ (.int .i64 v)).setCell ⟨T, 5, none⟩ (.bool de)).setCell ⟨T, 6, none⟩ (.slice x l p)

theorem setW_box {W : World} {T : Nat} (h : ZeroBox W T) (k c s q v : Int) (de : Bool) (x : Option Addr) (l p : Nat) : WBox (setW W T k c s q v de x l p) T k c s q v de x l p :=
  ((((((h.box.set0 k).set1 c).set2 s).set3 q).set4 v).set5 de).set6 x l p

/-- A row's blocks are older than what comes behind it. -/
theorem RowG.offNew {w : World} {base : Nat} {v : Value} {es : List EnG} (h : RowG w base v es) {T : Nat} (hT : w.heap.size ≤ T) : Off v es T :=
  ⟨fun e => by have := (World.ownsRow.lt h.own T e).2; omega, fun e he hp => by have := ((h.deps e he).1 hp).2.2.1; omega⟩

/-- What is carried through the making of one write. -/
structure Mid (w W : World) (B : Nat) (a : Option Addr) (len cap : Nat) (M : Int) (v : Value) (es : List EnG) (T : Nat) (k c s q u : Int) (de : Bool) (x : Option Addr) (l p : Nat) : Prop where
  row : RowG W w.heap.size v es
  off : Off v es (w.heap.size + 1)
  offT : Off v es T
  seq : SeqAt W (w.heap.size + 1) (es.length + 1)
  cur : Cur W B a len cap M
  hole : Hole B w W
  box : WBox W T k c s q u de x l p
  lo : w.heap.size + 1 < T

theorem Mid.start {w W : World} {B : Nat} {a : Option Addr} {len cap : Nat} {M : Int} {v : Value} {es : List EnG} {T : Nat} (hr : RowG W w.heap.size v es) (ho : Off v es (w.heap.size + 1)) (hoT : Off v es T) (hs : SeqAt W (w.heap.size + 1) (es.length + 1)) (hc : Cur W B a len cap M) (hh : Hole B w W) (hz : ZeroBox W T) (hlo : w.heap.size + 1 < T) (hB : B < w.heap.size) (k c s q u : Int) (de : Bool) (x : Option Addr) (l p : Nat) : Mid w (setW W T k c s q u de x l p) B a len cap M v es T k c s q u de x l p where
  row := ((((((hr.set hoT _ _).set hoT _ _).set hoT _ _).set hoT _ _).set hoT _ _).set hoT _ _).set hoT _ _
  off := ho
  offT := hoT
  seq := by
    refine hs.of_block (by simp [setW, World.setCell]) ?_
    have hne : w.heap.size + 1 ≠ T := by omega
    unfold setW
    rw [Below.heap_setCell _ _ _ _ hne, Below.heap_setCell _ _ _ _ hne, Below.heap_setCell _ _ _ _ hne, Below.heap_setCell _ _ _ _ hne, Below.heap_setCell _ _ _ _ hne, Below.heap_setCell _ _ _ _ hne, Below.heap_setCell _ _ _ _ hne]
  cur := by
    have hT : B < T := by omega
    exact ((((((hc.setOther hT _ _).setOther hT _ _).setOther hT _ _).setOther hT _ _).setOther hT _ _).setOther hT _ _).setOther hT _ _
  hole := by
    have hT : w.heap.size ≤ T := by omega
    exact ((((((hh.setNew hT _ _).setNew hT _ _).setNew hT _ _).setNew hT _ _).setNew hT _ _).setNew hT _ _).setNew hT _ _
  box := setW_box hz k c s q u de x l p
  lo := hlo

theorem getD_mem {ws : List Wr} {p : Nat} (h : p < ws.length) : ws.getD p wz ∈ ws := by
  have e : ws.getD p wz = ws[p] := by simp [List.getD, h]
  rw [e]
  exact List.getElem_mem h

theorem RowG.isWs {w : World} {base n cg : Nat} {ag : Option Addr} {es : List EnG} (h : RowG w base (.slice ag n cg) es) (hf : Few (es.map (·.x))) : IsWs w ag (es.map (·.x)) := by
  obtain ⟨a', cp, h1, h2⟩ := h.form
  injection h1 with e1 e2 e3
  subst e1
  rcases h2 with h2 | ⟨b, hb, ho⟩
  · exact .inl (by simp [h2])
  · rw [hb]
    exact ho.isWs hf

theorem Mid.below {w W W' : World} {B : Nat} {a : Option Addr} {len cap : Nat} {M : Int} {v : Value} {es : List EnG} {T : Nat} {k c s q u : Int} {de : Bool} {x : Option Addr} {l p : Nat} (h : Mid w W B a len cap M v es T k c s q u de x l p) (hb : Below W.heap.size W W') : Mid w W' B a len cap M v es T k c s q u de x l p where
  row := h.row.below hb
  off := h.off
  offT := h.offT
  seq := h.seq.of_block hb.size (hb.block _ h.seq.1)
  cur := h.cur.below hb
  hole := h.hole.trans (Hole.of_below hb)
  box := ⟨Nat.lt_of_lt_of_le h.box.lt hb.size, held_cell hb h.box.c0 h.box.lt, held_cell hb h.box.c1 h.box.lt, held_cell hb h.box.c2 h.box.lt, held_cell hb h.box.c3 h.box.lt, held_cell hb h.box.c4 h.box.lt, held_cell hb h.box.c5 h.box.lt, held_cell hb h.box.c6 h.box.lt, fun o => (hb.frozen (p := ⟨T, o, none⟩) h.box.lt).trans (h.box.fz o)⟩
  lo := h.lo

theorem Mid.hole' {w W W' : World} {B : Nat} {a : Option Addr} {len cap : Nat} {M M' : Int} {v : Value} {es : List EnG} {T : Nat} {k c s q u : Int} {de : Bool} {x : Option Addr} {l p : Nat} (h : Mid w W B a len cap M v es T k c s q u de x l p) (hh : Hole B W W') (hB : B < w.heap.size) (hc : Cur W' B a len cap M') : Mid w W' B a len cap M' v es T k c s q u de x l p where
  row := h.row.hole hh hB
  off := h.off
  offT := h.offT
  seq := h.seq.hole hh (by omega)
  cur := hc
  hole := h.hole.trans hh
  box := h.box.hole hh (by have := h.lo; omega)
  lo := h.lo

theorem RowEs.hole {w w' : World} {B base g cap : Nat} {es : List En} (h : RowEs w base g cap es) (hh : Hole B w w') (hB : B < base) : RowEs w' base g cap es where
  le := h.le
  lt := Nat.lt_of_lt_of_le h.lt hh.size
  own := h.own.kept (row := some B) ⟨hh.os, hh.tape, hh.output, hh.size, fun k hk hn => hh.block k hk (fun e => hn (by rw [e]))⟩ (.inr (by have := h.le; simp [Value.ownBlock]; omega))
  deps := fun e he => ⟨(h.deps e he).1, Nat.lt_of_lt_of_le (h.deps e he).2.1 hh.size, (h.deps e he).2.2.1, (h.deps e he).2.2.2.hole hh (h.deps e he).2.1 (by have := (h.deps e he).1; omega)⟩

/-- What an operation may do where the cursor is at work: write the cursor's own block, and go on by one at most. -/
def CurR (B : Nat) (a : Option Addr) (len cap : Nat) (w w' : World) : Prop := Hole B w w' ∧ ∀ K, Cur w B a len cap K → Cur w' B a len cap (K + 1)

def CurS (w3 : World) (B : Nat) (a : Option Addr) (len cap : Nat) (M : Int) (f : Nat) (w' : World) : Prop := Hole B w3 w' ∧ Cur w' B a len cap (M - f)

def CurAny (w3 : World) (B : Nat) (a : Option Addr) (len cap : Nat) (M : Int) (w' : World) : Prop := Hole B w3 w' ∧ Cur w' B a len cap M

theorem curS_step {w3 : World} {B : Nat} {a : Option Addr} {len cap : Nat} {M : Int} (f : Nat) (w w' : World) (h : CurS w3 B a len cap M (f + 1) w) (hr : CurR B a len cap w w') : CurS w3 B a len cap M f w' :=
  ⟨h.1.trans hr.1, (hr.2 _ h.2).more (by push_cast; omega)⟩

theorem curS_any {w3 : World} {B : Nat} {a : Option Addr} {len cap : Nat} {M : Int} {f : Nat} {w : World} (h : CurS w3 B a len cap M f w) : CurAny w3 B a len cap M w :=
  ⟨h.1, h.2.more (by omega)⟩

theorem curS_start {w : World} {B : Nat} {a : Option Addr} {len cap : Nat} {M : Int} (n : Nat) (h : Cur w B a len cap (M - n)) : CurS w B a len cap M n w.drew :=
  ⟨(Hole.refl _ _).drew, cur_drew h⟩

theorem curR_refl (B : Nat) (a : Option Addr) (len cap : Nat) (w : World) : CurR B a len cap w w := ⟨Hole.refl _ _, fun _ h => h.more (by omega)⟩

theorem curR_alloc (B : Nat) (a : Option Addr) (len cap : Nat) (w : World) (o : Obj) : CurR B a len cap w (w.alloc o) := ⟨(Hole.refl _ _).alloc o, fun _ h => (cur_alloc h o).more (by omega)⟩

theorem pick_curR (B : Nat) (a : Option Addr) (len cap : Nat) (N n : Int) (w : World) (hN : N ≤ 1000000) (hn : 2 ≤ n) (hn' : n ≤ 100000) (h : Cur w B a len cap N) :
    Calls Try.prog 60 #[.pointer (some ⟨B, 0, none⟩), .int .i64 n] w fun e w' => ∃ r : Int, e = .returned (.int .i64 r) ∧ CurR B a len cap w w' ∧ 0 ≤ r ∧ r < n := by
  obtain ⟨at_, seed, hc, hN', hk, hl⟩ := h
  refine (pick_any B a len cap at_ n w (by omega) hn hn' ⟨at_, seed, hc, Int.le_refl _, hk, hl⟩).mono ?_
  rintro e w' ⟨r, he, h0, h1, h2, h3⟩
  refine ⟨r, he, ⟨h3, fun K hK => ?_⟩, h0, h1⟩
  obtain ⟨at2, seed2, hc2, hN2, _⟩ := hK
  have e1 := hc.c1.symm.trans hc2.c1
  simp only [Option.some.injEq, Value.int.injEq, true_and] at e1
  exact h2.more (by omega)

def WriteFact (s q : Int) : Fact := fun v _ => ∃ k u : Int, v = wrV k 1 s q u false none 0 0 ∧ 0 ≤ k ∧ k < 6 ∧ 0 ≤ u ∧ u < 20

theorem lasts_write (R : World → World → Prop) (s q : Int) : lasts R (WriteFact s q) := fun _ _ _ h _ => h

def RangeFact (n : Int) : Fact := fun v _ => ∃ r : Int, v = .int .i64 r ∧ 0 ≤ r ∧ r < n

theorem lasts_range (R : World → World → Prop) (n : Int) : lasts R (RangeFact n) := fun _ _ _ h _ => h

/-- A new box, all zero. -/
def NewBox (B lo : Nat) : Fact := fun v w => ∃ T, v = .pointer (some ⟨T, 0, none⟩) ∧ lo ≤ T ∧ T ≠ B ∧ ZeroBox w T

theorem lasts_box (B lo : Nat) (a : Option Addr) (len cap : Nat) : lasts (CurR B a len cap) (NewBox B lo) := fun _ _ _ h hr => by
  obtain ⟨T, hv, h1, h2, h3⟩ := h
  exact ⟨T, hv, h1, h2, zero_hole hr.1 h3 h2⟩

/-- The first four cells of a write in a row. -/
def SeenAt (W : World) (g o : Nat) (y : Wr) : Prop := W.cell? ⟨g, o * 7, none⟩ = some (.int .i64 y.k) ∧ W.cell? ⟨g, o * 7 + 1, none⟩ = some (.int .i64 y.c) ∧ W.cell? ⟨g, o * 7 + 2, none⟩ = some (.int .i64 y.s) ∧ W.cell? ⟨g, o * 7 + 3, none⟩ = some (.int .i64 y.q)

theorem seen_at {w : World} {base g cap : Nat} {es : List En} (h : RowEs w base g cap es) {o : Nat} (ho : o < es.length) : SeenAt w g o (es.getD o ez).x := by
  have c : ∀ c, c < 7 → w.cell? ⟨g, o * 7 + c, none⟩ = (wrVals (es.getD o ez))[c]? := fun c hc => by rw [h.own.cellAt _ (by omega), vals_at es o c ho hc]
  exact ⟨c 0 (by omega), c 1 (by omega), c 2 (by omega), c 3 (by omega)⟩

theorem SeenAt.hole {T : Nat} {W W' : World} {g o : Nat} {y : Wr} (h : SeenAt W g o y) (hh : Hole T W W') (h1 : g < W.heap.size) (h2 : g ≠ T) : SeenAt W' g o y :=
  ⟨(hh.cell h1 h2).trans h.1, (hh.cell h1 h2).trans h.2.1, (hh.cell h1 h2).trans h.2.2.1, (hh.cell h1 h2).trans h.2.2.2⟩

theorem WBox.of_block {w w' : World} {b : Nat} {k c s q v : Int} {de : Bool} {x : Option Addr} {len cap : Nat} (h : WBox w b k c s q v de x len cap) (hs : w.heap.size ≤ w'.heap.size) (hb : w'.heap[b]? = w.heap[b]?) : WBox w' b k c s q v de x len cap := by
  have e : ∀ o, w'.cell? ⟨b, o, none⟩ = w.cell? ⟨b, o, none⟩ := fun o => World.cell?_of_block (a := ⟨b, o, none⟩) hb
  exact ⟨Nat.lt_of_lt_of_le h.lt hs, (e 0).trans h.c0, (e 1).trans h.c1, (e 2).trans h.c2, (e 3).trans h.c3, (e 4).trans h.c4, (e 5).trans h.c5, (e 6).trans h.c6, fun o => (frozen_of_block hb).trans (h.fz o)⟩

theorem WBox.drew {w : World} {b : Nat} {k c s q v : Int} {de : Bool} {x : Option Addr} {len cap : Nat} (h : WBox w b k c s q v de x len cap) : WBox w.drew b k c s q v de x len cap := h.of_block (Nat.le_refl _) rfl

/-- What stands while a dependency is appended. -/
def StS (Wl : World) (T : Nat) (k c s q u : Int) (x : Option Addr) (o cpd : Nat) (lo : Nat) (w' : World) : Prop := Hole T Wl w' ∧ WBox w' T k c s q u false x o cpd ∧ lo ≤ w'.heap.size

/-- An append's reach is its own row; the others make new blocks at most. -/
def AppR (ob : Option Nat) : ReachU := fun d w w' => if d = some 75 then w.grownBy w' ob else Below w.heap.size w w'

theorem appR_below {ob : Option Nat} {d : Option Tmp} {w w' : World} (hd : d ≠ some 75) (h : AppR ob d w w') : Below w.heap.size w w' := by
  unfold AppR at h
  rw [if_neg hd] at h
  exact h

theorem stS_step {Wl : World} {T : Nat} {k c s q u : Int} {x : Option Addr} {o cpd lo : Nat} (hob : ∀ b, (Value.slice x o cpd).ownBlock = some b → Wl.heap.size ≤ b ∧ b < lo) (hT : T < Wl.heap.size) {d : Option Tmp} {w w' : World} (h : StS Wl T k c s q u x o cpd lo w) (hr : AppR (Value.slice x o cpd).ownBlock d w w') : StS Wl T k c s q u x o cpd lo w' := by
  obtain ⟨h1, h2, h3⟩ := h
  by_cases hd : d = some 75
  · unfold AppR at hr
    rw [if_pos hd] at hr
    have hb : ∀ b, b < Wl.heap.size → w'.heap[b]? = w.heap[b]? := fun b hlt => hr.block b (Nat.lt_of_lt_of_le hlt h1.size) fun e => by
      have := (hob b e.symm).1
      omega
    exact ⟨⟨hr.os.trans h1.os, hr.tape.trans h1.tape, hr.output.trans h1.output, Nat.le_trans h1.size hr.size, fun k hk hn => (hb k hk).trans (h1.block k hk hn)⟩, h2.of_block hr.size (hb T hT), Nat.le_trans h3 hr.size⟩
  · have hb := appR_below hd hr
    exact ⟨h1.trans (Hole.of_below hb), h2.of_block hb.size (hb.block T h2.lt), Nat.le_trans h3 hb.size⟩

theorem appR_refl {ob : Option Nat} {d : Option Tmp} (hd : d ≠ some 75) (w : World) : AppR ob d w w := by
  unfold AppR
  rw [if_neg hd]
  exact Below.refl _ _

theorem appR_alloc {ob : Option Nat} {d : Option Tmp} (hd : d ≠ some 75) (w : World) (o : Obj) : AppR ob d w (w.alloc o) := by
  unfold AppR
  rw [if_neg hd]
  exact (Below.refl _ _).alloc (Nat.le_refl _) _

theorem appR_grown {ob : Option Nat} {w w' : World} (h : w.grownBy w' ob) : AppR ob (some 75) w w' := by
  unfold AppR
  rw [if_pos rfl]
  exact h

/-- One dependency, in a new block. -/
def DepNew (ob : Option Nat) (d : Dp) : Fact := fun v w => ∃ g', v = .slice (some ⟨g', 0, none⟩) 1 1 ∧ g' < w.heap.size ∧ ob ≠ some g' ∧ ∀ j u, (dpVals d)[j]? = some u → w.cell? ((⟨g', 0, none⟩ : Addr).add j) = some u

theorem lasts_depNew (U : Tmp → Option Tmp) (dst : Option Tmp) (ob : Option Nat) (d : Dp) : lastsU U (AppR ob) dst (DepNew ob d) := by
  rintro d' _ _ v w w' ⟨g', h1, h2, h3, h4⟩ hr
  have hb : w'.heap[g']? = w.heap[g']? ∧ w.heap.size ≤ w'.heap.size := by
    by_cases hd : d' = some 75
    · unfold AppR at hr
      rw [if_pos hd] at hr
      exact ⟨hr.block g' h2 (fun e => h3 e.symm), hr.size⟩
    · have := appR_below hd hr
      exact ⟨this.block g' h2, this.size⟩
  refine ⟨g', h1, Nat.lt_of_lt_of_le h2 hb.2, h3, fun j u hu => ?_⟩
  have := h4 j u hu
  rw [add_block] at this ⊢
  exact (World.cell?_of_block (a := ⟨g', j, none⟩) hb.1).trans this

def DepRow (G o : Nat) (ds : List Dp) : Fact := fun v w => ∃ g3 cp3, v = .slice (some ⟨g3, 0, none⟩) (o + 1) cp3 ∧ RowD w G (.slice (some ⟨g3, 0, none⟩) (o + 1) cp3) ds

theorem lasts_depRow (U : Tmp → Option Tmp) (ob : Option Nat) (G o : Nat) (ds : List Dp) : lastsU U (AppR ob) (some 75) (DepRow G o ds) := by
  rintro d' hd _ v w w' ⟨g3, cp3, h1, h2⟩ hr
  exact ⟨g3, cp3, h1, h2.below (appR_below hd hr)⟩

theorem Cur.stay {w w' : World} {B : Nat} {a : Option Addr} {len cap : Nat} {N : Int} (h : Cur w B a len cap N) (hs : w.heap.size ≤ w'.heap.size) (hb : ∀ k, k ≤ B → w'.heap[k]? = w.heap[k]?) : Cur w' B a len cap N := by
  obtain ⟨at_, seed, hc, hN, hk, hl⟩ := h
  have e : ∀ k, k ≤ B → ∀ o, w'.cell? ⟨k, o, none⟩ = w.cell? ⟨k, o, none⟩ := fun k hkB o => World.cell?_of_block (a := ⟨k, o, none⟩) (hb k hkB)
  refine ⟨at_, seed, ⟨Nat.lt_of_lt_of_le hc.lt hs, (e B (Nat.le_refl _) 0).trans hc.c0, (e B (Nat.le_refl _) 1).trans hc.c1, (e B (Nat.le_refl _) 2).trans hc.c2, fun o => (frozen_of_block (hb B (Nat.le_refl _))).trans (hc.fz o), hc.p0, hc.s0, hc.s1⟩, hN, ?_, hl⟩
  rcases hk with hk | ⟨b, o, ha, hlt, hz⟩
  · exact .inl hk
  · refine .inr ⟨b, o, ha, hlt, fun i hi => ?_⟩
    obtain ⟨z, z0, z1, z2⟩ := hz i hi
    exact ⟨z, z0, z1, (e b (Nat.le_of_lt hlt) _).trans z2⟩

theorem Mid.holeT {w W W' : World} {B : Nat} {a : Option Addr} {len cap : Nat} {M : Int} {v : Value} {es : List EnG} {T : Nat} {k c s q u k' c' s' q' u' : Int} {de de' : Bool} {x x' : Option Addr} {l p l' p' : Nat} (h : Mid w W B a len cap M v es T k c s q u de x l p) (hh : Hole T W W') (hx : WBox W' T k' c' s' q' u' de' x' l' p') (hB : B < w.heap.size) : Mid w W' B a len cap M v es T k' c' s' q' u' de' x' l' p' where
  row := h.row.stay hh.size fun b _ hlt hu => hh.block b hlt fun e => by
    rcases hu with hu | ⟨d, hd, hp, he⟩
    · exact h.offT.1 (by rw [hu, e])
    · exact h.offT.2 d hd hp (by rw [he, e])
  off := h.off
  offT := h.offT
  seq := h.seq.of_block hh.size (hh.block _ h.seq.1 (by have := h.lo; omega))
  cur := h.cur.stay hh.size fun k hk => hh.block k (Nat.lt_of_le_of_lt hk h.cur.lt) (by have := h.lo; omega)
  hole := ⟨hh.os.trans h.hole.os, hh.tape.trans h.hole.tape, hh.output.trans h.hole.output, Nat.le_trans h.hole.size hh.size, fun k hk hn => (hh.block k (Nat.lt_of_lt_of_le hk h.hole.size) (by have := h.lo; omega)).trans (h.hole.block k hk hn)⟩
  box := hx
  lo := h.lo

theorem RowD.hole {w w' : World} {B base : Nat} {v : Value} {ds : List Dp} (h : RowD w base v ds) (hh : Hole B w w') (hB : B < base) : RowD w' base v ds :=
  World.ownsRow.kept (row := some B) h ⟨hh.os, hh.tape, hh.output, hh.size, fun k hk hn => hh.block k hk (fun e => hn (by rw [e]))⟩ (by
    by_cases e : v.ownBlock = none
    · exact .inl e
    · refine .inr fun e2 => ?_
      have := (World.ownsRow.lt h B e2).1
      omega)

def blockOf (x : Option Addr) : Nat := match x with
  | some a => a.block
  | none => 0

/-- The write is told. -/
theorem Mid.ends {w W W5 : World} {B G : Nat} {a : Option Addr} {len cap : Nat} {M N : Int} {ag : Option Addr} {n cg : Nat} {es : List EnG} {T : Nat} {k c s q u : Int} {de : Bool} {x : Option Addr} {ds : List Dp} {p : Nat} {g5 cap5 : Nat} (h : Mid w W B a len cap M (.slice ag n cg) es T k c s q u de x ds.length p) (hn : es.length = n) (hr : RowD W G (.slice x ds.length p) ds) (hG : ∀ gD, G ≤ gD → Off (.slice ag n cg) es gD) (hwG : w.heap.size + 1 < G) (hB : B < w.heap.size)
    (hf : ∀ d ∈ es, d.x.xs.length ≤ 10) (hcl : ∀ d ∈ es, 0 ≤ d.x.c ∧ d.x.c ≤ es.length) (hds : ds.length ≤ 10) (hc0 : 0 ≤ c) (hc1 : c ≤ (n : Int) + 1) (hM : M ≤ N + 25 * ((n + 1 : Nat) : Int) + 1)
    (hown : W5.ownsRow w.heap.size 41 7 (.slice (some ⟨g5, 0, none⟩) (n + 1) cap5) (n + 1) (es.flatMap wrValsG ++ wrValsG ⟨⟨k, c, s, q, u, de, ds⟩, x, blockOf x, p⟩)) (hgrow : W.grownBy W5 (Value.slice ag n cg).ownBlock) (hg : (Value.slice ag n cg).ownBlock = some g5 ∨ g5 = W.heap.size) : Tale w W5 B a len cap N (.slice (some ⟨g5, 0, none⟩) (n + 1) cap5) (es ++ [⟨⟨k, c, s, q, u, de, ds⟩, x, blockOf x, p⟩]) := by
  subst hn
  have hfr : ∀ hp : 0 < ds.length, ∃ g, x = some ⟨g, 0, none⟩ ∧ G ≤ g ∧ g < W.heap.size ∧ HoldsDeps W g 0 ds ∧ ∀ o, W.frozen? ⟨g, o, none⟩ = false := fun hp => by
    obtain ⟨a', cp', h1, h2⟩ := hr.form
    injection h1 with e1 e2 e3
    subst e1
    rcases h2 with h2 | ⟨g, h3, h4, _, h5, h6, h7⟩
    · rw [h2] at hp
      simp at hp
    · exact ⟨g, h3, h4, h5, h6, h7⟩
  have hob : ∀ b, (Value.slice ag es.length cg).ownBlock = some b → w.heap.size ≤ b := fun b hb => (World.ownsRow.lt h.row.own b hb).1
  have hWT := h.box.lt
  have hlo := h.lo
  exact {
    row := h.row.more (e := ⟨⟨k, c, s, q, u, de, ds⟩, x, blockOf x, p⟩) (fun hp => by
        obtain ⟨g, rfl, h1, h2, h3, h4⟩ := hfr hp
        exact ⟨rfl, by show w.heap.size ≤ g; omega, h2, h3, h4⟩) (fun hp => by
        obtain ⟨g, rfl, h1, _⟩ := hfr hp
        exact (hG g h1).1) (fun d hd hp hq => by
        obtain ⟨g, rfl, h1, _⟩ := hfr hq
        exact (hG g h1).2 d hd hp) hown hgrow hg
    off := by
      refine ⟨fun e => ?_, fun d hd hp => ?_⟩
      · simp only [Value.ownBlock, Option.some.injEq] at e
        rcases hg with hg | hg
        · exact h.off.1 (by rw [hg, e])
        · omega
      · rcases List.mem_append.1 hd with hd | hd
        · exact h.off.2 d hd hp
        · have hd : d = ⟨⟨k, c, s, q, u, de, ds⟩, x, blockOf x, p⟩ := by simpa using hd
          subst hd
          obtain ⟨g, rfl, h1, _⟩ := hfr hp
          show g ≠ w.heap.size + 1
          omega
    seq := by
      rw [List.length_append]
      have := h.seq.of_block hgrow.size (hgrow.block _ h.seq.1 (fun e => h.off.1 e.symm))
      simpa using this
    few := fun d hd => by
      rcases List.mem_append.1 hd with hd | hd
      · exact hf d hd
      · have hd : d = ⟨⟨k, c, s, q, u, de, ds⟩, x, blockOf x, p⟩ := by simpa using hd
        subst hd
        exact hds
    clock := fun d hd => by
      rw [List.length_append]
      rcases List.mem_append.1 hd with hd | hd
      · have := hcl d hd
        simp
        omega
      · have hd : d = ⟨⟨k, c, s, q, u, de, ds⟩, x, blockOf x, p⟩ := by simpa using hd
        subst hd
        simp
        omega
    cur := by
      refine (h.cur.stay hgrow.size fun b hb => hgrow.block b (Nat.lt_of_le_of_lt hb h.cur.lt) fun e => ?_).more (by rw [List.length_append]; simpa using hM)
      have := hob b e.symm
      omega
    hole := ⟨hgrow.os.trans h.hole.os, hgrow.tape.trans h.hole.tape, hgrow.output.trans h.hole.output, Nat.le_trans h.hole.size hgrow.size, fun b hb hne => (hgrow.block b (Nat.lt_of_lt_of_le hb h.hole.size) fun e => by
      have := hob b e.symm
      omega).trans (h.hole.block b hb hne)⟩ }

set_option maxRecDepth 100000 in
set_option maxHeartbeats 16000000 in
theorem story_any (B : Nat) (a : Option Addr) (len cap : Nat) (N : Int) (w : World) (hN : N ≤ 2000) (h : Cur w B a len cap N) :
    Calls Try.prog 59 #[.pointer (some ⟨B, 0, none⟩)] w fun e w' => ∃ v es, e = .returned v ∧ es.length ≤ 10 ∧ 0 < es.length ∧ (∀ d ∈ es, d.x.xs.length ≤ 10) ∧ RowG w' w.heap.size v es ∧ Cur w' B a len cap (N + 300) ∧ Hole B w w' := by
  have HC : Hid (Cur w B a len cap N) := h
  have hB := h.lt
  clear h
  obtain ⟨i0, hi0, hx0⟩ := Option.map_eq_some_iff.1 infoDep
  simp only [Prod.mk.injEq] at hx0
  have HI0 := Lib.hid hi0
  have HX0 := Lib.hid hx0
  clear hi0 hx0
  obtain ⟨i1', hi1, hx1⟩ := Option.map_eq_some_iff.1 infoWr
  simp only [Prod.mk.injEq] at hx1
  have HI1 := Lib.hid hi1
  have HX1 := Lib.hid hx1
  clear hi1 hx1
  have hmk := run_make_four
  have HA : Hid (Below w.heap.size w ((w.alloc (.cells #[] 41)).alloc (.cells (madeCells #[.int .i64 0] 4) 3))) := ((Below.refl _ _).alloc (Nat.le_refl _) _).alloc (by simp) _
  have HS : Hid (SeqAt ((w.alloc (.cells #[] 41)).alloc (.cells (madeCells #[.int .i64 0] 4) 3)) (w.heap.size + 1) 0) := Lib.hid (by simpa using seq_start (w.alloc (.cells #[] 41)))
  have HR : Hid (RowG ((w.alloc (.cells #[] 41)).alloc (.cells (madeCells #[.int .i64 0] 4) 3)) w.heap.size (.slice (some ⟨w.heap.size, 0, none⟩) 0 0) []) := by
    have h1 : RowG (w.alloc (.cells #[] 41)) w.heap.size (.slice (some ⟨w.heap.size, 0, none⟩) 0 0) [] := ⟨World.ownsRow_made w #[] 0 (Nat.le_refl _) (by simp [maxLen]) (by simp), fun e he => by simp at he, List.Pairwise.nil⟩
    exact h1.below ((Below.refl _ _).alloc (Nat.le_refl _) _)
  go_enter Try.func59, Try.ntmps59
  go_wp2_with fail
  refine (size_any B a len cap N 9 _ (by omega) (by omega) (by omega) (HC.out.below HA.out)).mono ?_
  rintro e w1 ⟨r, rfl, r0, r1, hc1, hh1⟩
  have HT : Hid (Tale w w1 B a len cap N (.slice (some ⟨w.heap.size, 0, none⟩) 0 0) []) :=
    ⟨HR.out.hole hh1 hB, ⟨by simp [Value.ownBlock], fun e he => by simp at he⟩, by simpa using HS.out.hole hh1 (by omega), fun d hd => by simp at hd, fun d hd => by simp at hd, hc1.more (by simp), (Hole.of_below HA.out).trans hh1⟩
  clear hc1 hh1 HA HS HR HC hmk
  obtain ⟨k0, rfl⟩ := Int.eq_ofNat_of_zero_le r0
  go_wp2
  go_loopw [3, 5] (fun t i wr => ∃ (j : Nat) (v : Value) (es : List EnG), j + es.length = k0 + 1 ∧ i = .int .i64 j ∧ v = t ∧ Hid (Tale w wr B a len cap N v es)) (fun _ i _ => (intOf i).toNat)
  case atStart => exact ⟨k0 + 1, _, [], by simp, by go_num, rfl, HT⟩
  case round =>
    clear HT
    obtain ⟨j, v, es, hj, rfl, rfl, HT⟩ := hrel
    by_cases hj' : 0 < j
    · have i1 : (0 : Int) < (j : Int) := by omega
      have hes : es.length ≤ 9 := by omega
      obtain ⟨ag, cg, hv, -⟩ := HT.out.row.form
      subst hv
      go_wp2_with fail
      refine (pick_any B a len cap _ 4 _ (by omega) (by omega) (by omega) HT.out.cur).mono ?_
      rintro e w2 ⟨s, rfl, s0, s1, hc2, hh2⟩
      have HS2 := Lib.hid (HT.out.seq.hole hh2 (by omega))
      have HR2 := Lib.hid (HT.out.row.hole hh2 hB)
      have HC2 := Lib.hid hc2
      have HH2 := Lib.hid (HT.out.hole.trans hh2)
      have HOF := Lib.hid HT.out.off
      have HFW := Lib.hid HT.out.few
      have HCK := Lib.hid HT.out.clock
      clear hc2 hh2 HT
      obtain ⟨s', rfl⟩ := Int.eq_ofNat_of_zero_le s0
      have hs4 : s' < 4 := by omega
      obtain ⟨z, hz, z0, z1⟩ := HS2.out.2.1 s' hs4
      have fz := HS2.out.2.2
      have i2 : (0 : Int) ≤ (s' : Int) := by omega
      have i3 : (s' : Int) < 4 := by omega
      go_upto_region 8 with fail
      have HS3 : Hid (SeqAt (w2.setCell ⟨w.heap.size + 1, s', none⟩ (.int .i64 (z + 1))) (w.heap.size + 1) (es.length + 1)) := HS2.out.set (by omega) (by omega)
      have hq3 : (w2.setCell ⟨w.heap.size + 1, s', none⟩ (.int .i64 (z + 1))).cell? ⟨w.heap.size + 1, s', none⟩ = some (.int .i64 (z + 1)) := cell_set_same hz
      have HR3 := Lib.hid (HR2.out.set HOF.out s' (.int .i64 (z + 1)))
      have HC3 := Lib.hid (HC2.out.setOther (show B < w.heap.size + 1 by omega) s' (.int .i64 (z + 1)))
      have HH3 := Lib.hid (HH2.out.setNew (show w.heap.size ≤ w.heap.size + 1 by omega) s' (.int .i64 (z + 1)))
      clear HS2 HR2 HC2 HH2 hz fz
      generalize w2.setCell ⟨w.heap.size + 1, s', none⟩ (.int .i64 (z + 1)) = w3 at *
      have hz3 : w.heap.size + 1 < w3.heap.size := HS3.out.1
      have hM : N + 25 * es.length + 1 + 1 ≤ 3000 := by omega
      have HC4 : Hid (Cur w3 B a len cap (N + 25 * es.length + 15 - (13 : Nat))) := HC3.out.more (by omega)
      refine wp_region_slots_n 12 [[(0, false)], [(28, true)], [(6, false)], [(4, false)], [(6, false)], [(31, true), (32, true)], [(33, true)], [(30, true), (34, true)], [(0, false)], [(36, true)], [(29, true), (35, true), (37, true)], []] (CurAny w3 B a len cap (N + 25 * es.length + 15)) (CurAny w3 B a len cap (N + 25 * es.length + 15)) (CurS w3 B a len cap (N + 25 * es.length + 15)) (CurR B a len cap) (by kernel_rfl) (by kernel_rfl) (by rfl) (curS_start _ HC4.out) curS_step (fun _ _ _ h => curS_any h) (fun _ _ _ h => curS_any h) ?_
      apply slot_eq
      · intro ρ w' ⟨p1, p2, p3⟩ ⟨hH, hC⟩ hn
        simp at hn
        go_simp
        exact ⟨curR_refl _ _ _ _ _, rfl⟩
      refine slot_fact (RangeFact 6) (lasts_range _ _) ?_ ?_
      · intro ρ w' ⟨p1, p2, p3⟩ ⟨hH, hC⟩ hn
        simp at hn
        go_simp
        exact got_call (pick_curR B a len cap _ 6 _ (by omega) (by omega) (by omega) hC) fun e w'' ⟨r, he, hr, h0, h1⟩ => ⟨_, he, hr, r, rfl, h0, h1⟩
      iterate 4 (apply slot_eq; · (intro ρ w' ⟨p1, p2, p3⟩ ⟨hH, hC⟩ hn; simp at hn; go_simp; exact ⟨curR_refl _ _ _ _ _, rfl⟩))
      apply slot_eq
      · intro ρ w' ⟨p1, p2, p3⟩ ⟨hH, hC⟩ hn
        have hq4 := (hH.cell (o := s') hz3 (by omega)).trans hq3
        simp at hn
        go_simp
        exact ⟨curR_refl _ _ _ _ _, rfl⟩
      iterate 2 (apply slot_eq; · (intro ρ w' ⟨p1, p2, p3⟩ ⟨hH, hC⟩ hn; simp at hn; go_simp; exact ⟨curR_refl _ _ _ _ _, rfl⟩))
      refine slot_fact (RangeFact 20) (lasts_range _ _) ?_ ?_
      · intro ρ w' ⟨p1, p2, p3⟩ ⟨hH, hC⟩ hn
        simp at hn
        go_simp
        exact got_call (pick_curR B a len cap _ 20 _ (by omega) (by omega) (by omega) hC) fun e w'' ⟨r, he, hr, h0, h1⟩ => ⟨_, he, hr, r, rfl, h0, h1⟩
      refine slot_fact (WriteFact s' (z + 1)) (lasts_write _ _ _) ?_ ?_
      · intro ρ w' ⟨p1, p2, p3⟩ ⟨hH, hC⟩ hn
        simp at hn
        obtain ⟨⟨r1, f1, r10, r11⟩, f2, ⟨r2, f3, r20, r21⟩⟩ := hn
        go_simp
        exact ⟨curR_refl _ _ _ _ _, r1, r2, rfl, r10, r11, r20, r21⟩
      refine slot_fact (NewBox B w3.heap.size) (lasts_box _ _ _ _ _) ?_ ?_
      · intro ρ w' ⟨p1, p2, p3⟩ ⟨hH, hC⟩ hn
        go_simp
        exact ⟨curR_alloc _ _ _ _ _ _, _, rfl, hH.size, by have := hH.size; omega, zero_alloc _ _⟩
      refine slot_end ?_
      rintro vs w4 ⟨hH, hC⟩ hF
      simp at hF
      obtain ⟨⟨T, f7, hT1, hT2, hT3⟩, ⟨kk, uu, f38, k0', k1', u0', u1'⟩, ⟨r2, f37, -, -⟩, f36, f35, f34, f33, f32, f31, f30, ⟨r1, f29, -, -⟩, f28⟩ := hF
      have HMID : Hid (Mid w (setW w4 T kk 1 s' (z + 1) uu false none 0 0) B a len cap (N + 25 * es.length + 15) (.slice ag es.length cg) es T kk 1 s' (z + 1) uu false none 0 0) :=
        Mid.start (HR3.out.hole hH hB) HOF.out (HR3.out.offNew hT1) (HS3.out.hole hH (by omega)) hC (HH3.out.trans hH) hT3 (by omega) hB _ _ _ _ _ _ _ _ _
      have HZ := Lib.hid hT3
      have hlo : w.heap.size + 1 < T := by omega
      clear hH hC hT3 HR3 HC3 HC4 HH3 HS3 hq3
      simp only [List.take_succ_cons, List.take_zero, List.drop_succ_cons, List.drop_zero, putAll, f7, f38, f37, f36, f35, f34, f33, f32, f31, f30, f29, f28]
      clear f7 f38 f37 f36 f35 f34 f33 f32 f31 f30 f29 f28
      simp only [Act.put, List.setIfInBounds_toArray, List.set_cons_succ, List.set_cons_zero]
      obtain ⟨x0, x1, x2, x3, x4, x5, x6, xf, xl⟩ := HZ.out
      go_upto_region 9 with fail
      change Code.wp _ _ _ _ (setW w4 T kk 1 s' (z + 1) uu false none 0 0)
      clear x0 x1 x2 x3 x4 x5 x6 xf xl HZ
      generalize setW w4 T kk 1 s' (z + 1) uu false none 0 0 = W0 at HMID ⊢
      have hT0 : T < W0.heap.size := HMID.out.box.lt
      have HB1 : Hid (Below W0.heap.size W0 (W0.alloc (.cells #[] 41))) := (Below.refl _ _).alloc (Nat.le_refl _) _
      have HR1 : Hid (RowEs (W0.alloc (.cells #[] 41)) (T + 1) W0.heap.size 0 []) := rowEs_start W0 _ (by omega)
      have HM1 := Lib.hid (HMID.out.below HB1.out)
      obtain ⟨nn, hnn⟩ : ∃ nn, es.length = nn := ⟨_, rfl⟩
      rw [hnn] at hes hj hM HMID HM1 ⊢
      clear HMID HB1
      have HFX : Hid (Few (es.map (·.x))) := few_iff.2 fun y hy => by
        obtain ⟨d, hd, rfl⟩ := List.mem_map.1 hy
        have := HFW.out d hd
        omega
      go_wp2
      go_loopw [8, 9] (fun t i wr => ∃ (p L g cp : Nat) (es2 : List En), p ≤ nn ∧ L ≤ p ∧ i = .int .i64 p ∧ t = .slice (some ⟨g, 0, none⟩) L cp ∧ Hid (es2.length = L) ∧ Hid (∀ y ∈ es2, y.x ∈ es.map (·.x)) ∧ Hid (RowEs wr (T + 1) g cp es2) ∧ Hid (Mid w wr B a len cap (N + 25 * nn + 15 + p) (.slice ag nn cg) es T kk 1 s' (z + 1) uu false none 0 0)) (fun _ i _ => nn - (intOf i).toNat)
      case atStart => exact ⟨0, 0, W0.heap.size, 0, [], Nat.zero_le _, Nat.le_refl _, rfl, rfl, rfl, fun y hy => by simp at hy, HR1, by simpa using HM1⟩
      case round =>
        clear HR1 HM1
        obtain ⟨p, L, g, cp, es2, hp, hL, rfl, rfl, HL, HE, HR, HM⟩ := hrel
        by_cases hp' : p < nn
        · have i4 : (0 : Int) ≤ (p : Int) := by omega
          have i5 : (p : Int) < (nn : Int) := by omega
          go_wp2_with fail
          refine (pick_any B a len cap _ 3 _ (by omega) (by omega) (by omega) HM.out.cur).mono ?_
          rintro e w5 ⟨r5, rfl, r50, r51, hc5, hh5⟩
          have HM5 : Hid (Mid w w5 B a len cap (N + 25 * nn + 15 + ((p + 1 : Nat) : Int)) (.slice ag nn cg) es T kk 1 s' (z + 1) uu false none 0 0) := HM.out.hole' hh5 hB (hc5.more (by push_cast; omega))
          have HR5 := Lib.hid (HR.out.hole hh5 (by omega))
          clear hc5 hh5 HM HR
          by_cases hr5 : r5 = 0
          · subst hr5
            obtain ⟨bb, oo, ad, cq, rfl, hz, ⟨e0, e1, e2, e3, e4, e5, e6⟩, hd⟩ := (HM5.out.row.isWs HFX.out).at (Below.refl _ _) (n := nn) (by rw [List.length_map, hnn]) hp'
            have hxl : ((es.map (·.x)).getD p wz).xs.length ≤ 1048576 := HFX.out p (by rw [List.length_map, hnn]; exact hp')
            have HX5 : Hid ((es.map (·.x)).getD p wz ∈ es.map (·.x)) := getD_mem (by rw [List.length_map, hnn]; exact hp')
            have HD := Lib.hid hd
            have HF2 : Hid (Few (es2.map (·.x))) := few_iff.2 fun y hy => by
              obtain ⟨d, hd, rfl⟩ := List.mem_map.1 hy
              exact few_iff.1 HFX.out _ (HE.out d hd)
            have HLL : Hid ((es2.map (·.x)).length = L) := by
              rw [List.length_map]
              exact HL
            have HW2 := Lib.hid ((HR5.out.holds (ws := es2.map (·.x)) rfl).isWs HF2.out)
            clear hd
            generalize (es.map (·.x)).getD p wz = x at *
            obtain ⟨xk, xc, xs', xq, xv, xd, xx⟩ := x
            simp only at e0 e1 e2 e3 e4 e5 e6 hxl HD
            go_wp2_with fail
            refine (put_gen _ L cp (es2.map (·.x)) ⟨xk, xc, xs', xq, xv, xd, xx⟩ ad cq _ HLL.out (by omega) HF2.out HW2.out hxl HD.out).mono ?_
            rintro e w6 ⟨g2, cp2, es3, L2, rfl, hl2, he2, hr2, hb2⟩
            have hL2 : L2 ≤ L + 1 := by
              have h1 := put_len (es2.map (·.x)) ⟨xk, xc, xs', xq, xv, xd, xx⟩
              rw [← he2, HLL.out, List.length_map, hl2] at h1
              exact h1
            have HL2 := Lib.hid hl2
            have HE2 : Hid (∀ y ∈ es3, y.x ∈ es.map (·.x)) := fun y hy => by
              have h1 : y.x ∈ putW (es2.map (·.x)) ⟨xk, xc, xs', xq, xv, xd, xx⟩ := by
                rw [← he2]
                exact List.mem_map.2 ⟨y, hy, rfl⟩
              rcases put_mem _ _ _ h1 with h2 | h2
              · rw [h2]
                exact HX5.out
              · obtain ⟨d, hd, h3⟩ := List.mem_map.1 h2
                rw [← h3]
                exact HE.out d hd
            have HR6 := Lib.hid (hr2.mono (base' := T + 1) (by have := HM5.out.box.lt; omega))
            have HM6 := Lib.hid (HM5.out.below hb2)
            clear hl2 he2 hr2 hb2 HM5 HR5 HE HL
            go_wp2
            exact ⟨⟨p + 1, L2, g2, cp2, es3, by omega, by omega, by go_num, rfl, HL2, HE2, HR6, HM6⟩, by simp [intOf]; omega⟩
          · go_wp2
            exact ⟨⟨p + 1, L, g, cp, es2, by omega, by omega, by go_num, rfl, HL, HE, HR5, HM5⟩, by simp [intOf]; omega⟩
        · have hpp : p = nn := by omega
          subst hpp
          obtain ⟨Wl, rfl⟩ : ∃ Wl : World, Wl = wr := ⟨_, rfl⟩
          have HCL : Hid (∀ y ∈ es2, 0 ≤ y.x.c ∧ y.x.c ≤ (p : Int)) := fun y hy => by
            obtain ⟨d, hd, h1⟩ := List.mem_map.1 (HE.out y hy)
            have := HCK.out d hd
            rw [← h1, ← hnn]
            exact this
          go_wp2
          go_loopw [10] (fun i wr => ∃ (o : Nat) (c : Int) (x : Option Addr) (cpd : Nat) (ds : List Dp), o ≤ L ∧ i = .int .i64 o ∧ 1 ≤ c ∧ c ≤ (p : Int) + 1 ∧ Hid (ds.length = o) ∧ Hid (Hole T Wl wr) ∧ Hid (WBox wr T kk c s' (z + 1) uu false x o cpd) ∧ Hid (RowD wr Wl.heap.size (.slice x o cpd) ds)) (fun i _ => L - (intOf i).toNat)
          case atStart => exact ⟨0, 1, none, 0, [], Nat.zero_le _, rfl, by omega, by omega, rfl, Hole.refl _ _, HM.out.box, World.ownsRow_nil _ _ _ _⟩
          case round =>
            obtain ⟨o, c, x, cpd, ds, ho, rfl, hc0, hc1, HDL, HH, HX, HRD⟩ := hrel
            by_cases ho' : o < L
            · have i6 : (0 : Int) ≤ (o : Int) := by omega
              have i7 : (o : Int) < (L : Int) := by omega
              have HSE : Hid (SeenAt Wl g o (es2.getD o ez).x) := seen_at HR.out (by rw [HL.out]; exact ho')
              have hg1 : g < Wl.heap.size := HR.out.lt
              have hg2 : g ≠ T := by have := HR.out.le; omega
              have hyc : 0 ≤ (es2.getD o ez).x.c ∧ (es2.getD o ez).x.c ≤ (p : Int) := HCL.out _ (by
                have hol : o < es2.length := by rw [HL.out]; exact ho'
                have e : es2.getD o ez = es2[o] := by simp [List.getD, hol]
                rw [e]
                exact List.getElem_mem hol)
              generalize (es2.getD o ez).x = y at *
              obtain ⟨yk, yc, ys, yq, yv, yd, yx⟩ := y
              simp only at hyc
              have HOB : Hid (∀ b, (Value.slice x o cpd).ownBlock = some b → Wl.heap.size ≤ b ∧ b < wr.heap.size) := fun b hb => World.ownsRow.lt HRD.out b hb
              have hTl : T < Wl.heap.size := HM.out.box.lt
              go_upto_region 18 with fail
              refine wp_region_slots_u 16 [[(7, false)], [(61, true)], [(8, false)], [(10, false)], [(63, true), (64, true)], [(65, true)], [(66, true)], [(8, false)], [(10, false)], [(68, true), (69, true)], [(70, true)], [(71, true)], [(67, true), (72, true)], [(73, true)], [(62, true), (74, true)], [(7, false)]] (StS Wl T kk c s' (z + 1) uu x o cpd wr.heap.size) (StS Wl T kk c s' (z + 1) uu x o cpd wr.heap.size) (fun _ => StS Wl T kk c s' (z + 1) uu x o cpd wr.heap.size) (fun d w' => d = some 75 → RowD w' Wl.heap.size (.slice x o cpd) ds) (fun _ => none) (AppR (Value.slice x o cpd).ownBlock) (by kernel_rfl) (by kernel_rfl) (by rfl) ⟨HH.out.drew, HX.out.drew, Nat.le_refl _⟩ (by kernel_rfl) (fun _ _ => HRD.out.below (Below.refl _ _).drew) (fun _ h => by cases h) (fun d d' hd w w' h1 h2 h3 => (h1 h3).below (appR_below (h3 ▸ hd) h2)) (fun _ _ _ _ _ _ h => by cases h) (fun d _ w w' h1 h2 => stS_step HOB.out hTl h1 h2) (fun _ _ _ h => h) (fun _ _ _ h => h) ?_
              have HRF : Hid (∀ (d : Option Tmp) (w : World), d ≠ some 75 → AppR (Value.slice x o cpd).ownBlock d w w) := fun d w hd => appR_refl hd w
              iterate 1 (apply slotU_eq; · (intro ρ w' ⟨p1, p2, p3⟩ ⟨hH, hX, hlo'⟩ hEE hn; simp at hn; go_simp; exact ⟨HRF.out _ _ (by simp), rfl⟩))
              apply slotU_eq
              · intro ρ w' ⟨p1, p2, p3⟩ ⟨hH, hX, hlo'⟩ hEE hn
                have y6 := hX.c6
                simp at hn
                go_simp
                exact ⟨HRF.out _ _ (by simp), rfl⟩
              iterate 11 (apply slotU_eq; · (intro ρ w' ⟨p1, p2, p3⟩ ⟨hH, hX, hlo'⟩ hEE hn; obtain ⟨s0, s1, s2, s3⟩ := HSE.out.hole hH hg1 hg2; simp only at s0 s1 s2 s3; simp at hn; go_simp; exact ⟨HRF.out _ _ (by simp), rfl⟩))
              refine slotU_fact (DepNew (Value.slice x o cpd).ownBlock ⟨yk, yc, ys, yq⟩) (lasts_depNew _ _ _ _) ?_ ?_
              · intro ρ w' ⟨p1, p2, p3⟩ ⟨hH, hX, hlo'⟩ hEE hn
                simp at hn
                go_simp
                exact ⟨appR_alloc (by simp) _ _, _, rfl, by simp, fun e => by have := (HOB.out _ e).2; omega, oneD_cells _ _ ⟨yk, yc, ys, yq⟩⟩
              refine slotU_fact (DepRow Wl.heap.size o (ds ++ [⟨yk, yc, ys, yq⟩])) (lasts_depRow _ _ _ _ _) ?_ ?_
              · intro ρ w' ⟨p1, p2, p3⟩ ⟨hH, hX, hlo'⟩ hEE hn
                simp at hn
                obtain ⟨f62, g', f74, hg3, hg4, hg5⟩ := hn
                have hown := hEE rfl
                unfold RowD at hown
                rw [HDL.out] at hown
                refine got_append (.tmp 62) (.tmp 74) _ rfl Wl.heap.size 98 i0 (depV 0 0 0 0) 4 32 Try.underlying39 HI0.out HX0.out.1 HX0.out.2.1 HX0.out.2.2 (by rfl) (by omega) (.slice x o cpd) o (ds.flatMap dpVals) f62 hown ⟨g', 0, none⟩ 1 1 (dpVals ⟨yk, yc, ys, yq⟩) f74 (by rfl) hg5 (dp_one _) (by omega) (by unfold maxLen; omega) (by omega) (Nat.le_trans HH.out.size hlo') _ rfl ?_
                intro g3 cp3 w5 h1 h2 h3 h4
                refine ⟨appR_grown h2, g3, cp3, rfl, ?_⟩
                unfold RowD
                rw [List.length_append, List.flatMap_append, HDL.out]
                simpa using h1
              iterate 1 (apply slotU_eq; · (intro ρ w' ⟨p1, p2, p3⟩ ⟨hH, hX, hlo'⟩ hEE hn; simp at hn; go_simp; exact ⟨HRF.out _ _ (by simp), rfl⟩))
              refine slotU_end ?_
              rintro vs w4 ⟨hH, hX, hlo'⟩ hF
              simp at hF
              obtain ⟨f76, ⟨g3, cp3, f75, hrow⟩, ⟨g', f74, -, -, -⟩, f73, f72, f71, f70, f69, f68, f67, f66, f65, f64, f63, f62, f61⟩ := hF
              have HRW := Lib.hid hrow
              have HHH := Lib.hid hH
              have HXX := Lib.hid hX
              clear hH hX hlo' hrow HRF HOB HH HX HRD
              simp only [List.take_succ_cons, List.take_zero, List.drop_succ_cons, List.drop_zero, putAll, f76, f75, f74, f73, f72, f71, f70, f69, f68, f67, f66, f65, f64, f63, f62, f61]
              clear f76 f75 f74 f73 f72 f71 f70 f69 f68 f67 f66 f65 f64 f63 f62 f61
              simp only [Act.put, List.setIfInBounds_toArray, List.set_cons_succ, List.set_cons_zero]
              have y6 := HXX.out.c6
              have yf := HXX.out.fz
              go_upto_region 19 with fail
              have HH5 : Hid (Hole T Wl (w4.setCell ⟨T, 6, none⟩ (.slice (some ⟨g3, 0, none⟩) (o + 1) cp3))) := HHH.out.set 6 _
              have HX5 : Hid (WBox (w4.setCell ⟨T, 6, none⟩ (.slice (some ⟨g3, 0, none⟩) (o + 1) cp3)) T kk c s' (z + 1) uu false (some ⟨g3, 0, none⟩) (o + 1) cp3) := HXX.out.set6 _ _ _
              have HR5 : Hid (RowD (w4.setCell ⟨T, 6, none⟩ (.slice (some ⟨g3, 0, none⟩) (o + 1) cp3)) Wl.heap.size (.slice (some ⟨g3, 0, none⟩) (o + 1) cp3) (ds ++ [⟨yk, yc, ys, yq⟩])) := ownsRow_setCell_below (a := ⟨T, 6, none⟩) HRW.out hTl _
              clear y6 yf HHH HXX HRW
              generalize w4.setCell ⟨T, 6, none⟩ (.slice (some ⟨g3, 0, none⟩) (o + 1) cp3) = W5 at *
              have hcm : -9223372036854775808 ≤ yc + 1 ∧ yc + 1 ≤ 9223372036854775807 := by omega
              refine wp_region_slots 13 [[(7, false)], [(77, true)], [(78, true)], [(8, false)], [(10, false)], [(80, true), (81, true)], [(82, true)], [(83, true)], [(84, true)], [(85, true)], [(79, true), (86, true)], [(7, false)], [(88, true)]] (fun w' => Hole T Wl w' ∧ WBox w' T kk c s' (z + 1) uu false (some ⟨g3, 0, none⟩) (o + 1) cp3 ∧ RowD w' Wl.heap.size (.slice (some ⟨g3, 0, none⟩) (o + 1) cp3) (ds ++ [⟨yk, yc, ys, yq⟩])) (fun w w' => Below w.heap.size w w') (by kernel_rfl) (by kernel_rfl) (by rfl) ⟨HH5.out.drew, HX5.out.drew, HR5.out.below (Below.refl _ _).drew⟩ (fun _ _ h hb => ⟨h.1.trans (Hole.of_below hb), h.2.1.of_block hb.size (hb.block T h.2.1.lt), h.2.2.below hb⟩) ?_
              iterate 9 (apply slot_eq; · (intro ρ w' ⟨p1, p2, p3⟩ ⟨hH, hX, hR⟩ hn; obtain ⟨s0, s1, s2, s3⟩ := HSE.out.hole hH hg1 hg2; simp only at s0 s1 s2 s3; have y1 := hX.c1; simp at hn; go_simp; exact ⟨Below.refl _ _, rfl⟩))
              apply slot_eq
              · intro ρ w' ⟨p1, p2, p3⟩ ⟨hH, hX, hR⟩ hn
                simp at hn
                go_simp
                exact ⟨Below.refl _ _, rfl⟩
              apply slot_eq
              · intro ρ w' ⟨p1, p2, p3⟩ ⟨hH, hX, hR⟩ hn
                simp at hn
                go_simp
                exact ⟨Below.refl _ _, rfl⟩
              iterate 2 (apply slot_eq; · (intro ρ w' ⟨p1, p2, p3⟩ ⟨hH, hX, hR⟩ hn; simp at hn; go_simp; exact ⟨Below.refl _ _, rfl⟩))
              refine slot_end ?_
              rintro vs w6 ⟨hH, hX, hR⟩ hF
              simp at hF
              obtain ⟨f89, f88, f87, f86, f85, f84, f83, f82, f81, f80, f79, f78, f77⟩ := hF
              have hwr : IntKind.i64.wrap (yc + 1) = yc + 1 := by rw [IntKind.wrap_i64]; omega
              try rw [hwr] at f87
              try rw [hwr] at f86
              obtain ⟨c', hc'⟩ : ∃ c', (if c < yc + 1 then yc + 1 else c) = c' := ⟨_, rfl⟩
              have hmx : max c (yc + 1) = c' := by rw [← hc']; split <;> omega
              first | rw [hc'] at f87 | rw [hmx] at f87
              clear hmx
              have hcb : 1 ≤ c' ∧ c' ≤ (p : Int) + 1 := by
                rw [← hc']
                split <;> omega
              have HH6 : Hid (Hole T Wl (w6.setCell ⟨T, 1, none⟩ (.int .i64 c'))) := hH.set 1 _
              have HX6 : Hid (WBox (w6.setCell ⟨T, 1, none⟩ (.int .i64 c')) T kk c' s' (z + 1) uu false (some ⟨g3, 0, none⟩) (o + 1) cp3) := hX.set1 _
              have HR6 : Hid (RowD (w6.setCell ⟨T, 1, none⟩ (.int .i64 c')) Wl.heap.size (.slice (some ⟨g3, 0, none⟩) (o + 1) cp3) (ds ++ [⟨yk, yc, ys, yq⟩])) := ownsRow_setCell_below (a := ⟨T, 1, none⟩) hR hTl _
              have y1 := hX.c1
              have yf := hX.fz
              have HDL6 : Hid ((ds ++ [(⟨yk, yc, ys, yq⟩ : Dp)]).length = o + 1) := by
                rw [List.length_append, HDL.out]
                exact Lib.hid rfl
              clear hH hX hR hwr hc' HH5 HX5 HR5 HSE hcm hyc
              simp only [List.take_succ_cons, List.take_zero, List.drop_succ_cons, List.drop_zero, putAll, f89, f88, f87, f86, f85, f84, f83, f82, f81, f80, f79, f78, f77]
              clear f89 f88 f87 f86 f85 f84 f83 f82 f81 f80 f79 f78 f77
              simp only [Act.put, List.setIfInBounds_toArray, List.set_cons_succ, List.set_cons_zero]
              go_wp2
              exact ⟨⟨o + 1, c', some ⟨g3, 0, none⟩, cp3, _, by omega, by go_num, by omega, by omega, HDL6, HH6, HX6, HR6⟩, by simp [intOf]; omega⟩
            · have hoo : o = L := by omega
              subst hoo
              have HM7 := Lib.hid (HM.out.holeT HH.out HX.out hB)
              have HGL : Hid (∀ gD, Wl.heap.size ≤ gD → Off (.slice ag p cg) es gD) := fun gD h => HM.out.row.offNew h
              have hBl : B < Wl.heap.size := HM.out.cur.lt
              have hTl : T < Wl.heap.size := HM.out.box.lt
              have hWl : w.heap.size < Wl.heap.size := by have := HM.out.lo; omega
              clear HH HX HM HR HCL HE HL
              go_wp2_with fail
              refine (pick_any B a len cap _ 6 _ (by omega) (by omega) (by omega) HM7.out.cur).mono ?_
              rintro e w8 ⟨r8, rfl, r80, r81, hc8, hh8⟩
              have HM8 := Lib.hid (HM7.out.hole' hh8 hB hc8)
              have HR8 := Lib.hid (HRD.out.hole hh8 hBl)
              clear hc8 hh8 HM7 HRD
              have hdl := HDL.out
              subst hdl
              by_cases hr8 : r8 = 0
              · subst hr8
                have y4 := HM8.out.box.c4
                have y5 := HM8.out.box.c5
                have yf := HM8.out.box.fz
                have HM9 : Hid (Mid w ((w8.setCell ⟨T, 5, none⟩ (.bool true)).setCell ⟨T, 4, none⟩ (.int .i64 0)) B a len cap (N + 25 * p + 15 + p + 1) (.slice ag p cg) es T kk c s' (z + 1) 0 true x ds.length cpd) :=
                  HM8.out.holeT (((Hole.refl T w8).set 5 (.bool true)).set 4 (.int .i64 0)) ((HM8.out.box.set5 true).set4 0) hB
                have HR9 : Hid (RowD ((w8.setCell ⟨T, 5, none⟩ (.bool true)).setCell ⟨T, 4, none⟩ (.int .i64 0)) Wl.heap.size (.slice x ds.length cpd) ds) := ownsRow_setCell_below (a := ⟨T, 4, none⟩) (ownsRow_setCell_below (a := ⟨T, 5, none⟩) HR8.out hTl _) hTl _
                go_upto_region 23 with fail
                generalize (w8.setCell ⟨T, 5, none⟩ (.bool true)).setCell ⟨T, 4, none⟩ (.int .i64 0) = w9 at HM9 HR9 ⊢
                clear y4 y5 yf HM8 HR8
                have HBA1 : Hid (Below w9.heap.size w9 (w9.alloc (.cells #[.int .i64 kk, .int .i64 c, .int .i64 s', .int .i64 (z + 1), .int .i64 0, .bool true, .slice x ds.length cpd] 41))) := (Below.refl _ _).alloc (Nat.le_refl _) _
                have HMA := Lib.hid (HM9.out.below HBA1.out)
                have HRA := Lib.hid (HR9.out.below HBA1.out)
                have y0 := HM9.out.box.c0
                have y1 := HM9.out.box.c1
                have y2 := HM9.out.box.c2
                have y3 := HM9.out.box.c3
                have y4 := HM9.out.box.c4
                have y5 := HM9.out.box.c5
                have y6 := HM9.out.box.c6
                have hsz : w.heap.size ≤ w9.heap.size := by have h1 := HM9.out.lo; have h2 := HM9.out.box.lt; omega
                have HOW : Hid ((w9.alloc (.cells #[.int .i64 kk, .int .i64 c, .int .i64 s', .int .i64 (z + 1), .int .i64 0, .bool true, .slice x ds.length cpd] 41)).ownsRow w.heap.size 41 7 (.slice ag p cg) p (es.flatMap wrValsG)) := by
                  have h := HMA.out.row.own
                  rw [hnn] at h
                  exact h
                clear HBA1 HM9 HR9
                go_wp2_with (at_builtin; refine wpList_append_lies _ (by rfl) _ _ _ (by rfl) w.heap.size 41 i1' (wrV 0 0 0 0 0 false none 0 0) 7 72 Try.underlying44 HI1.out HX1.out.1 HX1.out.2.1 HX1.out.2.2 (by rfl) (by omega) (.slice ag p cg) p (es.flatMap wrValsG) (by rfl) HOW.out ⟨w9.heap.size, 0, none⟩ 1 1 (wrValsG ⟨⟨kk, c, s', z + 1, 0, true, ds⟩, x, blockOf x, cpd⟩) (by rfl) (by rfl) (oneG_cells w9 _ ⟨⟨kk, c, s', z + 1, 0, true, ds⟩, x, blockOf x, cpd⟩) (by simpa using valsG_one [⟨⟨kk, c, s', z + 1, 0, true, ds⟩, x, blockOf x, cpd⟩]) (by omega) (by unfold maxLen; omega) (by omega) (by simp; omega) _ rfl ?_; intro g5 cp5 W5 hown hgrow hg5 _; refine Hid.out ?_)
                refine Lib.hid ?_
                have HTE : Hid (Tale w W5 B a len cap N (.slice (some ⟨g5, 0, none⟩) (p + 1) cp5) (es ++ [⟨⟨kk, c, s', z + 1, 0, true, ds⟩, x, blockOf x, cpd⟩])) :=
                  HMA.out.ends hnn HRA.out HGL.out (by omega) hB HFW.out HCK.out (by omega) (by omega) (by omega) (by push_cast; omega) hown hgrow hg5
                clear hown hgrow HOW HMA HRA
                go_wp2
                exact ⟨⟨j - 1, _, _, by rw [List.length_append, hnn]; simp; omega, by go_num, rfl, HTE⟩, by simp [intOf]; omega⟩
              · go_upto_region 23 with fail
                have HBA2 : Hid (Below w8.heap.size w8 (w8.alloc (.cells #[.int .i64 kk, .int .i64 c, .int .i64 s', .int .i64 (z + 1), .int .i64 uu, .bool false, .slice x ds.length cpd] 41))) := (Below.refl _ _).alloc (Nat.le_refl _) _
                have HMA := Lib.hid (HM8.out.below HBA2.out)
                have HRA := Lib.hid (HR8.out.below HBA2.out)
                have y0 := HM8.out.box.c0
                have y1 := HM8.out.box.c1
                have y2 := HM8.out.box.c2
                have y3 := HM8.out.box.c3
                have y4 := HM8.out.box.c4
                have y5 := HM8.out.box.c5
                have y6 := HM8.out.box.c6
                have hsz : w.heap.size ≤ w8.heap.size := by have h1 := HM8.out.lo; have h2 := HM8.out.box.lt; omega
                have HOW : Hid ((w8.alloc (.cells #[.int .i64 kk, .int .i64 c, .int .i64 s', .int .i64 (z + 1), .int .i64 uu, .bool false, .slice x ds.length cpd] 41)).ownsRow w.heap.size 41 7 (.slice ag p cg) p (es.flatMap wrValsG)) := by
                  have h := HMA.out.row.own
                  rw [hnn] at h
                  exact h
                clear HBA2 HM8 HR8
                go_wp2_with (at_builtin; refine wpList_append_lies _ (by rfl) _ _ _ (by rfl) w.heap.size 41 i1' (wrV 0 0 0 0 0 false none 0 0) 7 72 Try.underlying44 HI1.out HX1.out.1 HX1.out.2.1 HX1.out.2.2 (by rfl) (by omega) (.slice ag p cg) p (es.flatMap wrValsG) (by rfl) HOW.out ⟨w8.heap.size, 0, none⟩ 1 1 (wrValsG ⟨⟨kk, c, s', z + 1, uu, false, ds⟩, x, blockOf x, cpd⟩) (by rfl) (by rfl) (oneG_cells w8 _ ⟨⟨kk, c, s', z + 1, uu, false, ds⟩, x, blockOf x, cpd⟩) (by simpa using valsG_one [⟨⟨kk, c, s', z + 1, uu, false, ds⟩, x, blockOf x, cpd⟩]) (by omega) (by unfold maxLen; omega) (by omega) (by simp; omega) _ rfl ?_; intro g5 cp5 W5 hown hgrow hg5 _; refine Hid.out ?_)
                refine Lib.hid ?_
                have HTE : Hid (Tale w W5 B a len cap N (.slice (some ⟨g5, 0, none⟩) (p + 1) cp5) (es ++ [⟨⟨kk, c, s', z + 1, uu, false, ds⟩, x, blockOf x, cpd⟩])) :=
                  HMA.out.ends hnn HRA.out HGL.out (by omega) hB HFW.out HCK.out (by omega) (by omega) (by omega) (by push_cast; omega) hown hgrow hg5
                clear hown hgrow HOW HMA HRA
                go_wp2
                exact ⟨⟨j - 1, _, _, by rw [List.length_append, hnn]; simp; omega, by go_num, rfl, HTE⟩, by simp [intOf]; omega⟩
    · have hj0 : j = 0 := by omega
      subst hj0
      go_wp2
      go_ret
      exact ⟨_, es, rfl, by omega, by omega, HT.out.few, HT.out.row, HT.out.cur.more (by omega), HT.out.hole⟩

end Go.Proofs.Ytojgahcogpediaa

/- The contract of the cursor's amap. -/
namespace Go.Proofs.Ytojgahcogpediaa
open Go.ChangeShapes Go.WideShapes Go.ChangeAt Go.RowKit Go.Joins
attribute [local go_sem ↓] Go.wp_at_zero Go.wp_at_succ

set_option maxHeartbeats 1000000 in
theorem pick_one (B : Nat) (w : World) :
    Calls Try.prog 60 #[.pointer (some ⟨B, 0, none⟩), .int .i64 1] w fun e w' => e = .returned (.int .i64 0) ∧ w' = w := by
  go_enter Try.func60, Try.ntmps60
  go_wp2
  go_ret
  exact ⟨rfl, rfl⟩

theorem pick_len (B : Nat) (a : Option Addr) (len cap : Nat) (N : Int) (n : Nat) (w : World) (hN : N ≤ 1000000) (hn : 1 ≤ n) (hn' : n ≤ 100000) (h : Cur w B a len cap N) :
    Calls Try.prog 60 #[.pointer (some ⟨B, 0, none⟩), .int .i64 (n : Int)] w fun e w' => ∃ r : Nat, e = .returned (.int .i64 (r : Int)) ∧ r < n ∧ Cur w' B a len cap (N + 1) ∧ Hole B w w' := by
  by_cases h1 : n = 1
  · subst h1
    refine (pick_one B w).mono ?_
    rintro e w' ⟨rfl, rfl⟩
    exact ⟨0, rfl, by omega, h.more (by omega), Hole.refl _ _⟩
  · refine (pick_any B a len cap N n w hN (by omega) (by omega) h).mono ?_
    rintro e w' ⟨r, rfl, h2, h3, h4, h5⟩
    obtain ⟨r', rfl⟩ := Int.eq_ofNat_of_zero_le h2
    exact ⟨r', rfl, by omega, h4, h5⟩

def setK (e : En) (k : Int) : En := ⟨⟨k, e.x.c, e.x.s, e.x.q, e.x.v, e.x.de, e.x.xs⟩, e.g, e.cp⟩

theorem vals_set : ∀ (es : List En) (i : Nat) (k : Int), i < es.length → (es.flatMap wrVals).set (i * 7) (.int .i64 k) = (es.set i (setK (es.getD i ez) k)).flatMap wrVals
  | [], i, k, h => by simp at h
  | e :: r, 0, k, _ => by
    rw [List.flatMap_cons]
    simp [wrVals, setK]
  | e :: r, i + 1, k, h => by
    have ih := vals_set r i k (by simpa using h)
    rw [List.flatMap_cons, List.set_append_right _ _ (by simp [wrVals]; omega)]
    rw [show (i + 1) * 7 - (wrVals e).length = i * 7 by simp [wrVals]; omega, ih]
    simp

theorem RowEs.setKey {w : World} {base g cap : Nat} {es : List En} (h : RowEs w base g cap es) {i : Nat} (hi : i < es.length) (k : Int) : RowEs (w.setCell ⟨g, i * 7, none⟩ (.int .i64 k)) base g cap (es.set i (setK (es.getD i ez) k)) where
  le := h.le
  lt := by simpa [World.setCell] using h.lt
  own := by
    rw [List.length_set, ← vals_set es i k hi]
    exact (h.own.stored (i * 7) (.int .i64 k)).1
  deps := fun e he => by
    have : ∀ d : En, (base ≤ d.g ∧ d.g < w.heap.size ∧ d.g ≠ g ∧ HoldsDeps w d.g 0 d.x.xs) → base ≤ d.g ∧ d.g < (w.setCell ⟨g, i * 7, none⟩ (.int .i64 k)).heap.size ∧ d.g ≠ g ∧ HoldsDeps (w.setCell ⟨g, i * 7, none⟩ (.int .i64 k)) d.g 0 d.x.xs := fun d ⟨h1, h2, h3, h4⟩ =>
      ⟨h1, by simpa [World.setCell] using h2, h3, h4.set (Ne.symm h3) _⟩
    rcases List.mem_or_eq_of_mem_set he with h1 | h1
    · exact this e (h.deps e h1)
    · subst h1
      have hm : es.getD i ez ∈ es := by simp [List.getD, hi]
      exact this (es.getD i ez) (h.deps _ hm)

end Go.Proofs.Ytojgahcogpediaa

/- The contracts of the draws of maps. -/
namespace Go.Proofs.Ytojgahcogpediaa
open Go.ChangeShapes Go.WideShapes Go.ChangeAt Go.RowKit Go.Joins
attribute [local go_sem ↓] Go.wp_at_zero Go.wp_at_succ

/-- A drawn map: a row of writes of one's own, a few, each with a few dependencies. -/
def DrawnM (w : World) (base : Nat) (v : Value) (es : List En) : Prop := ∃ g cp, v = .slice (some ⟨g, 0, none⟩) es.length cp ∧ es.length ≤ 40 ∧ (∀ d ∈ es, d.x.xs.length ≤ 10) ∧ RowEs w base g cp es

theorem joinW_len : ∀ (b a : List Wr), (joinW a b).length ≤ a.length + b.length
  | [], a => by simp [joinW]
  | x :: r, a => by
    have h1 := joinW_len r (putW a x)
    have h2 := put_len a x
    show (joinW (putW a x) r).length ≤ _
    simp only [List.length_cons]
    omega

theorem joinW_mem : ∀ (b a : List Wr) (z : Wr), z ∈ joinW a b → z ∈ a ∨ z ∈ b
  | [], a, z, h => .inl h
  | x :: r, a, z, h => by
    rcases joinW_mem r (putW a x) z h with h1 | h1
    · rcases put_mem a x z h1 with h2 | h2
      · exact .inr (by simp [h2])
      · exact .inl h2
    · exact .inr (by simp [h1])

theorem few_of {es : List En} (h : ∀ d ∈ es, d.x.xs.length ≤ 10) : Few (es.map (·.x)) := few_iff.2 fun y hy => by
  obtain ⟨d, hd, rfl⟩ := List.mem_map.1 hy
  have := h d hd
  omega

end Go.Proofs.Ytojgahcogpediaa

/- Contracts of the specification's Lacks, Covered, l03Right. -/
namespace Go.Proofs.Ytojgahcogpediaa
open Go.ChangeShapes Go.WideShapes Go.ChangeAt Go.RowKit Go.Joins
attribute [local go_sem ↓] Go.wp_at_zero Go.wp_at_succ

def lacking (ws : List Wr) (d : Dp) : Bool := !hasB ws d.k d.c d.s d.q

def lacksL (ws : List Wr) (ds : List Dp) : List Dp := ds.filter (lacking ws)

def covB (ws : List Wr) (ds : List Dp) : Bool := (lacksL ws ds).length == 0

theorem take_next (ds : List Dp) (k : Nat) (h : k < ds.length) : ds.take (k + 1) = ds.take k ++ [ds.getD k dz] := by
  rw [List.take_add_one, List.getElem?_eq_getElem h]
  simp [List.getD, h]

theorem lacks_more {ws : List Wr} {ds : List Dp} {k : Nat} (h : k < ds.length) (hd : lacking ws (ds.getD k dz) = true) : lacksL ws (ds.take (k + 1)) = lacksL ws (ds.take k) ++ [ds.getD k dz] := by
  unfold lacksL
  rw [take_next ds k h, List.filter_append]
  generalize ds.getD k dz = d at *
  simp [hd]

theorem lacks_same {ws : List Wr} {ds : List Dp} {k : Nat} (h : k < ds.length) (hd : lacking ws (ds.getD k dz) = false) : lacksL ws (ds.take (k + 1)) = lacksL ws (ds.take k) := by
  unfold lacksL
  rw [take_next ds k h, List.filter_append]
  generalize ds.getD k dz = d at *
  simp [hd]

theorem lacks_len (ws : List Wr) (ds : List Dp) (k : Nat) : (lacksL ws (ds.take k)).length ≤ k := by
  unfold lacksL
  have h1 := List.length_filter_le (lacking ws) (ds.take k)
  have h2 : (ds.take k).length ≤ k := by simp; omega
  omega

def rightB (ws more : List Wr) : Bool := mapOkB ws && more.all okW

theorem right_false {ws more : List Wr} {k : Nat} (h : k < more.length) (hk : okW (more.getD k wz) = false) : rightB ws more = false := by
  unfold rightB
  rw [Bool.and_eq_false_iff]
  refine .inr ?_
  rw [List.all_eq_false]
  refine ⟨more.getD k wz, ?_, by rw [hk]; simp⟩
  have e : more.getD k wz = more[k] := by simp [List.getD, h]
  rw [e]
  exact List.getElem_mem h

end Go.Proofs.Ytojgahcogpediaa
