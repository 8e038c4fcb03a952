import Derived.Test.YtbbmpfkijhhemabGreatDoorPack8
import Derived.Test.YtbbmpfkijhhemabGreatDoorPack1
import Derived.Test.YtbbmpfkijhhemabGreatDoorPack6
import Derived.Test.YtbbmpfkijhhemabGreatDoorPack10
import Derived.Test.YtbbmpfkijhhemabGreatDoorPack9
import Derived.Test.YtbbmpfkijhhemabGreatDoorPack7
/- A write in a block of its own, and an append of a dependency inside a region that draws its order: for the reading of a write. -/
namespace Go.Proofs.YtbbmpfkijhhemabGreatDoor
open Go.ChangeShapes Go.WideShapes Go.ChangeAt Go.RowKit Go.Joins

/-- A write in a block of its own. -/
structure RBox (w : World) (b : Nat) (k c s q v : Int) (de : Bool) (x : Option Addr) (len cap : Nat) : Prop where
  lt : b < w.heap.size
  c0 : w.cell? ⟨b, 0, none⟩ = some (.int .i64 k)
  c1 : w.cell? ⟨b, 1, none⟩ = some (.int .i64 c)
  c2 : w.cell? ⟨b, 2, none⟩ = some (.int .i64 s)
  c3 : w.cell? ⟨b, 3, none⟩ = some (.int .i64 q)
  c4 : w.cell? ⟨b, 4, none⟩ = some (.int .i64 v)
  c5 : w.cell? ⟨b, 5, none⟩ = some (.bool de)
  c6 : w.cell? ⟨b, 6, none⟩ = some (.slice x len cap)
  fz : ∀ o, w.frozen? ⟨b, o, none⟩ = false

set_option maxRecDepth 100000 in
theorem frozen_ofb {w w' : World} {b o : Nat} (h : w'.heap[b]? = w.heap[b]?) : w'.frozen? ⟨b, o, none⟩ = w.frozen? ⟨b, o, none⟩ := by
  unfold World.frozen?
  simp only [h]

set_option maxRecDepth 100000 in
theorem RBox.start (w : World) (k c s q v : Int) (de : Bool) (x : Option Addr) (len cap : Nat) (t : Nat) : RBox (w.alloc (.cells #[.int .i64 k, .int .i64 c, .int .i64 s, .int .i64 q, .int .i64 v, .bool de, .slice x len cap] t)) w.heap.size k c s q v de x len cap :=
  ⟨by simp, by simp [go_sem], by simp [go_sem], by simp [go_sem], by simp [go_sem], by simp [go_sem], by simp [go_sem], by simp [go_sem], fun o => by simp [go_sem]⟩

set_option maxRecDepth 100000 in
theorem RBox.hole {w w' : World} {B b : Nat} {k c s q v : Int} {de : Bool} {x : Option Addr} {len cap : Nat} (h : RBox w b k c s q v de x len cap) (hh : Hole B w w') (hn : b ≠ B) : RBox w' b k c s q v de x len cap :=
  ⟨Nat.lt_of_lt_of_le h.lt hh.size, (hh.cell h.lt hn).trans h.c0, (hh.cell h.lt hn).trans h.c1, (hh.cell h.lt hn).trans h.c2, (hh.cell h.lt hn).trans h.c3, (hh.cell h.lt hn).trans h.c4, (hh.cell h.lt hn).trans h.c5, (hh.cell h.lt hn).trans h.c6, fun o => (hh.frozen h.lt hn).trans (h.fz o)⟩

set_option maxRecDepth 100000 in
theorem RBox.set0 {w : World} {b : Nat} {k c s q v : Int} {de : Bool} {x : Option Addr} {len cap : Nat} (h : RBox w b k c s q v de x len cap) (y : Int) : RBox (w.setCell ⟨b, 0, none⟩ (.int .i64 y)) b y c s q v de x len cap :=
  ⟨by simpa [World.setCell] using h.lt, cell_set_same h.c0, cell_set_off h.c1 (by omega), cell_set_off h.c2 (by omega), cell_set_off h.c3 (by omega), cell_set_off h.c4 (by omega), cell_set_off h.c5 (by omega), cell_set_off h.c6 (by omega), fun o => by rw [World.frozen?_setCell]; exact h.fz o⟩

set_option maxRecDepth 100000 in
theorem RBox.set1 {w : World} {b : Nat} {k c s q v : Int} {de : Bool} {x : Option Addr} {len cap : Nat} (h : RBox w b k c s q v de x len cap) (y : Int) : RBox (w.setCell ⟨b, 1, none⟩ (.int .i64 y)) b k y s q v de x len cap :=
  ⟨by simpa [World.setCell] using h.lt, cell_set_off h.c0 (by omega), cell_set_same h.c1, cell_set_off h.c2 (by omega), cell_set_off h.c3 (by omega), cell_set_off h.c4 (by omega), cell_set_off h.c5 (by omega), cell_set_off h.c6 (by omega), fun o => by rw [World.frozen?_setCell]; exact h.fz o⟩

set_option maxRecDepth 100000 in
theorem RBox.set4 {w : World} {b : Nat} {k c s q v : Int} {de : Bool} {x : Option Addr} {len cap : Nat} (h : RBox w b k c s q v de x len cap) (y : Int) : RBox (w.setCell ⟨b, 4, none⟩ (.int .i64 y)) b k c s q y de x len cap :=
  ⟨by simpa [World.setCell] using h.lt, cell_set_off h.c0 (by omega), cell_set_off h.c1 (by omega), cell_set_off h.c2 (by omega), cell_set_off h.c3 (by omega), cell_set_same h.c4, cell_set_off h.c5 (by omega), cell_set_off h.c6 (by omega), fun o => by rw [World.frozen?_setCell]; exact h.fz o⟩

set_option maxRecDepth 100000 in
theorem RBox.set5 {w : World} {b : Nat} {k c s q v : Int} {de : Bool} {x : Option Addr} {len cap : Nat} (h : RBox w b k c s q v de x len cap) (y : Bool) : RBox (w.setCell ⟨b, 5, none⟩ (.bool y)) b k c s q v y x len cap :=
  ⟨by simpa [World.setCell] using h.lt, cell_set_off h.c0 (by omega), cell_set_off h.c1 (by omega), cell_set_off h.c2 (by omega), cell_set_off h.c3 (by omega), cell_set_off h.c4 (by omega), cell_set_same h.c5, cell_set_off h.c6 (by omega), fun o => by rw [World.frozen?_setCell]; exact h.fz o⟩

set_option maxRecDepth 100000 in
theorem RBox.set6 {w : World} {b : Nat} {k c s q v : Int} {de : Bool} {x : Option Addr} {len cap : Nat} (h : RBox w b k c s q v de x len cap) (y : Option Addr) (l' c' : Nat) : RBox (w.setCell ⟨b, 6, none⟩ (.slice y l' c')) b k c s q v de y l' c' :=
  ⟨by simpa [World.setCell] using h.lt, cell_set_off h.c0 (by omega), cell_set_off h.c1 (by omega), cell_set_off h.c2 (by omega), cell_set_off h.c3 (by omega), cell_set_off h.c4 (by omega), cell_set_off h.c5 (by omega), cell_set_same h.c6, fun o => by rw [World.frozen?_setCell]; exact h.fz o⟩

set_option maxRecDepth 100000 in
theorem RBox.set2 {w : World} {b : Nat} {k c s q v : Int} {de : Bool} {x : Option Addr} {len cap : Nat} (h : RBox w b k c s q v de x len cap) (y : Int) : RBox (w.setCell ⟨b, 2, none⟩ (.int .i64 y)) b k c y q v de x len cap :=
  ⟨by simpa [World.setCell] using h.lt, cell_set_off h.c0 (by omega), cell_set_off h.c1 (by omega), cell_set_same h.c2, cell_set_off h.c3 (by omega), cell_set_off h.c4 (by omega), cell_set_off h.c5 (by omega), cell_set_off h.c6 (by omega), fun o => by rw [World.frozen?_setCell]; exact h.fz o⟩

set_option maxRecDepth 100000 in
theorem RBox.set3 {w : World} {b : Nat} {k c s q v : Int} {de : Bool} {x : Option Addr} {len cap : Nat} (h : RBox w b k c s q v de x len cap) (y : Int) : RBox (w.setCell ⟨b, 3, none⟩ (.int .i64 y)) b k c s y v de x len cap :=
  ⟨by simpa [World.setCell] using h.lt, cell_set_off h.c0 (by omega), cell_set_off h.c1 (by omega), cell_set_off h.c2 (by omega), cell_set_same h.c3, cell_set_off h.c4 (by omega), cell_set_off h.c5 (by omega), cell_set_off h.c6 (by omega), fun o => by rw [World.frozen?_setCell]; exact h.fz o⟩

set_option maxRecDepth 100000 in
theorem RBox.of_block {w w' : World} {b : Nat} {k c s q v : Int} {de : Bool} {x : Option Addr} {len cap : Nat} (h : RBox w b k c s q v de x len cap) (hs : w.heap.size ≤ w'.heap.size) (hb : w'.heap[b]? = w.heap[b]?) : RBox w' b k c s q v de x len cap := by
  have e : ∀ o, w'.cell? ⟨b, o, none⟩ = w.cell? ⟨b, o, none⟩ := fun o => World.cell?_of_block (a := ⟨b, o, none⟩) hb
  exact ⟨Nat.lt_of_lt_of_le h.lt hs, (e 0).trans h.c0, (e 1).trans h.c1, (e 2).trans h.c2, (e 3).trans h.c3, (e 4).trans h.c4, (e 5).trans h.c5, (e 6).trans h.c6, fun o => (frozen_ofb hb).trans (h.fz o)⟩

set_option maxRecDepth 100000 in
theorem RBox.drew {w : World} {b : Nat} {k c s q v : Int} {de : Bool} {x : Option Addr} {len cap : Nat} (h : RBox w b k c s q v de x len cap) : RBox w.drew b k c s q v de x len cap := h.of_block (Nat.le_refl _) rfl

def StQ (de : Bool) (Wl : World) (T : Nat) (k c s q u : Int) (x : Option Addr) (o cpd : Nat) (lo : Nat) (w' : World) : Prop := Hole T Wl w' ∧ RBox w' T k c s q u de x o cpd ∧ lo ≤ w'.heap.size

def AppQ (z : Tmp) (ob : Option Nat) : ReachU := fun d w w' => if d = some z then w.grownBy w' ob else Below w.heap.size w w'

set_option maxRecDepth 100000 in
theorem appQ_below {z : Tmp} {ob : Option Nat} {d : Option Tmp} {w w' : World} (hd : d ≠ some z) (h : AppQ z ob d w w') : Below w.heap.size w w' := by
  unfold AppQ at h
  rw [if_neg hd] at h
  exact h

set_option maxRecDepth 100000 in
theorem stQ_step {z : Tmp} {de : Bool} {Wl : World} {T : Nat} {k c s q u : Int} {x : Option Addr} {o cpd lo : Nat} (hob : ∀ b, (Value.slice x o cpd).ownBlock = some b → Wl.heap.size ≤ b ∧ b < lo) (hT : T < Wl.heap.size) {d : Option Tmp} {w w' : World} (h : StQ de Wl T k c s q u x o cpd lo w) (hr : AppQ z (Value.slice x o cpd).ownBlock d w w') : StQ de Wl T k c s q u x o cpd lo w' := by
  obtain ⟨h1, h2, h3⟩ := h
  by_cases hd : d = some z
  · unfold AppQ at hr
    rw [if_pos hd] at hr
    have hb : ∀ b, b < Wl.heap.size → w'.heap[b]? = w.heap[b]? := fun b hlt => hr.block b (Nat.lt_of_lt_of_le hlt h1.size) fun e => by
      have := (hob b e.symm).1
      omega
    exact ⟨⟨hr.os.trans h1.os, hr.tape.trans h1.tape, hr.output.trans h1.output, Nat.le_trans h1.size hr.size, fun k hk hn => (hb k hk).trans (h1.block k hk hn)⟩, h2.of_block hr.size (hb T hT), Nat.le_trans h3 hr.size⟩
  · have hb := appQ_below hd hr
    exact ⟨h1.trans (Hole.of_below hb), h2.of_block hb.size (hb.block T h2.lt), Nat.le_trans h3 hb.size⟩

set_option maxRecDepth 100000 in
theorem appQ_refl {z : Tmp} {ob : Option Nat} {d : Option Tmp} (hd : d ≠ some z) (w : World) : AppQ z ob d w w := by
  unfold AppQ
  rw [if_neg hd]
  exact Below.refl _ _

set_option maxRecDepth 100000 in
theorem appQ_alloc {z : Tmp} {ob : Option Nat} {d : Option Tmp} (hd : d ≠ some z) (w : World) (o : Obj) : AppQ z ob d w (w.alloc o) := by
  unfold AppQ
  rw [if_neg hd]
  exact (Below.refl _ _).alloc (Nat.le_refl _) _

set_option maxRecDepth 100000 in
theorem appQ_grown {z : Tmp} {ob : Option Nat} {w w' : World} (h : w.grownBy w' ob) : AppQ z ob (some z) w w' := by
  unfold AppQ
  rw [if_pos rfl]
  exact h

def DepNewQ (ob : Option Nat) (d : Dp) : Fact := fun v w => ∃ g', v = .slice (some ⟨g', 0, none⟩) 1 1 ∧ g' < w.heap.size ∧ ob ≠ some g' ∧ ∀ j u, (dpVals d)[j]? = some u → w.cell? ((⟨g', 0, none⟩ : Addr).add j) = some u

set_option maxRecDepth 100000 in
theorem lasts_depNewQ (z : Tmp) (U : Tmp → Option Tmp) (dst : Option Tmp) (ob : Option Nat) (d : Dp) : lastsU U (AppQ z ob) dst (DepNewQ ob d) := by
  rintro d' _ _ v w w' ⟨g', h1, h2, h3, h4⟩ hr
  have hb : w'.heap[g']? = w.heap[g']? ∧ w.heap.size ≤ w'.heap.size := by
    by_cases hd : d' = some z
    · unfold AppQ at hr
      rw [if_pos hd] at hr
      exact ⟨hr.block g' h2 (fun e => h3 e.symm), hr.size⟩
    · have := appQ_below hd hr
      exact ⟨this.block g' h2, this.size⟩
  refine ⟨g', h1, Nat.lt_of_lt_of_le h2 hb.2, h3, fun j u hu => ?_⟩
  have := h4 j u hu
  rw [add_block] at this ⊢
  exact (World.cell?_of_block (a := ⟨g', j, none⟩) hb.1).trans this

def DepRowQ (G o : Nat) (ds : List Dp) : Fact := fun v w => ∃ g3 cp3, v = .slice (some ⟨g3, 0, none⟩) (o + 1) cp3 ∧ RowD w G (.slice (some ⟨g3, 0, none⟩) (o + 1) cp3) ds

set_option maxRecDepth 100000 in
theorem lasts_depRowQ (z : Tmp) (U : Tmp → Option Tmp) (ob : Option Nat) (G o : Nat) (ds : List Dp) : lastsU U (AppQ z ob) (some z) (DepRowQ G o ds) := by
  rintro d' hd _ v w w' ⟨g3, cp3, h1, h2⟩ hr
  exact ⟨g3, cp3, h1, h2.below (appQ_below hd hr)⟩

set_option maxRecDepth 100000 in
theorem RowD.holeQ {w w' : World} {B base : Nat} {v : Value} {ds : List Dp} (h : RowD w base v ds) (hh : Hole B w w') (hB : B < base) : RowD w' base v ds :=
  World.ownsRow.kept (row := some B) h ⟨hh.os, hh.tape, hh.output, hh.size, fun k hk hn => hh.block k hk (fun e => hn (by rw [e]))⟩ (by
    by_cases e : v.ownBlock = none
    · exact .inl e
    · refine .inr fun e2 => ?_
      have := (World.ownsRow.lt h B e2).1
      omega)

end Go.Proofs.YtbbmpfkijhhemabGreatDoor

/- Lists of numbers: rows that grow; what markIntS writes, heldIntS finds; the contract of eqIntS. -/
namespace Go.Proofs.YtbbmpfkijhhemabGreatDoor
open Go.ChangeShapes Go.WideShapes Go.ChangeAt Go.RowKit Go.Joins
attribute [local go_sem ↓] Go.wp_at_zero Go.wp_at_succ

def intV (z : Int) : Value := .int .i64 z

theorem infoInt : (Tryz.prog.info? 3).map (fun i => (i.zero, i.size, i.bytes)) = some (some (.int .i64 0), 1, 8) := by kernel_rfl

/-- What a slice of numbers leads to. -/
def IsInts (w : World) (a : Option Addr) (zs : List Int) : Prop :=
  zs = [] ∨ ∃ b, a = some ⟨b, 0, none⟩ ∧ b < w.heap.size ∧ ∀ i, i < zs.length → w.cell? ⟨b, i, none⟩ = some (.int .i64 (zs.getD i 0))

theorem IsInts.below {w w' : World} {a : Option Addr} {zs : List Int} (h : IsInts w a zs) (hb : Below w.heap.size w w') : IsInts w' a zs := by
  rcases h with h | ⟨b, ha, hlt, hh⟩
  · exact .inl h
  · exact .inr ⟨b, ha, Nat.lt_of_lt_of_le hlt hb.size, fun i hi => (hb.cell (p := ⟨b, i, none⟩) hlt).trans (hh i hi)⟩

theorem IsInts.at {w w' : World} {a : Option Addr} {zs : List Int} (h : IsInts w a zs) (hb : Below w.heap.size w w') {k : Nat} (hk : k < zs.length) : ∃ b, a = some ⟨b, 0, none⟩ ∧ b < w'.heap.size ∧ w'.cell? ⟨b, k, none⟩ = some (.int .i64 (zs.getD k 0)) := by
  rcases h.below hb with h | ⟨b, ha, hlt, hh⟩
  · subst h
    simp at hk
  · exact ⟨b, ha, hlt, hh k hk⟩

/-- A list of numbers of one's own, between two block numbers. -/
def OwnI (w : World) (lo hi : Nat) (a : Option Addr) (zs : List Int) : Prop :=
  zs = [] ∨ ∃ b, a = some ⟨b, 0, none⟩ ∧ lo ≤ b ∧ b < hi ∧ b < w.heap.size ∧ (∀ i, i < zs.length → w.cell? ⟨b, i, none⟩ = some (.int .i64 (zs.getD i 0))) ∧ ∀ o, w.frozen? ⟨b, o, none⟩ = false

theorem OwnI.below {w w' : World} {lo hi : Nat} {a : Option Addr} {zs : List Int} (h : OwnI w lo hi a zs) (hb : Below w.heap.size w w') : OwnI w' lo hi a zs := by
  rcases h with h | ⟨b, ha, h1, h2, hlt, hh, hf⟩
  · exact .inl h
  · exact .inr ⟨b, ha, h1, h2, Nat.lt_of_lt_of_le hlt hb.size, fun i hi => (hb.cell (p := ⟨b, i, none⟩) hlt).trans (hh i hi), fun o => (hb.frozen (p := ⟨b, o, none⟩) hlt).trans (hf o)⟩

theorem OwnI.only {w w' : World} {S : Nat → Prop} {lo hi : Nat} {a : Option Addr} {zs : List Int} (h : OwnI w lo hi a zs) (ho : Only S w w') (hS : ∀ x, S x → x < lo) : OwnI w' lo hi a zs := by
  rcases h with h | ⟨b, ha, h1, h2, hlt, hh, hf⟩
  · exact .inl h
  · have hb : w'.heap[b]? = w.heap[b]? := ho.block b fun e => by have := hS b e; omega
    exact .inr ⟨b, ha, h1, h2, by rw [ho.size]; exact hlt, fun i hi => (World.cell?_of_block (a := ⟨b, i, none⟩) hb).trans (hh i hi), fun o => (ho.frozen _).trans (hf o)⟩

theorem OwnI.isInts {w : World} {lo hi : Nat} {a : Option Addr} {zs : List Int} (h : OwnI w lo hi a zs) : IsInts w a zs := by
  rcases h with h | ⟨b, ha, _, _, hlt, hh, _⟩
  · exact .inl h
  · exact .inr ⟨b, ha, hlt, hh⟩

/-- A row of numbers that grows. -/
def RowI (w : World) (base : Nat) (v : Value) (zs : List Int) : Prop := w.ownsRow base 3 1 v zs.length (zs.map intV)

theorem RowI.form {w : World} {base : Nat} {v : Value} {zs : List Int} (h : RowI w base v zs) : ∃ a cap, v = .slice a zs.length cap ∧ OwnI w base w.heap.size a zs := by
  rcases h.2 with ⟨h1, h2⟩ | ⟨g, cap, cur, h1, h2, h3, _⟩
  · exact ⟨none, 0, by rw [h1, h2], .inl (List.length_eq_zero_iff.1 h2)⟩
  · have hlt : g < w.heap.size := (Array.getElem?_eq_some_iff.1 h3).1
    subst h1
    refine ⟨_, cap, rfl, .inr ⟨g, rfl, h2, hlt, hlt, fun i hi => ?_, fun o => World.ownsRow.frozenAt h o⟩⟩
    rw [World.ownsRow.cellAt h i (by omega)]
    simp [intV, List.getD, hi]

theorem RowI.below {w w' : World} {base : Nat} {v : Value} {zs : List Int} (h : RowI w base v zs) (hb : Below w.heap.size w w') : RowI w' base v zs :=
  World.ownsRow.kept (row := none) h ⟨hb.os, hb.tape, hb.output, hb.size, fun k hk _ => hb.block k hk⟩ (by
    by_cases e : v.ownBlock = none
    · exact .inl e
    · exact .inr e)

theorem RowI.mono {w : World} {base base' : Nat} {v : Value} {zs : List Int} (h : RowI w base v zs) (hb : base' ≤ base) : RowI w base' v zs := by
  refine ⟨h.1, ?_⟩
  rcases h.2 with h1 | ⟨g, cap, cur, h1, h2, h3⟩
  · exact .inl h1
  · exact .inr ⟨g, cap, cur, h1, Nat.le_trans hb h2, h3⟩

theorem oneI_cells (w : World) (t : Nat) (z : Int) : ∀ j u, ([intV z] : List Value)[j]? = some u → (w.alloc (.cells #[.int .i64 z] t)).cell? ((⟨w.heap.size, 0, none⟩ : Addr).add j) = some u := by
  intro j u hu
  have e1 : (⟨w.heap.size, 0, none⟩ : Addr).add j = ⟨w.heap.size, j, none⟩ := by
    unfold Addr.add
    split
    · rename_i h
      rw [h]
    · simp
  rw [e1, cell_of_row _ _ j _ t (0, 0) (heap_alloc_new w _), ← hu]
  simp [intV]

theorem intV_one (zs : List Int) : ∀ u ∈ zs.map intV, u.oneCell' = true := by
  intro u hu
  obtain ⟨z, _, rfl⟩ := List.mem_map.1 hu
  rfl

theorem markI_step (k : Int) (j o : Nat) (f : Nat → Value) : (if o = j then Value.int .i64 (k + j) else if o < j then markFn k o else f o) = (if o < j + 1 then markFn k o else f o) := by
  unfold markFn
  by_cases h0 : o = j
  · rw [if_pos h0, if_pos (by omega), h0]
  rw [if_neg h0]
  by_cases hl : o < j
  · rw [if_pos hl, if_pos (by omega)]
  · rw [if_neg hl, if_neg (by omega)]

/-- A list of numbers that is marked. -/
def MarkedI (w : World) (a : Option Addr) (n : Nat) (k : Int) : Prop := n = 0 ∨ ∃ b, a = some ⟨b, 0, none⟩ ∧ b < w.heap.size ∧ CellsAre w b n (markFn k)

theorem MarkedI.below {w w' : World} {a : Option Addr} {n : Nat} {k : Int} (h : MarkedI w a n k) (hb : Below w.heap.size w w') : MarkedI w' a n k := by
  rcases h with h | ⟨b, ha, hlt, hc⟩
  · exact .inl h
  · exact .inr ⟨b, ha, Nat.lt_of_lt_of_le hlt hb.size, hc.of_block (hb.block b hlt)⟩

end Go.Proofs.YtbbmpfkijhhemabGreatDoor

/- The contract of spec.WriteRead. -/
namespace Go.Proofs.YtbbmpfkijhhemabGreatDoor
open Go.ChangeShapes Go.WideShapes Go.ChangeAt Go.RowKit Go.Joins

/-- What reading answers. -/
def ReadAns (w w' : World) (bs : List UInt8) (e : Ending) : Prop :=
  Below w.heap.size w w' ∧ ((∃ x a cp, e = .returned (.tuple #[wrV x.k x.c x.s x.q x.v x.de a x.xs.length cp, .bool true]) ∧ IsText bs x ∧ RowD w' w.heap.size (.slice a x.xs.length cp) x.xs) ∨
    ((∀ x, ¬ IsText bs x) ∧ e = .returned (.tuple #[wrV 0 0 0 0 0 false none 0 0, .bool false])))

set_option maxRecDepth 100000 in
theorem glue_some {W : List ByteArray} {bs : List UInt8} (h : glue W = bs ++ [32]) : 1 ≤ W.length := by
  cases W with
  | nil => simp [glue] at h
  | cons x r => simp

/-- A whole write stored. -/
def put7 (w : World) (R : Nat) (k c s q v : Int) (de : Bool) (x : Option Addr) (l p : Nat) : World := ((((((w.setCell ⟨R, 0, none⟩ (.int .i64 k)).setCell ⟨R, 1, none⟩ (.int .i64 c)).setCell ⟨R, 2, none⟩ (.int .i64 s)).setCell ⟨R, 3, none⟩ (.int .i64 q)).setCell ⟨R, 4, none⟩ (.int .i64 v)).setCell ⟨R, 5, none⟩ (.bool de)).setCell ⟨R, 6, none⟩ (.slice x l p)

set_option maxRecDepth 100000 in
theorem RBox.put7 {w : World} {R : Nat} {k c s q v : Int} {de : Bool} {x : Option Addr} {l p : Nat} (h : RBox w R k c s q v de x l p) (k' c' s' q' v' : Int) (de' : Bool) (x' : Option Addr) (l' p' : Nat) : RBox (put7 w R k' c' s' q' v' de' x' l' p') R k' c' s' q' v' de' x' l' p' :=
  ((((((h.set0 k').set1 c').set2 s').set3 q').set4 v').set5 de').set6 x' l' p'

set_option maxRecDepth 100000 in
theorem Hole.put7 {B : Nat} {w w' : World} (h : Hole B w w') (k c s q v : Int) (de : Bool) (x : Option Addr) (l p : Nat) : Hole B w (put7 w' B k c s q v de x l p) :=
  ((((((h.set 0 _).set 1 _).set 2 _).set 3 _).set 4 _).set 5 _).set 6 _

set_option maxRecDepth 100000 in
set_option maxHeartbeats 8000000 in
theorem read_big (s : ByteArray) (w : World) (hbig : 400 < s.size) (hs : s.size ≤ 1048576) :
    Calls Tryz.prog 84 #[.string s] w fun e w' => ReadAns w w' s.data.toList e := by
  have hdl : s.data.toList.length = s.size := by simp
  have HNO : Hid (∀ x, ¬ IsText s.data.toList x) := fun x hx => by
    have := text_len hx
    omega
  have hb1 : (400 : Int) < (s.size : Int) := by omega
  have HR0 : Hid (RBox (w.alloc (.cells #[.int .i64 0, .int .i64 0, .int .i64 0, .int .i64 0, .int .i64 0, .bool false, .slice none 0 0] 43)) w.heap.size 0 0 0 0 0 false none 0 0) := RBox.start w 0 0 0 0 0 false none 0 0 _
  have HB0 : Hid (Below w.heap.size w (w.alloc (.cells #[.int .i64 0, .int .i64 0, .int .i64 0, .int .i64 0, .int .i64 0, .bool false, .slice none 0 0] 43))) := (Below.refl _ _).alloc (Nat.le_refl _) _
  clear hdl
  go_enter Tryz.func84, Tryz.ntmps84
  go_wp2
  refine bodyPost_ret (v := .tuple #[wrV 0 0 0 0 0 false none 0 0, .bool false]) (by simp [results, Tryz.results84, go_sem]) rfl ?_
  exact ⟨HB0.out, .inr ⟨HNO.out, rfl⟩⟩

set_option maxRecDepth 100000 in
theorem drop_get {W : List ByteArray} {j : Nat} (h : j + 1 < W.length) : (W.drop 1).take (j + 1) = (W.drop 1).take j ++ [W.getD (j + 1) ⟨#[]⟩] := by
  have hl : j < (W.drop 1).length := by simp; omega
  rw [List.take_succ_eq_append_getElem hl]
  simp [List.getD, h]

set_option maxRecDepth 100000 in
theorem StrRow.at {w w' : World} {base g cap : Nat} {W : List ByteArray} (h : StrRow w base g cap W) (hb : Below w.heap.size w w') {k : Nat} (hk : k < W.length) : g < w'.heap.size ∧ w'.cell? ⟨g, k, none⟩ = some (.string (W.getD k ⟨#[]⟩)) := by
  have h' := h.below hb
  refine ⟨h'.lt, ?_⟩
  rw [World.ownsRow.cellAt h'.own k (by omega)]
  simp [List.getD, hk]

set_option maxRecDepth 100000 in
theorem mem_len {x : ByteArray} : ∀ {W : List ByteArray}, x ∈ W → x.size ≤ (glue W).length
  | [], h => by simp at h
  | y :: r, h => by
    have e : glue (y :: r) = (y.data.toList ++ [32]) ++ glue r := by simp [glue]
    rw [e, List.length_append, List.length_append]
    rcases List.mem_cons.1 h with rfl | h'
    · have : x.size = x.data.toList.length := by simp
      omega
    · have := mem_len h'
      omega

set_option maxRecDepth 100000 in
theorem word_at {W : List ByteArray} {k : Nat} (h : k < W.length) : W[k]? = some (W.getD k ⟨#[]⟩) ∧ W.getD k ⟨#[]⟩ ∈ W := by
  have e : W.getD k ⟨#[]⟩ = W[k] := by simp [List.getD, h]
  rw [e]
  exact ⟨List.getElem?_eq_getElem h, List.getElem_mem h⟩

set_option maxRecDepth 100000 in
theorem RBox.below {w w' : World} {B b : Nat} {k c s q v : Int} {de : Bool} {x : Option Addr} {len cap : Nat} (h : RBox w b k c s q v de x len cap) (hb : Below B w w') (hB : b < B) : RBox w' b k c s q v de x len cap :=
  h.of_block hb.size (hb.block b hB)

set_option maxRecDepth 100000 in
theorem parseD_at : ∀ (D : Nat) {l : List Int}, l.length = 4 * D → (parseD l).length = D ∧ ∀ o, o < D → (parseD l).getD o dz = ⟨l.getD (4 * o) 0, l.getD (4 * o + 1) 0, l.getD (4 * o + 2) 0, l.getD (4 * o + 3) 0⟩
  | 0, l, h => by
    obtain rfl := List.length_eq_zero_iff.1 h
    exact ⟨rfl, fun o ho => by omega⟩
  | D + 1, k :: c :: s :: q :: r, h => by
    obtain ⟨h1, h2⟩ := parseD_at D (l := r) (by simp at h; omega)
    refine ⟨by simp [parseD, h1], fun o ho => ?_⟩
    cases o with
    | zero => rfl
    | succ o =>
      have := h2 o (by omega)
      rw [show parseD (k :: c :: s :: q :: r) = ⟨k, c, s, q⟩ :: parseD r from rfl, List.getD_cons_succ, this]
      rw [show 4 * (o + 1) = 4 * o + 1 + 1 + 1 + 1 by omega, show 4 * o + 1 + 1 + 1 + 1 + 1 = (4 * o + 1) + 1 + 1 + 1 + 1 by omega, show 4 * o + 1 + 1 + 1 + 1 + 2 = (4 * o + 2) + 1 + 1 + 1 + 1 by omega, show 4 * o + 1 + 1 + 1 + 1 + 3 = (4 * o + 3) + 1 + 1 + 1 + 1 by omega]
      simp only [List.getD_cons_succ]
  | D + 1, [], h => by simp at h
  | D + 1, [_], h => by simp at h; omega
  | D + 1, [_, _], h => by simp at h; omega
  | D + 1, [_, _, _], h => by simp at h; omega

set_option maxRecDepth 100000 in
theorem drop_getD (zs : List Int) (i k : Nat) : (zs.drop k).getD i 0 = zs.getD (k + i) 0 := by simp [List.getD]

set_option maxRecDepth 100000 in
theorem deps0_of {w : World} {base : Nat} {a : Option Addr} {n cap : Nat} {ds : List Dp} (h : RowD w base (.slice a n cap) ds) : Deps0 w a ds ∧ ds.length = n := by
  obtain ⟨a', c', e, ho⟩ := h.form
  injection e with e1 e2 e3
  subst e1 e2
  refine ⟨?_, rfl⟩
  rcases ho with h0 | ⟨g, h1, -, -, h2, h3, -⟩
  · exact .inl h0
  · exact .inr ⟨g, h1, h2, h3⟩

/-- The write of these numbers. -/
def ParseIs (zs : List Int) (n0 n1 n2 n3 n4 : Int) (de : Bool) : Prop := parseW zs = ⟨n0, n1, n2, n3, n4, de, parseD (zs.drop 7)⟩

set_option maxRecDepth 100000 in
theorem parse_is (zs : List Int) : ParseIs zs (zs.getD 0 0) (zs.getD 1 0) (zs.getD 2 0) (zs.getD 3 0) (zs.getD 4 0) (zs.getD 5 0 == 1) := rfl

/-- A new write's block. -/
def BoxF (lo : Nat) : Fact := fun v w => ∃ b, v = .pointer (some ⟨b, 0, none⟩) ∧ lo ≤ b ∧ RBox w b 0 0 0 0 0 false none 0 0

set_option maxRecDepth 100000 in
theorem lasts_boxR (lo : Nat) : lasts (fun w w' => Below w.heap.size w w') (BoxF lo) := by
  rintro v w w' ⟨b, h1, h2, h3⟩ hr
  exact ⟨b, h1, h2, h3.below hr h3.lt⟩

set_option maxRecDepth 100000 in
theorem box_mk (w : World) (lo : Nat) (h : lo ≤ w.heap.size) : BoxF lo (.pointer (some ⟨w.heap.size, 0, none⟩)) (w.alloc (.cells #[.int .i64 0, .int .i64 0, .int .i64 0, .int .i64 0, .int .i64 0, .bool false, .slice none 0 0] 43)) := ⟨_, rfl, h, RBox.start w 0 0 0 0 0 false none 0 0 _⟩

set_option maxRecDepth 100000 in
theorem row_at {w w' : World} {base : Nat} {b n cap : Nat} {zs : List Int} (h : RowI w base (.slice (some ⟨b, 0, none⟩) n cap) zs) (hb : Below w.heap.size w w') {i : Nat} (hi : i < zs.length) : w'.cell? ⟨b, i, none⟩ = some (.int .i64 (zs.getD i 0)) := by
  obtain ⟨a', c', e, ho⟩ := (h.below hb).form
  injection e with e1 e2 e3
  rcases ho with h0 | ⟨b', h1, -, -, -, hh, -⟩
  · rw [h0] at hi
    simp at hi
  · rw [← e1] at h1
    injection h1 with h1
    injection h1 with h1
    subst h1
    exact hh i hi

set_option maxRecDepth 100000 in
theorem row_some {w : World} {base : Nat} {a : Option Addr} {n cap : Nat} {zs : List Int} (h : RowI w base (.slice a n cap) zs) (hn : 0 < n) : ∃ b, a = some ⟨b, 0, none⟩ ∧ base ≤ b ∧ b < w.heap.size := by
  obtain ⟨a', c', e, ho⟩ := h.form
  injection e with e1 e2 e3
  subst e1 e2
  rcases ho with h0 | ⟨b', h1, h2, -, h3, -⟩
  · rw [h0] at hn
    simp at hn
  · exact ⟨b', h1, h2, h3⟩

set_option maxRecDepth 100000 in
set_option maxHeartbeats 8000000 in
theorem read_small (s : ByteArray) (w : World) (hs : s.size ≤ 400) :
    Calls Tryz.prog 84 #[.string s] w fun e w' => ReadAns w w' s.data.toList e := by
  obtain ⟨i0, hi0, hx0⟩ := Option.map_eq_some_iff.1 infoInt
  simp only [Prod.mk.injEq] at hx0
  have HI0 := Lib.hid hi0
  have HX0 := Lib.hid hx0
  clear hi0 hx0
  have hb1 : ¬ (400 : Int) < (s.size : Int) := by omega
  have HR0 : Hid (RBox (w.alloc (.cells #[.int .i64 0, .int .i64 0, .int .i64 0, .int .i64 0, .int .i64 0, .bool false, .slice none 0 0] 43)) w.heap.size 0 0 0 0 0 false none 0 0) := RBox.start w 0 0 0 0 0 false none 0 0 _
  have HB0 : Hid (Below w.heap.size w (w.alloc (.cells #[.int .i64 0, .int .i64 0, .int .i64 0, .int .i64 0, .int .i64 0, .bool false, .slice none 0 0] 43))) := (Below.refl _ _).alloc (Nat.le_refl _) _
  have hz0 : (w.alloc (.cells #[.int .i64 0, .int .i64 0, .int .i64 0, .int .i64 0, .int .i64 0, .bool false, .slice none 0 0] 43)).heap.size = w.heap.size + 1 := by simp
  go_enter Tryz.func84, Tryz.ntmps84
  go_wp2_with fail
  generalize w.alloc (.cells #[.int .i64 0, .int .i64 0, .int .i64 0, .int .i64 0, .int .i64 0, .bool false, .slice none 0 0] 43) = W0 at *
  refine (words_any s _ (by omega)).mono ?_
  rintro e w1 ⟨gs, cs, W, rfl, hWl, hnb, hgl, hrow, hb⟩
  have HW1 := Lib.hid hb
  have HNB := Lib.hid hnb
  have HGL := Lib.hid hgl
  have HRW := Lib.hid hrow
  have hM1 := glue_some hgl
  obtain ⟨M, hM⟩ : ∃ M, W.length = M := ⟨_, rfl⟩
  have HM := Lib.hid hM
  rw [hM] at hWl hM1 ⊢
  have hsz : W0.heap.size ≤ w1.heap.size := hb.size
  have hgs : gs < w1.heap.size := hrow.lt
  have HRI : Hid (RowI (w1.alloc (.cells #[] 3)) w1.heap.size (.slice (some ⟨w1.heap.size, 0, none⟩) 0 0) []) := World.ownsRow_made w1 #[] 0 (Nat.le_refl _) (by simp [maxLen]) (by simp)
  have HBI : Hid (Below w1.heap.size w1 (w1.alloc (.cells #[] 3))) := (Below.refl _ _).alloc (Nat.le_refl _) _
  have HW2 : Hid (Below W0.heap.size W0 (w1.alloc (.cells #[] 3))) := below_step hb hsz HBI.out
  have HRW2 := Lib.hid (hrow.below HBI.out)
  have hsz2 : w1.heap.size ≤ (w1.alloc (.cells #[] 3)).heap.size := HBI.out.size
  clear hM hb hnb hgl hrow HRW HW1 HBI
  go_wp2
  generalize w1.alloc (.cells #[] 3) = W2 at *
  go_loopw [5, 6] (fun v i wr => ∃ (j : Nat) (a : Option Addr) (cp : Nat) (zs : List Int), j + 1 ≤ M ∧ i = .int .i64 ((j + 1 : Nat) : Int) ∧ v = .slice a j cp ∧ Hid (zs.length = j) ∧ Hid (RowI wr w1.heap.size (.slice a j cp) zs) ∧ Hid (∀ n ∈ zs, Rng n) ∧ Hid ((W.drop 1).take j = zs.map fun n => str (Lib.itoa n)) ∧ Hid (Below w1.heap.size W2 wr)) (fun _ i _ => M - (intOf i).toNat)
  case atStart => exact ⟨0, _, _, [], hM1, rfl, rfl, rfl, HRI, fun n hn => by simp at hn, rfl, Below.refl _ _⟩
  case round =>
    clear HRI
    obtain ⟨j, a, cp, zs, hj, rfl, rfl, HZ, HR, HG, HE, HB⟩ := hrel
    by_cases hj' : j + 1 < M
    · have hjW : j + 1 < W.length := by rw [HM.out]; exact hj'
      obtain ⟨-, hcell0⟩ := HRW2.out.at (Below.refl _ _) hjW
      have hcell := (HB.out.cell (p := ⟨gs, j + 1, none⟩) hgs).trans hcell0
      have hg1 : gs < wr.heap.size := by have := HB.out.size; omega
      obtain ⟨hw1, hw2⟩ := word_at hjW
      have hyl := mem_len hw2
      have hdl : s.data.toList.length = s.size := by simp
      rw [HGL.out, List.length_append, hdl, List.length_singleton] at hyl
      have HTK := Lib.hid (drop_get hjW)
      have HWJ := Lib.hid hw1
      have hy4 : (W.getD (j + 1) ⟨#[]⟩).size ≤ 1048576 := by omega
      have i1 : (0 : Int) ≤ ((j + 1 : Nat) : Int) := by omega
      have i2 : ((j + 1 : Nat) : Int) < (M : Int) := by omega
      clear hw1 hw2 hyl hdl hcell0
      generalize W.getD (j + 1) ⟨#[]⟩ = y at *
      go_wp2_with fail
      refine (num_any y _ hy4).mono ?_
      rintro e w3 ⟨n, b, rfl, hns, hb⟩
      have HNS := Lib.hid hns
      have hswr : w1.heap.size ≤ wr.heap.size := by have := HB.out.size; omega
      have HB3 : Hid (Below w1.heap.size W2 w3) := HB.out.trans (hb.mono hswr)
      have HR3 := Lib.hid (HR.out.below hb)
      have hs3 : w1.heap.size ≤ w3.heap.size := by have := hb.size; omega
      clear hns hb HB HR hcell hg1
      cases b
      · have HNO : Hid (∀ x, ¬ IsText s.data.toList x) := fun x => read_word HNB.out HGL.out HWJ.out HNS.out x
        have HBW0 : Hid (Below W0.heap.size W0 w3) := HW2.out.trans (HB3.out.mono hsz)
        have HBW : Hid (Below w.heap.size w w3) := below_step HB0.out HB0.out.size HBW0.out
        have HX3 := Lib.hid (HR0.out.below HBW0.out (by omega))
        obtain ⟨yl, y0, y1, y2, y3, y4, y5, y6, yf⟩ := HX3.out
        go_wp2
        obtain ⟨X, hX⟩ : ∃ X, put7 w3 w.heap.size 0 0 0 0 0 false none 0 0 = X := ⟨_, rfl⟩
        have HZX : Hid (RBox X w.heap.size 0 0 0 0 0 false none 0 0) := by rw [← hX]; exact HX3.out.put7 0 0 0 0 0 false none 0 0
        have HBX : Hid (Below w.heap.size w X) := by rw [← hX]; exact Hole.below HBW.out ((Hole.refl _ _).put7 0 0 0 0 0 false none 0 0) (Nat.le_refl _) HBW.out.size
        unfold put7 at hX
        rw [hX]
        clear hX
        obtain ⟨zl, z0, z1, z2, z3, z4, z5, z6, zf⟩ := HZX.out
        refine bodyPost_ret (v := .tuple #[wrV 0 0 0 0 0 false none 0 0, .bool false]) (by simp [results, Tryz.results84, go_sem, z0, z1, z2, z3, z4, z5, z6]) rfl ?_
        exact ⟨HBX.out, .inr ⟨HNO.out, rfl⟩⟩
      · have HE3 : Hid (y = str (Lib.itoa n)) := by
          have h1 := HNS.out.2.2.1 rfl
          show y = str (Lib.itoa n)
          rw [← h1]
          simp [str]
        have HG3 : Hid (∀ q ∈ zs ++ [n], Rng q) := fun q hq => by
          rcases List.mem_append.1 hq with h1 | h1
          · exact HG.out q h1
          · obtain rfl := List.mem_singleton.1 h1
            exact ⟨HNS.out.1, HNS.out.2.1⟩
        have HT3 : Hid ((W.drop 1).take (j + 1) = (zs ++ [n]).map fun n => str (Lib.itoa n)) := by
          show _ = _
          rw [HTK.out, HE.out, HE3.out]
          simp
        have HBC : Hid (Below w3.heap.size w3 (w3.alloc (.cells #[.int .i64 n] 3))) := (Below.refl _ _).alloc (Nat.le_refl _) _
        have HRC : Hid ((w3.alloc (.cells #[.int .i64 n] 3)).ownsRow w1.heap.size 3 1 (.slice a j cp) j (zs.map intV)) := by
          have h1 := HR3.out.below HBC.out
          unfold RowI at h1
          rw [HZ.out] at h1
          exact h1
        have HCC := Lib.hid (oneI_cells w3 3 n)
        clear HR3 HG HE HTK HNS
        go_wp2_with (at_builtin; refine wpList_append_lies _ (by rfl) _ _ _ (by rfl) w1.heap.size 3 i0 (.int .i64 0) 1 8 Tryz.underlying138 HI0.out HX0.out.1 HX0.out.2.1 HX0.out.2.2 (by rfl) (by omega) (.slice a j cp) j (zs.map intV) (by rfl) HRC.out ⟨w3.heap.size, 0, none⟩ 1 1 [intV n] (by rfl) (by rfl) HCC.out (intV_one [n]) (by omega) (by unfold maxLen; omega) (by omega) (by simp; omega) _ rfl ?_; intro g3 cp3 w5 hown hgrow hg3 _; refine Hid.out ?_)
        refine Lib.hid ?_
        have hb5 : Below w1.heap.size w3 w5 := (HBC.out.mono hs3).grown hgrow (by simp; omega) fun q hq => (World.ownsRow.lt HRC.out q hq).1
        have HR5 : Hid (RowI w5 w1.heap.size (.slice (some ⟨g3, 0, none⟩) (j + 1) cp3) (zs ++ [n])) := by
          unfold RowI
          rw [List.length_append, List.map_append, HZ.out]
          exact hown
        have HZ5 : Hid ((zs ++ [n]).length = j + 1) := by
          show _ = _
          rw [List.length_append, HZ.out]
          rfl
        have HB5 := Lib.hid (HB3.out.trans hb5)
        clear hown hgrow hb5 HRC HBC HCC
        go_wp2
        exact ⟨⟨j + 1, _, _, zs ++ [n], by omega, by go_num, rfl, HZ5, HR5, HG3, HT3, HB5⟩, by simp [intOf]; omega⟩
    · have hjM : j + 1 = M := by omega
      have HAL : Hid (W.drop 1 = zs.map fun n => str (Lib.itoa n)) := by
        have h1 := HE.out
        rw [List.take_of_length_le (by rw [List.length_drop, HM.out]; omega)] at h1
        exact h1
      have HBW0 : Hid (Below W0.heap.size W0 wr) := HW2.out.trans (HB.out.mono hsz)
      have HBW : Hid (Below w.heap.size w wr) := below_step HB0.out HB0.out.size HBW0.out
      have HX3 := Lib.hid (HR0.out.below HBW0.out (by omega))
      have hm4 : Int.tmod (j : Int) 4 = ((j % 4 : Nat) : Int) := rfl
      have j0 : ¬ ((j + 1 : Nat) : Int) < (M : Int) := by omega
      by_cases hc : j < 7
      · have HNO : Hid (∀ x, ¬ IsText s.data.toList x) := fun x => read_count HNB.out HGL.out HAL.out HG.out (.inl (by rw [HZ.out]; exact hc)) x
        have c1 : (j : Int) < 7 := by omega
        obtain ⟨yl, y0, y1, y2, y3, y4, y5, y6, yf⟩ := HX3.out
        go_wp2
        obtain ⟨X, hX⟩ : ∃ X, put7 wr w.heap.size 0 0 0 0 0 false none 0 0 = X := ⟨_, rfl⟩
        have HZX : Hid (RBox X w.heap.size 0 0 0 0 0 false none 0 0) := by rw [← hX]; exact HX3.out.put7 0 0 0 0 0 false none 0 0
        have HBX : Hid (Below w.heap.size w X) := by rw [← hX]; exact Hole.below HBW.out ((Hole.refl _ _).put7 0 0 0 0 0 false none 0 0) (Nat.le_refl _) HBW.out.size
        unfold put7 at hX
        rw [hX]
        clear hX
        obtain ⟨zl, z0, z1, z2, z3, z4, z5, z6, zf⟩ := HZX.out
        refine bodyPost_ret (v := .tuple #[wrV 0 0 0 0 0 false none 0 0, .bool false]) (by simp [results, Tryz.results84, go_sem, z0, z1, z2, z3, z4, z5, z6]) rfl ?_
        exact ⟨HBX.out, .inr ⟨HNO.out, rfl⟩⟩
      by_cases hd : j % 4 = 3
      rotate_left
      · have HNO : Hid (∀ x, ¬ IsText s.data.toList x) := fun x => read_count HNB.out HGL.out HAL.out HG.out (.inr (by rw [HZ.out]; exact hd)) x
        have c1 : ¬ (j : Int) < 7 := by omega
        have c2 : ¬ ((j % 4 : Nat) : Int) = 3 := by omega
        obtain ⟨yl, y0, y1, y2, y3, y4, y5, y6, yf⟩ := HX3.out
        go_wp2
        obtain ⟨X, hX⟩ : ∃ X, put7 wr w.heap.size 0 0 0 0 0 false none 0 0 = X := ⟨_, rfl⟩
        have HZX : Hid (RBox X w.heap.size 0 0 0 0 0 false none 0 0) := by rw [← hX]; exact HX3.out.put7 0 0 0 0 0 false none 0 0
        have HBX : Hid (Below w.heap.size w X) := by rw [← hX]; exact Hole.below HBW.out ((Hole.refl _ _).put7 0 0 0 0 0 false none 0 0) (Nat.le_refl _) HBW.out.size
        unfold put7 at hX
        rw [hX]
        clear hX
        obtain ⟨zl, z0, z1, z2, z3, z4, z5, z6, zf⟩ := HZX.out
        refine bodyPost_ret (v := .tuple #[wrV 0 0 0 0 0 false none 0 0, .bool false]) (by simp [results, Tryz.results84, go_sem, z0, z1, z2, z3, z4, z5, z6]) rfl ?_
        exact ⟨HBX.out, .inr ⟨HNO.out, rfl⟩⟩
      obtain ⟨g, rfl, hgb, hgl⟩ := row_some HR.out (show 0 < j by omega)
      have hzl : 7 ≤ zs.length := by rw [HZ.out]; omega
      have j1 : (1 : Int) < (j : Int) := by omega
      have j2 : (2 : Int) < (j : Int) := by omega
      have j3 : (3 : Int) < (j : Int) := by omega
      have j4 : (4 : Int) < (j : Int) := by omega
      have j5 : (5 : Int) < (j : Int) := by omega
      have j6 : 0 < j := by omega
      have j7 : ¬ (j : Int) < 7 := by omega
      have j8 : ((j % 4 : Nat) : Int) = 3 := by omega
      have HCE : Hid (∀ w', Below wr.heap.size wr w' → w'.cell? ⟨g, 0, none⟩ = some (.int .i64 (zs.getD 0 0)) ∧ w'.cell? ⟨g, 1, none⟩ = some (.int .i64 (zs.getD 1 0)) ∧ w'.cell? ⟨g, 2, none⟩ = some (.int .i64 (zs.getD 2 0)) ∧ w'.cell? ⟨g, 3, none⟩ = some (.int .i64 (zs.getD 3 0)) ∧ w'.cell? ⟨g, 4, none⟩ = some (.int .i64 (zs.getD 4 0)) ∧ w'.cell? ⟨g, 5, none⟩ = some (.int .i64 (zs.getD 5 0))) := fun w' hb => ⟨row_at HR.out hb (by omega), row_at HR.out hb (by omega), row_at HR.out hb (by omega), row_at HR.out hb (by omega), row_at HR.out hb (by omega), row_at HR.out hb (by omega)⟩
      have HPW := Lib.hid (parse_is zs)
      generalize zs.getD 0 0 = n0 at *
      generalize zs.getD 1 0 = n1 at *
      generalize zs.getD 2 0 = n2 at *
      generalize zs.getD 3 0 = n3 at *
      generalize zs.getD 4 0 = n4 at *
      generalize zs.getD 5 0 = n5 at *
      go_wp2_with fail
      refine wp_region_slots 22 [[(5, false)], [(49, true)], [(50, true)], [(5, false)], [(52, true)], [(53, true)], [(5, false)], [(55, true)], [(56, true)], [(5, false)], [(58, true)], [(59, true)], [(54, true), (57, true), (60, true)], [(5, false)], [(62, true)], [(63, true)], [(5, false)], [(65, true)], [(66, true)], [(67, true)], [(51, true), (61, true), (64, true), (68, true)], []] (fun w' => Below wr.heap.size wr w') (fun w w' => Below w.heap.size w w') (by kernel_rfl) (by kernel_rfl) (by rfl) (Below.refl _ _).drew (fun _ _ h hr => below_step h h.size hr) ?_
      iterate 21 (apply slot_eq; · (intro ρ w' ⟨p1, p2, p3⟩ hS hn; obtain ⟨e0, e1, e2, e3, e4, e5⟩ := HCE.out w' hS; simp at hn; go_simp; exact ⟨Below.refl _ _, rfl⟩))
      refine slot_fact (BoxF wr.heap.size) (lasts_boxR _) ?_ ?_
      · intro ρ w' ⟨p1, p2, p3⟩ hS hn
        have hsz := hS.size
        go_simp
        exact ⟨(Below.refl _ _).alloc (Nat.le_refl _) _, box_mk w' _ hsz⟩
      refine slot_end ?_
      intro tv w4 hS hF
      simp at hF
      obtain ⟨⟨T, f9, hTl, hbox⟩, f69, f68, f67, f66, f65, f64, f63, f62, f61, f60, f59, f58, f57, f56, f55, f54, f53, f52, f51, f50, f49⟩ := hF
      have hs4 : wr.heap.size ≤ w4.heap.size := hS.size
      have HBX := Lib.hid hbox
      have HR4 := Lib.hid (HR.out.below hS)
      have HX4 := Lib.hid (HX3.out.below hS HX3.out.lt)
      have hR0 := HX3.out.lt
      have HBW4 : Hid (Below w.heap.size w w4) := below_step HBW.out HBW.out.size hS
      simp only [List.take_succ_cons, List.take_zero, List.drop_succ_cons, List.drop_zero, putAll, f9, f69, f68, f67, f66, f65, f64, f63, f62, f61, f60, f59, f58, f57, f56, f55, f54, f53, f52, f51, f50, f49]
      clear f9 f69 f68 f67 f66 f65 f64 f63 f62 f61 f60 f59 f58 f57 f56 f55 f54 f53 f52 f51 f50 f49 hS hbox HR HX3 HBW HBW0 HCE HE HB
      simp only [Act.put, List.setIfInBounds_toArray, List.set_cons_succ, List.set_cons_zero]
      obtain ⟨yl, y0, y1, y2, y3, y4, y5, y6, yf⟩ := HBX.out
      go_wp2
      obtain ⟨Wl, hWl⟩ : ∃ Wl, put7 w4 T n0 n1 n2 n3 n4 (n5 == 1) none 0 0 = Wl := ⟨_, rfl⟩
      have HHL : Hid (Hole T w4 Wl) := by rw [← hWl]; exact (Hole.refl _ _).put7 _ _ _ _ _ _ _ _ _
      have HBL : Hid (RBox Wl T n0 n1 n2 n3 n4 (n5 == 1) none 0 0) := by rw [← hWl]; exact HBX.out.put7 _ _ _ _ _ _ _ _ _
      unfold put7 at hWl
      rw [hWl]
      clear hWl y0 y1 y2 y3 y4 y5 y6 yf
      have hgT : g ≠ T := by omega
      have hTl4 : T < w4.heap.size := HBX.out.lt
      have HRL : Hid (RowI Wl w1.heap.size (.slice (some ⟨g, 0, none⟩) j cp) zs) := World.ownsRow.kept (row := some T) HR4.out ⟨HHL.out.os, HHL.out.tape, HHL.out.output, HHL.out.size, fun k hk hn => HHL.out.block k hk (fun e => hn (by rw [e]))⟩ (.inr (by simp [Value.ownBlock]; exact hgT))
      have HXL := Lib.hid (HX4.out.hole HHL.out (by omega))
      have HBWL : Hid (Below w.heap.size w Wl) := Hole.below HBW4.out HHL.out (by omega) HBW4.out.size
      have hsl : w4.heap.size ≤ Wl.heap.size := HHL.out.size
      obtain ⟨D, hD⟩ : ∃ D, j = 7 + 4 * D := ⟨(j - 7) / 4, by omega⟩
      obtain ⟨hd1, hd2⟩ := parseD_at D (l := zs.drop 7) (by rw [List.length_drop, HZ.out]; omega)
      obtain ⟨ds, hds⟩ : ∃ ds, parseD (zs.drop 7) = ds := ⟨_, rfl⟩
      rw [hds] at hd1 hd2
      have HDS := Lib.hid hds
      have HDN := Lib.hid hd1
      have HDA : Hid (∀ o, o < D → ds.getD o dz = ⟨zs.getD (7 + 4 * o) 0, zs.getD (7 + 4 * o + 1) 0, zs.getD (7 + 4 * o + 2) 0, zs.getD (7 + 4 * o + 3) 0⟩) := fun o ho => by
        rw [hd2 o ho]
        simp only [drop_getD, Nat.add_assoc]
      have HJD := Lib.hid hD
      have hD100 : D ≤ 100 := by omega
      obtain ⟨i1, hi1, hx1⟩ := Option.map_eq_some_iff.1 infoDep
      simp only [Prod.mk.injEq] at hx1
      have HI1 := Lib.hid hi1
      have HX1 := Lib.hid hx1
      clear hi1 hx1 hd1 hd2 hds hD HBX HR4 HX4 HBW4 HHL yl
      go_loopw [10] (fun i wr => ∃ (o p : Nat) (x : Option Addr) (cpd : Nat), o ≤ D ∧ Hid (p = 7 + 4 * o) ∧ i = .int .i64 p ∧ Hid (Hole T Wl wr) ∧ Hid (RBox wr T n0 n1 n2 n3 n4 (n5 == 1) x o cpd) ∧ Hid (RowD wr Wl.heap.size (.slice x o cpd) (ds.take o))) (fun i _ => j - (intOf i).toNat)
      case atStart => exact ⟨0, 7, none, 0, Nat.zero_le _, rfl, rfl, Hole.refl _ _, HBL, World.ownsRow_nil _ _ _ _⟩
      case round =>
        obtain ⟨o, p, x, cpd, ho, HP, rfl, HH, HX, HRD⟩ := hrel
        have hp := HP.out
        have hjD := HJD.out
        by_cases ho' : o < D
        · have p0 : (0 : Int) ≤ (p : Int) := by omega
          have p1 : (p : Int) < (j : Int) := by omega
          have q1 : (0 : Int) ≤ (p : Int) + 1 := by omega
          have q2 : (0 : Int) ≤ (p : Int) + 2 := by omega
          have q3 : (0 : Int) ≤ (p : Int) + 3 := by omega
          have r1 : (p : Int) + 1 < (j : Int) := by omega
          have r2 : (p : Int) + 2 < (j : Int) := by omega
          have r3 : (p : Int) + 3 < (j : Int) := by omega
          have v1 : IntKind.i64.wrap ((p : Int) + 1) = (p : Int) + 1 := by rw [IntKind.wrap_i64]; omega
          have v2 : IntKind.i64.wrap ((p : Int) + 2) = (p : Int) + 2 := by rw [IntKind.wrap_i64]; omega
          have v3 : IntKind.i64.wrap ((p : Int) + 3) = (p : Int) + 3 := by rw [IntKind.wrap_i64]; omega
          have t1 : ((p : Int) + 1).toNat = p + 1 := by omega
          have t2 : ((p : Int) + 2).toNat = p + 2 := by omega
          have t3 : ((p : Int) + 3).toNat = p + 3 := by omega
          have hTl2 : T < Wl.heap.size := by omega
          have hgl2 : g < Wl.heap.size := by omega
          have HDE := Lib.hid (HDA.out o ho')
          have HCE : Hid (∀ w', Hole T Wl w' → w'.cell? ⟨g, p, none⟩ = some (.int .i64 (zs.getD (7 + 4 * o) 0)) ∧ w'.cell? ⟨g, p + 1, none⟩ = some (.int .i64 (zs.getD (7 + 4 * o + 1) 0)) ∧ w'.cell? ⟨g, p + 2, none⟩ = some (.int .i64 (zs.getD (7 + 4 * o + 2) 0)) ∧ w'.cell? ⟨g, p + 3, none⟩ = some (.int .i64 (zs.getD (7 + 4 * o + 3) 0))) := fun w' hh => by
            rw [HP.out]
            have hl : zs.length = j := HZ.out
            exact ⟨(hh.cell hgl2 hgT).trans (row_at HRL.out (Below.refl _ _) (by omega)), (hh.cell hgl2 hgT).trans (row_at HRL.out (Below.refl _ _) (by omega)), (hh.cell hgl2 hgT).trans (row_at HRL.out (Below.refl _ _) (by omega)), (hh.cell hgl2 hgT).trans (row_at HRL.out (Below.refl _ _) (by omega))⟩
          generalize zs.getD (7 + 4 * o) 0 = yk at *
          generalize zs.getD (7 + 4 * o + 1) 0 = yc at *
          generalize zs.getD (7 + 4 * o + 2) 0 = ys at *
          generalize zs.getD (7 + 4 * o + 3) 0 = yq at *
          have HTK : Hid (ds.take (o + 1) = ds.take o ++ [⟨yk, yc, ys, yq⟩]) := by
            have hol : o < ds.length := by rw [HDN.out]; exact ho'
            rw [← HDE.out]
            show _ = _
            rw [List.take_succ_eq_append_getElem hol]
            simp [List.getD, hol]
          have HTL : Hid ((ds.take o).length = o) := by
            show _ = _
            rw [List.length_take, HDN.out]
            omega
          have HOB : Hid (∀ b, (Value.slice x o cpd).ownBlock = some b → Wl.heap.size ≤ b ∧ b < wr.heap.size) := fun b hb => World.ownsRow.lt HRD.out b hb
          have HPP : Hid (p + 4 = 7 + 4 * (o + 1)) := by show _ = _; omega
          clear HDE hp hjD HP
          go_wp2_with fail
          refine wp_region_slots_u 26 [[(9, false)], [(76, true)], [(5, false)], [(10, false)], [(78, true), (79, true)], [(80, true)], [(5, false)], [(10, false)], [(83, true)], [(82, true), (84, true)], [(85, true)], [(5, false)], [(10, false)], [(88, true)], [(87, true), (89, true)], [(90, true)], [(5, false)], [(10, false)], [(93, true)], [(92, true), (94, true)], [(95, true)], [(86, true), (91, true), (96, true)], [(81, true), (97, true)], [(98, true)], [(77, true), (99, true)], [(9, false)]] (StQ (n5 == 1) Wl T n0 n1 n2 n3 n4 x o cpd wr.heap.size) (StQ (n5 == 1) Wl T n0 n1 n2 n3 n4 x o cpd wr.heap.size) (fun _ => StQ (n5 == 1) Wl T n0 n1 n2 n3 n4 x o cpd wr.heap.size) (fun d w' => d = some 100 → RowD w' Wl.heap.size (.slice x o cpd) (ds.take o)) (fun _ => none) (AppQ 100 (Value.slice x o cpd).ownBlock) (by kernel_rfl) (by kernel_rfl) (by rfl) ⟨HH.out.drew, HX.out.drew, Nat.le_refl _⟩ (by kernel_rfl) (fun _ _ => HRD.out.below (Below.refl _ _).drew) (fun _ h => by cases h) (fun d d' hd w w' h1 h2 h3 => (h1 h3).below (appQ_below (h3 ▸ hd) h2)) (fun _ _ _ _ _ _ h => by cases h) (fun d _ w w' h1 h2 => stQ_step HOB.out hTl2 h1 h2) (fun _ _ _ h => h) (fun _ _ _ h => h) ?_
          have HRF : Hid (∀ (d : Option Tmp) (w : World), d ≠ some 100 → AppQ 100 (Value.slice x o cpd).ownBlock d w w) := fun d w hd => appQ_refl hd w
          iterate 23 (apply slotU_eq; · (intro ρ w' ⟨p1, p2, p3⟩ ⟨hH, hX, hlo'⟩ hEE hn; obtain ⟨s0, s1, s2, s3⟩ := HCE.out w' hH; have y6 := hX.c6; simp at hn; go_simp; exact ⟨HRF.out _ _ (by simp), rfl⟩))
          refine slotU_fact (DepNewQ (Value.slice x o cpd).ownBlock ⟨yk, yc, ys, yq⟩) (lasts_depNewQ _ _ _ _ _) ?_ ?_
          · intro ρ w' ⟨p1, p2, p3⟩ ⟨hH, hX, hlo'⟩ hEE hn
            simp at hn
            go_simp
            exact ⟨appQ_alloc (by simp) _ _, _, rfl, by simp, fun e => by have := (HOB.out _ e).2; omega, oneD_cells _ _ ⟨yk, yc, ys, yq⟩⟩
          refine slotU_fact (DepRowQ Wl.heap.size o (ds.take o ++ [⟨yk, yc, ys, yq⟩])) (lasts_depRowQ _ _ _ _ _ _) ?_ ?_
          · intro ρ w' ⟨p1, p2, p3⟩ ⟨hH, hX, hlo'⟩ hEE hn
            simp at hn
            obtain ⟨f77, g', f99, hg3, hg4, hg5⟩ := hn
            have hown := hEE rfl
            unfold RowD at hown
            rw [HTL.out] at hown
            refine got_append (.tmp 77) (.tmp 99) _ rfl Wl.heap.size 65 i1 (depV 0 0 0 0) 4 32 Tryz.underlying41 HI1.out HX1.out.1 HX1.out.2.1 HX1.out.2.2 (by rfl) (by omega) (.slice x o cpd) o ((ds.take o).flatMap dpVals) f77 hown ⟨g', 0, none⟩ 1 1 (dpVals ⟨yk, yc, ys, yq⟩) f99 (by rfl) hg5 (dp_one _) (by omega) (by unfold maxLen; omega) (by omega) (Nat.le_trans HH.out.size hlo') _ rfl ?_
            intro g3 cp3 w5 h1 h2 h3 h4
            refine ⟨appQ_grown h2, g3, cp3, rfl, ?_⟩
            unfold RowD
            rw [List.length_append, List.flatMap_append, HTL.out]
            simpa using h1
          iterate 1 (apply slotU_eq; · (intro ρ w' ⟨p1, p2, p3⟩ ⟨hH, hX, hlo'⟩ hEE hn; simp at hn; go_simp; exact ⟨HRF.out _ _ (by simp), rfl⟩))
          refine slotU_end ?_
          rintro vs w5 ⟨hH, hX, hlo'⟩ hF
          simp at hF
          obtain ⟨f101, ⟨g3, cp3, f100, hrow⟩, ⟨g', f99, -, -, -⟩, f98, f97, f96, f95, f94, f93, f92, f91, f90, f89, f88, f87, f86, f85, f84, f83, f82, f81, f80, f79, f78, f77, f76⟩ := hF
          have HRW := Lib.hid hrow
          have HHH := Lib.hid hH
          have HXX := Lib.hid hX
          clear hH hX hlo' hrow HRF HOB HH HX HRD HCE
          simp only [List.take_succ_cons, List.take_zero, List.drop_succ_cons, List.drop_zero, putAll, f101, f100, f99, f98, f97, f96, f95, f94, f93, f92, f91, f90, f89, f88, f87, f86, f85, f84, f83, f82, f81, f80, f79, f78, f77, f76]
          clear f101 f100 f99 f98 f97 f96 f95 f94 f93 f92 f91 f90 f89 f88 f87 f86 f85 f84 f83 f82 f81 f80 f79 f78 f77 f76
          simp only [Act.put, List.setIfInBounds_toArray, List.set_cons_succ, List.set_cons_zero]
          have y6 := HXX.out.c6
          have yf := HXX.out.fz
          have HH5 : Hid (Hole T Wl (w5.setCell ⟨T, 6, none⟩ (.slice (some ⟨g3, 0, none⟩) (o + 1) cp3))) := HHH.out.set 6 _
          have HX5 : Hid (RBox (w5.setCell ⟨T, 6, none⟩ (.slice (some ⟨g3, 0, none⟩) (o + 1) cp3)) T n0 n1 n2 n3 n4 (n5 == 1) (some ⟨g3, 0, none⟩) (o + 1) cp3) := HXX.out.set6 _ _ _
          have HR5 : Hid (RowD (w5.setCell ⟨T, 6, none⟩ (.slice (some ⟨g3, 0, none⟩) (o + 1) cp3)) Wl.heap.size (.slice (some ⟨g3, 0, none⟩) (o + 1) cp3) (ds.take (o + 1))) := by
            rw [HTK.out]
            exact ownsRow_setCell_below (a := ⟨T, 6, none⟩) HRW.out hTl2 _
          clear HHH HXX HRW
          go_wp2
          exact ⟨⟨o + 1, p + 4, some ⟨g3, 0, none⟩, cp3, by omega, HPP, by go_num, HH5, HX5, HR5⟩, by simp [intOf]; omega⟩
        · have hoD : o = D := by omega
          subst o
          have hpj : p = j := by omega
          subst p
          have HRW : Hid (RowD wr Wl.heap.size (.slice x D cpd) ds) := by
            have h1 := HRD.out
            rw [List.take_of_length_le (by rw [HDN.out]; exact Nat.le_refl _)] at h1
            exact h1
          have HXW := Lib.hid (HXL.out.hole HH.out (by omega))
          have HBWW : Hid (Below w.heap.size w wr) := Hole.below HBWL.out HH.out (by omega) HBWL.out.size
          have hl0 : w.heap.size < Wl.heap.size := by omega
          have hsp : 0 < s.size := by omega
          have hnl : s.data.toList ≠ [] := by
            intro h1
            have e : s.data.toList.length = s.size := by simp
            rw [h1, List.length_nil] at e
            omega
          have HNL := Lib.hid hnl
          have hs1 : (s.toList == (⟨#[]⟩ : ByteArray).toList) = false := by
            rw [beq_eq_false_iff_ne, ByteArray.toList_eq, ByteArray.toList_eq]
            exact fun h1 => hnl (h1.trans rfl)
          have hs2 : (s.toList == []) = false := by
            rw [beq_eq_false_iff_ne, ByteArray.toList_eq]
            exact hnl
          clear hnl
          have HPZ : Hid (parseW zs = ⟨n0, n1, n2, n3, n4, n5 == 1, ds⟩) := by
            have h1 := HPW.out
            unfold ParseIs at h1
            rw [HDS.out] at h1
            exact h1
          have HTX := Lib.hid HX.out
          clear HH HX HRD HXL HBWL HBL HRL HDS HDA HPW hp hjD
          obtain ⟨tl, t0, t1, t2, t3, t4, t5, t6, tf⟩ := HTX.out
          go_wp2_with fail
          refine (specText_gen n0 n1 n2 n3 n4 (n5 == 1) x ds D cpd _ HDN.out (by omega) (deps0_of HRW.out).1).mono ?_
          rintro e w6 ⟨rfl, hb⟩
          have HRW6 := Lib.hid (HRW.out.below hb)
          have HX6 := Lib.hid (HXW.out.below hb HXW.out.lt)
          have HT6 := Lib.hid (HTX.out.below hb HTX.out.lt)
          have HBW6 : Hid (Below w.heap.size w w6) := below_step HBWW.out HBWW.out.size hb
          obtain ⟨S, hS⟩ : ∃ S, str (writeText n0 n1 n2 n3 n4 (n5 == 1) ds) = S := ⟨_, rfl⟩
          have HSS := Lib.hid hS
          rw [hS]
          clear hb hS t0 t1 t2 t3 t4 t5 t6 tf tl HRW HXW HTX HBWW
          obtain ⟨yl, y0, y1, y2, y3, y4, y5, y6, yf⟩ := HX6.out
          by_cases hq : S = s
          · rw [hq] at HSS ⊢
            clear hq
            obtain ⟨tl, t0, t1, t2, t3, t4, t5, t6, tf⟩ := HT6.out
            have HTXT : Hid (IsText s.data.toList ⟨n0, n1, n2, n3, n4, n5 == 1, ds⟩) := by
              refine read_yes ?_ ?_
              · have h1 := HSS.out
                show writeText n0 n1 n2 n3 n4 (n5 == 1) ds = s.data.toList
                rw [← h1]
                simp [str]
              · exact HNL.out
            have HTQ := Lib.hid (HRW6.out.holeQ ((Hole.refl w.heap.size w6).put7 n0 n1 n2 n3 n4 (n5 == 1) x D cpd) hl0)
            go_wp2
            obtain ⟨X, hX⟩ : ∃ X, put7 w6 w.heap.size n0 n1 n2 n3 n4 (n5 == 1) x D cpd = X := ⟨_, rfl⟩
            have HZX : Hid (RBox X w.heap.size n0 n1 n2 n3 n4 (n5 == 1) x D cpd) := by rw [← hX]; exact HX6.out.put7 n0 n1 n2 n3 n4 (n5 == 1) x D cpd
            have HBX : Hid (Below w.heap.size w X) := by rw [← hX]; exact Hole.below HBW6.out ((Hole.refl _ _).put7 n0 n1 n2 n3 n4 (n5 == 1) x D cpd) (Nat.le_refl _) HBW6.out.size
            have HQX : Hid (RowD X w.heap.size (.slice x ds.length cpd) ds) := by
              rw [hX] at HTQ
              rw [HDN.out]
              exact HTQ.out.mono (Nat.le_of_lt hl0)
            unfold put7 at hX
            rw [hX]
            clear hX HTQ
            obtain ⟨zl, z0, z1, z2, z3, z4, z5, z6, zf⟩ := HZX.out
            refine bodyPost_ret (v := .tuple #[wrV n0 n1 n2 n3 n4 (n5 == 1) x D cpd, .bool true]) (by simp [results, Tryz.results84, go_sem, z0, z1, z2, z3, z4, z5, z6]) rfl ?_
            exact ⟨HBX.out, .inl ⟨⟨n0, n1, n2, n3, n4, n5 == 1, ds⟩, x, cpd, by rw [HDN.out], HTXT.out, HQX.out⟩⟩
          · have HNO : Hid (∀ x, ¬ IsText s.data.toList x) := fun x => read_other HNB.out HGL.out HAL.out HG.out (by
              rw [HPZ.out]
              intro h1
              apply hq
              rw [← HSS.out]
              have h2 : writeText n0 n1 n2 n3 n4 (n5 == 1) ds = s.data.toList := h1
              rw [h2]
              simp [str]) x
            have hq' : (S.toList == s.toList) = false := by
              rw [beq_eq_false_iff_ne, ByteArray.toList_eq, ByteArray.toList_eq]
              intro h1
              apply hq
              cases S
              cases s
              simp at h1
              rw [h1]
            go_wp2
            obtain ⟨X, hX⟩ : ∃ X, put7 w6 w.heap.size 0 0 0 0 0 false none 0 0 = X := ⟨_, rfl⟩
            have HZX : Hid (RBox X w.heap.size 0 0 0 0 0 false none 0 0) := by rw [← hX]; exact HX6.out.put7 0 0 0 0 0 false none 0 0
            have HBX : Hid (Below w.heap.size w X) := by rw [← hX]; exact Hole.below HBW6.out ((Hole.refl _ _).put7 0 0 0 0 0 false none 0 0) (Nat.le_refl _) HBW6.out.size
            unfold put7 at hX
            rw [hX]
            clear hX
            obtain ⟨zl, z0, z1, z2, z3, z4, z5, z6, zf⟩ := HZX.out
            refine bodyPost_ret (v := .tuple #[wrV 0 0 0 0 0 false none 0 0, .bool false]) (by simp [results, Tryz.results84, go_sem, z0, z1, z2, z3, z4, z5, z6]) rfl ?_
            exact ⟨HBX.out, .inr ⟨HNO.out, rfl⟩⟩

set_option maxRecDepth 100000 in
theorem specRead_any (s : ByteArray) (w : World) (hs : s.size ≤ 1048576) :
    Calls Tryz.prog 84 #[.string s] w fun e w' => ReadAns w w' s.data.toList e := by
  by_cases h : 400 < s.size
  · exact read_big s w h hs
  · exact read_small s w (by omega)

end Go.Proofs.YtbbmpfkijhhemabGreatDoor

/- A batch's head in words, and a batch in a block of its own: plain facts for spec.l06Batch. -/
namespace Go.Proofs.YtbbmpfkijhhemabGreatDoor
open Go.ChangeShapes Go.WideShapes Go.ChangeAt Go.RowKit Go.Joins

/-- A batch in a block of its own. -/
structure BBox (w : World) (b : Nat) (v : Value) : Prop where
  lt : b < w.heap.size
  c0 : w.cell? ⟨b, 0, none⟩ = some v
  fz : ∀ o, w.frozen? ⟨b, o, none⟩ = false

set_option maxRecDepth 100000 in
theorem BBox.of_block {w w' : World} {b : Nat} {v : Value} (h : BBox w b v) (hs : w.heap.size ≤ w'.heap.size) (hb : w'.heap[b]? = w.heap[b]?) : BBox w' b v :=
  ⟨Nat.lt_of_lt_of_le h.lt hs, (World.cell?_of_block (a := ⟨b, 0, none⟩) hb).trans h.c0, fun o => (frozen_ofb hb).trans (h.fz o)⟩

set_option maxRecDepth 100000 in
theorem BBox.below {w w' : World} {b : Nat} {v : Value} (h : BBox w b v) (hb : Below w.heap.size w w') : BBox w' b v := h.of_block hb.size (hb.block b h.lt)

set_option maxRecDepth 100000 in
theorem BBox.set {w : World} {b : Nat} {v : Value} (h : BBox w b v) (u : Value) : BBox (w.setCell ⟨b, 0, none⟩ u) b u :=
  ⟨by simpa [World.setCell] using h.lt, cell_set_same h.c0, fun o => by rw [World.frozen?_setCell]; exact h.fz o⟩

set_option maxRecDepth 100000 in
theorem BBox.setOther {w : World} {b c : Nat} {v : Value} (h : BBox w b v) (hc : b ≠ c) (u : Value) : BBox (w.setCell ⟨c, 0, none⟩ u) b v :=
  h.of_block ((Hole.refl c w).set 0 u).size (((Hole.refl c w).set 0 u).block b h.lt hc)

set_option maxRecDepth 100000 in
theorem RowG.holeQ {w w' : World} {B base : Nat} {v : Value} {es : List EnG} (h : RowG w base v es) (hh : Hole B w w') (hB : B < base) : RowG w' base v es where
  own := World.ownsRow.kept (row := some B) h.own ⟨hh.os, hh.tape, hh.output, hh.size, fun k hk hn => hh.block k hk (fun e => hn (by rw [e]))⟩ (by
    by_cases e : v.ownBlock = none
    · exact .inl e
    · refine .inr fun e2 => ?_
      have := (World.ownsRow.lt h.own B e2).1
      omega)
  deps := fun e he => ⟨(h.deps e he).1.of_block hh.size fun hp => hh.block e.g ((h.deps e he).1 hp).2.2.1 (fun e2 => by
    have := ((h.deps e he).1 hp).2.1
    omega), (h.deps e he).2⟩
  apart := h.apart

set_option maxRecDepth 100000 in
/-- The words of a batch's head. -/
theorem head_words {W : List ByteArray} {m : Nat} (hm : m ≤ 6) (hb : NoBlank W) (hg : glue W = headB m ++ [32]) : W = [str [98, 97, 116, 99, 104], str (Lib.itoa m)] := by
  refine glue_inj hb ?_ ?_
  · intro x hx
    rcases List.mem_cons.1 hx with rfl | hx
    · simp [str]
    · obtain rfl : x = str (Lib.itoa m) := by simpa using hx
      exact no_blank_num (n := (m : Int)) ⟨by omega, by omega⟩
  · rw [hg]
    simp [glue, headB, str]

set_option maxRecDepth 100000 in
/-- What is said of every batch whose text begins here, behind the head and k writes. -/
def Sofar (t : List UInt8) (n k p : Nat) (xs : List Wr) (r : List UInt8) : Prop := ∀ ws, ValidAt t ws → ws.length = n ∧ ws.take k = xs ∧ p = farB ws k ∧ restB ws k <+: r

set_option maxRecDepth 100000 in
theorem sofar_start {t l r : List UInt8} {n : Nat} {W : List ByteArray} {z : Int} {b : Bool} {x : ByteArray} (ht : t = l ++ 10 :: r) (hl : (10 : UInt8) ∉ l) (hb : NoBlank W) (hg : glue W = l ++ [32]) (hx : W.getD 1 ⟨#[]⟩ = x) (hs : NumSays x z b) (hz : z = (n : Int)) : Sofar t n 0 (l.length + 1) [] r := by
  intro ws hv
  obtain ⟨e, hr⟩ := valid_head hv ht hl
  have hn := okWs_len hv.1
  have hW := head_words hn.2 hb (by rw [hg, e])
  have hx2 : x = str (Lib.itoa (ws.length : Int)) := by rw [← hx, hW]; rfl
  have := (hs.2.2.2 (ws.length : Int) (by omega) (by omega) (by rw [hx2]; rfl)).2
  refine ⟨by omega, rfl, ?_, hr⟩
  unfold farB accB
  rw [e]
  simp

set_option maxRecDepth 100000 in
/-- Where the head isn't one, no batch begins. -/
theorem head_not {t l r : List UInt8} {W : List ByteArray} (ht : t = l ++ 10 :: r) (hl : (10 : UInt8) ∉ l) (hb : NoBlank W) (hg : glue W = l ++ [32]) (hn : ¬ (W.length = 2 ∧ W.getD 0 ⟨#[]⟩ = ⟨#[98, 97, 116, 99, 104]⟩ ∧ ∃ m : Nat, 1 ≤ m ∧ m ≤ 6 ∧ (W.getD 1 ⟨#[]⟩).data.toList = Lib.itoa m)) : ∀ ws, ¬ ValidAt t ws := by
  intro ws hv
  obtain ⟨e, hr⟩ := valid_head hv ht hl
  have hm := okWs_len hv.1
  have hW := head_words hm.2 hb (by rw [hg, e])
  refine hn ⟨by rw [hW]; rfl, by rw [hW]; rfl, ws.length, hm.1, hm.2, by rw [hW]; rfl⟩

set_option maxRecDepth 100000 in
theorem sofar_next {t l r r' : List UInt8} {n k p : Nat} {xs : List Wr} {x : Wr} (h : Sofar t n k p xs r) (hk : k < n) (ht : r = l ++ 10 :: r') (hl : (10 : UInt8) ∉ l) (hx : IsText l x) : Sofar t n (k + 1) (p + l.length + 1) (xs ++ [x]) r' := by
  intro ws hv
  obtain ⟨h1, h2, h3, h4⟩ := h ws hv
  have hkl : k < ws.length := by omega
  obtain ⟨q1, q2⟩ := valid_next hv.1 hkl h4 ht hl
  have ex : ws.getD k wz = x := text_is_one q1 hx
  refine ⟨h1, ?_, ?_, q2⟩
  · rw [List.take_add_one, h2, List.getElem?_eq_getElem hkl, ← ex]
    simp [List.getD, hkl]
  · rw [farB_next hkl, h3, q1.2]

set_option maxRecDepth 100000 in
theorem sofar_none {t r : List UInt8} {n k p : Nat} {xs : List Wr} (h : Sofar t n k p xs r) (hk : k ≤ n) (hr : (10 : UInt8) ∉ r) : ∀ ws, ¬ ValidAt t ws := by
  intro ws hv
  obtain ⟨h1, h2, h3, h4⟩ := h ws hv
  by_cases hkn : k < ws.length
  · rw [restB_next hkn] at h4
    exact hr (has_line h4)
  · obtain rfl : k = ws.length := by omega
    rw [restB_end] at h4
    exact hr (has_line h4)

set_option maxRecDepth 100000 in
theorem sofar_bad {t l r r' : List UInt8} {n k p : Nat} {xs : List Wr} (h : Sofar t n k p xs r) (hk : k < n) (ht : r = l ++ 10 :: r') (hl : (10 : UInt8) ∉ l) (hx : ∀ x, ¬ IsText l x) : ∀ ws, ¬ ValidAt t ws := by
  intro ws hv
  obtain ⟨h1, h2, h3, h4⟩ := h ws hv
  exact hx _ (valid_next hv.1 (by omega) h4 ht hl).1

set_option maxRecDepth 100000 in
/-- At the last line: the text up to it is the batch's, or no batch begins. -/
theorem sofar_end {t l r r' : List UInt8} {n p : Nat} {xs : List Wr} (h : Sofar t n n p xs r) (ht : r = l ++ 10 :: r') (hl : (10 : UInt8) ∉ l) (hne : t.take (p + l.length + 1) ≠ batchT xs) : ∀ ws, ¬ ValidAt t ws := by
  intro ws hv
  obtain ⟨h1, h2, h3, h4⟩ := h ws hv
  subst h1
  rw [List.take_length] at h2
  subst h2
  have e := valid_last h4 ht hl
  refine hne ?_
  have hl2 := batchT_len hv.1
  rw [e, h3, ← hl2]
  exact prefix_extract hv.2

set_option maxRecDepth 100000 in
theorem valid_of_eq {t : List UInt8} {ws : List Wr} {k : Nat} (h : t.take (k + 1) = batchT ws) (ht : t ≠ []) : ValidAt t ws := by
  have hok : okWs ws = true := by
    cases hk : okWs ws
    · unfold batchT at h
      rw [hk] at h
      cases t with
      | nil => exact absurd rfl ht
      | cons x r => simp at h
    · rfl
  exact ⟨hok, by rw [← h]; exact List.take_prefix _ _⟩

set_option maxRecDepth 100000 in
theorem drop_line {bs l r : List UInt8} {i : Nat} (h : bs.drop i = l ++ 10 :: r) : bs.drop (i + (l.length + 1)) = r := by
  rw [← List.drop_drop, h]
  simp

set_option maxRecDepth 100000 in
theorem fresh_row {w : World} {base : Nat} {a : Option Addr} {n cap : Nat} {ds : List Dp} (h : RowD w base (.slice a n cap) ds) : ∃ g, FreshDeps base w a g ds := by
  by_cases hp : 0 < ds.length
  · obtain ⟨a', cap', e, ho⟩ := h.form
    obtain rfl : a = a' := by
      simp only [Value.slice.injEq] at e
      exact e.1
    rcases ho with ho | ⟨g, h1, h2, -, h4, h5, h6⟩
    · rw [ho] at hp
      simp at hp
    · exact ⟨g, fun _ => ⟨h1, h2, h4, h5, h6⟩⟩
  · exact ⟨0, fun h => absurd h hp⟩

set_option maxRecDepth 100000 in
theorem rowG_few {es : List EnG} (h : ∀ d ∈ es, okR d.x = true) : Few (es.map (·.x)) := fun i hi => by
  have hi' : i < es.length := by simpa using hi
  have e : (es.map (·.x)).getD i wz = (es[i]'hi').x := by simp [List.getD, hi']
  rw [e]
  have := depR_len (ok_parts (h _ (List.getElem_mem hi'))).2.2.2.1
  omega

set_option maxRecDepth 100000 in
theorem RowG.ws0 {w : World} {base : Nat} {a : Option Addr} {n cap : Nat} {es : List EnG} (h : RowG w base (.slice a n cap) es) : IsWs0 w a (es.map (·.x)) := by
  obtain ⟨a', cap', e, ho⟩ := h.form
  obtain rfl : a = a' := by
    simp only [Value.slice.injEq] at e
    exact e.1
  rcases ho with ho | ⟨b, rfl, ho⟩
  · exact .inl (by rw [ho]; rfl)
  · obtain ⟨h1, h2, h3, h4, h5, h6⟩ := ho
    refine .inr ⟨b, 0, rfl, h1, fun i hi => ?_⟩
    obtain ⟨ad, cp, q1, q2⟩ := h4 i hi
    refine ⟨ad, cp, by rw [Nat.zero_add]; exact q1, ?_⟩
    by_cases hp : 0 < ((es.map (·.x)).getD i wz).xs.length
    · obtain ⟨r1, r2, r3, r4, r5⟩ := h5 i hi hp
      exact .inr ⟨_, q2 hp, r2, r4⟩
    · exact .inl (List.length_eq_zero_iff.1 (by omega))

set_option maxRecDepth 100000 in
theorem extract_take (s : ByteArray) (i n : Nat) : (s.extract i (i + n)).data.toList = (s.data.toList.drop i).take n := by
  rw [piece, List.drop_take, Nat.add_sub_cancel_left]

end Go.Proofs.YtbbmpfkijhhemabGreatDoor
