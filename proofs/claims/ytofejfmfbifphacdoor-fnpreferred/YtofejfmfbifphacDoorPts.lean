/- Lists of points: opened, copied by toPointS, compared by eqPointS, marked by markPointS. -/
import Derived.Test.YtofejfmfbifphacDoorIntsIn
import Derived.Deep.Slices
namespace Go.Proofs.YtofejfmfbifphacDoor
open Go.ChangeShapes Go.WideShapes Go.ChangeAt Go.RowKit Go.Joins Go.Deep
attribute [local go_sem ↓] Go.wp_at_zero Go.wp_at_succ

structure Pt where
  t : Int
  n : Int

def pz : Pt := ⟨0, 0⟩

abbrev ptV (t n : Int) : Value := .agg #[.int .i64 t, .int .i64 n]

def HoldsPts (w : World) (b o : Nat) (ps : List Pt) : Prop :=
  ∀ i, i < ps.length → w.cell? ⟨b, o + i * 2, none⟩ = some (.int .i64 (ps.getD i pz).t) ∧ w.cell? ⟨b, o + i * 2 + 1, none⟩ = some (.int .i64 (ps.getD i pz).n)

set_option maxRecDepth 100000 in
theorem HoldsPts.below {w w' : World} {b o B : Nat} {ps : List Pt} (h : HoldsPts w b o ps) (hb : Below B w w') (hB : b < B) : HoldsPts w' b o ps := fun i hi =>
  ⟨(hb.cell (p := ⟨b, o + i * 2, none⟩) hB).trans (h i hi).1, (hb.cell (p := ⟨b, o + i * 2 + 1, none⟩) hB).trans (h i hi).2⟩

/-- What a slice of points leads to. -/
def IsPts (w : World) (a : Option Addr) (ps : List Pt) : Prop := ps = [] ∨ ∃ b o, a = some ⟨b, o, none⟩ ∧ b < w.heap.size ∧ HoldsPts w b o ps

set_option maxRecDepth 100000 in
theorem IsPts.below {w w' : World} {a : Option Addr} {ps : List Pt} (h : IsPts w a ps) (hb : Below w.heap.size w w') : IsPts w' a ps := by
  rcases h with h | ⟨b, o, ha, hlt, hh⟩
  · exact .inl h
  · exact .inr ⟨b, o, ha, Nat.lt_of_lt_of_le hlt hb.size, hh.below hb hlt⟩

set_option maxRecDepth 100000 in
theorem IsPts.at {w w' : World} {a : Option Addr} {ps : List Pt} (h : IsPts w a ps) (hb : Below w.heap.size w w') {k : Nat} (hk : k < ps.length) : ∃ b o, a = some ⟨b, o, none⟩ ∧ b < w'.heap.size ∧ w'.cell? ⟨b, o + k * 2, none⟩ = some (.int .i64 (ps.getD k pz).t) ∧ w'.cell? ⟨b, o + k * 2 + 1, none⟩ = some (.int .i64 (ps.getD k pz).n) := by
  rcases h.below hb with h | ⟨b, o, ha, hlt, hh⟩
  · subst h
    simp at hk
  · exact ⟨b, o, ha, hlt, hh k hk⟩

/-- A list of points of one's own, between two block numbers. -/
def OwnP (w : World) (lo hi : Nat) (a : Option Addr) (ps : List Pt) : Prop :=
  ps = [] ∨ ∃ b, a = some ⟨b, 0, none⟩ ∧ lo ≤ b ∧ b < hi ∧ b < w.heap.size ∧ HoldsPts w b 0 ps ∧ ∀ o, w.frozen? ⟨b, o, none⟩ = false

set_option maxRecDepth 100000 in
theorem OwnP.below {w w' : World} {lo hi : Nat} {a : Option Addr} {ps : List Pt} (h : OwnP w lo hi a ps) (hb : Below w.heap.size w w') : OwnP w' lo hi a ps := by
  rcases h with h | ⟨b, ha, h1, h2, hlt, hh, hf⟩
  · exact .inl h
  · exact .inr ⟨b, ha, h1, h2, Nat.lt_of_lt_of_le hlt hb.size, hh.below hb hlt, fun o => (hb.frozen (p := ⟨b, o, none⟩) hlt).trans (hf o)⟩

set_option maxRecDepth 100000 in
theorem OwnP.only {w w' : World} {S : Nat → Prop} {lo hi : Nat} {a : Option Addr} {ps : List Pt} (h : OwnP w lo hi a ps) (ho : Only S w w') (hS : ∀ x, S x → x < lo ∨ hi ≤ x) : OwnP w' lo hi a ps := by
  rcases h with h | ⟨b, ha, h1, h2, hlt, hh, hf⟩
  · exact .inl h
  · have hb : w'.heap[b]? = w.heap[b]? := ho.block b fun e => by have := hS b e; omega
    exact .inr ⟨b, ha, h1, h2, by rw [ho.size]; exact hlt, fun i hi => ⟨(World.cell?_of_block (a := ⟨b, _, none⟩) hb).trans (hh i hi).1, (World.cell?_of_block (a := ⟨b, _, none⟩) hb).trans (hh i hi).2⟩, fun o => (ho.frozen _).trans (hf o)⟩

set_option maxRecDepth 100000 in
theorem OwnP.isPts {w : World} {lo hi : Nat} {a : Option Addr} {ps : List Pt} (h : OwnP w lo hi a ps) : IsPts w a ps := by
  rcases h with h | ⟨b, ha, _, _, hlt, hh, _⟩
  · exact .inl h
  · exact .inr ⟨b, 0, ha, hlt, hh⟩

def ptCell (ps : List Pt) (o : Nat) : Int := if o % 2 = 0 then (ps.getD (o / 2) pz).t else (ps.getD (o / 2) pz).n

def ptFill (ps : List Pt) (k j : Nat) : Value := .int .i64 (if j < k * 2 then ptCell ps j else 0)

set_option maxRecDepth 100000 in
theorem ptCell0 (ps : List Pt) (k : Nat) : ptCell ps (k * 2) = (ps.getD k pz).t := by
  unfold ptCell
  rw [if_pos (by omega), show k * 2 / 2 = k by omega]

set_option maxRecDepth 100000 in
theorem ptCell1 (ps : List Pt) (k : Nat) : ptCell ps (k * 2 + 1) = (ps.getD k pz).n := by
  unfold ptCell
  rw [if_neg (by omega), show (k * 2 + 1) / 2 = k by omega]

set_option maxRecDepth 100000 in
theorem ptFill_step (ps : List Pt) (k j : Nat) : (if j = k * 2 + 1 then Value.int .i64 (ps.getD k pz).n else if j = k * 2 then Value.int .i64 (ps.getD k pz).t else ptFill ps k j) = ptFill ps (k + 1) j := by
  unfold ptFill
  by_cases h1 : j = k * 2 + 1
  · rw [if_pos h1, if_pos (by omega), h1, ptCell1]
  rw [if_neg h1]
  by_cases h0 : j = k * 2
  · rw [if_pos h0, if_pos (by omega), h0, ptCell0]
  rw [if_neg h0]
  by_cases hl : j < k * 2
  · rw [if_pos hl, if_pos (by omega)]
  · rw [if_neg hl, if_neg (by omega)]

set_option maxRecDepth 100000 in
theorem rowPt_start (w : World) (t n : Nat) (ps : List Pt) : (w.alloc (.cells (madeCells #[.int .i64 0, .int .i64 0] (n * 2)) t)).rowIs w.heap.size t (n * 2) (ptFill ps 0) := by
  refine ⟨_, Go.Deep.blk_alloc_new _ _, size_madeCells _ _, fun i hi => ?_⟩
  have e : ptFill ps 0 i = .int .i64 0 := by unfold ptFill; rw [if_neg (by omega)]
  rw [e]
  have h4 : i % 2 = 0 ∨ i % 2 = 1 := by omega
  rcases h4 with h | h <;> simp [madeCells, hi, h]

set_option maxRecDepth 100000 in
theorem holds_of_ptRow {w : World} {g t n : Nat} {ps : List Pt} (hn : ps.length = n) (h : w.rowIs g t (n * 2) (ptFill ps n)) : HoldsPts w g 0 ps := by
  intro i hi
  rw [Nat.zero_add]
  refine ⟨?_, ?_⟩
  · rw [h.cell (by omega), ptFill, if_pos (by omega), ptCell0]
  · rw [h.cell (by omega), ptFill, if_pos (by omega), ptCell1]

set_option maxRecDepth 100000 in
theorem infoPt : (Tryd.prog.info? 32).map (fun i => (i.zero, i.size, i.bytes)) = some (some (ptV 0 0), 2, 16) := by kernel_rfl

set_option maxRecDepth 100000 in
theorem run_make_pts (n : Nat) (hn : n ≤ 1048576) (w : World) :
    (Instr.makeSlice 27 (.int .i64 (n : Int)) (.int .i64 (n : Int))).run Tryd.prog w = .ok (.slice (some ⟨w.heap.size, 0, none⟩) n n) (w.alloc (.cells (madeCells #[.int .i64 0, .int .i64 0] (n * 2)) 32)) := by
  obtain ⟨i, hi, hzz⟩ := Option.map_eq_some_iff.1 infoPt
  simp only [Prod.mk.injEq] at hzz
  obtain ⟨hz, hs, hb⟩ := hzz
  have hr := run_make (P := Tryd.prog) w 27 32 i _ Tryd.underlying27 hi hz .i64 .i64 n n (by omega) (Int.le_refl _) (by rw [hb]; omega) (by omega)
  simp only [Int.toNat_natCast, hs] at hr
  exact hr

set_option maxRecDepth 100000 in
theorem markP_step (k : Int) (j o : Nat) (f : Nat → Value) : (if o = j * 2 + 1 then Value.int .i64 (k + 2 * j + 1) else if o = j * 2 then Value.int .i64 (k + 2 * j) else if o < j * 2 then markFn k o else f o) = (if o < (j + 1) * 2 then markFn k o else f o) := by
  unfold markFn
  by_cases h1 : o = j * 2 + 1
  · rw [if_pos h1, if_pos (by omega), h1]
    congr 1
    push_cast
    omega
  rw [if_neg h1]
  by_cases h0 : o = j * 2
  · rw [if_pos h0, if_pos (by omega), h0]
    congr 1
    push_cast
    omega
  rw [if_neg h0]
  by_cases hl : o < j * 2
  · rw [if_pos hl, if_pos (by omega)]
  · rw [if_neg hl, if_neg (by omega)]

/-- A list of points that is marked. -/
def MarkedP (w : World) (a : Option Addr) (n : Nat) (k : Int) : Prop := n = 0 ∨ ∃ b, a = some ⟨b, 0, none⟩ ∧ b < w.heap.size ∧ CellsAre w b (n * 2) (markFn k)

set_option maxRecDepth 100000 in
theorem MarkedP.below {w w' : World} {a : Option Addr} {n : Nat} {k : Int} (h : MarkedP w a n k) (hb : Below w.heap.size w w') : MarkedP w' a n k := by
  rcases h with h | ⟨b, ha, hlt, hc⟩
  · exact .inl h
  · exact .inr ⟨b, ha, Nat.lt_of_lt_of_le hlt hb.size, hc.of_block (hb.block b hlt)⟩

set_option maxRecDepth 100000 in
theorem HoldsPts.cells {w : World} {b n : Nat} {ps : List Pt} (h : HoldsPts w b 0 ps) (hn : ps.length = n) : CellsAre w b (n * 2) (fun o => .int .i64 (ptCell ps o)) := fun o ho => by
  have h1 := h (o / 2) (by omega)
  rw [Nat.zero_add] at h1
  show _ = some (Value.int .i64 (ptCell ps o))
  unfold ptCell
  by_cases hp : o % 2 = 0
  · rw [if_pos hp, ← h1.1]
    congr 2
    omega
  · rw [if_neg hp, ← h1.2]
    congr 2
    omega

set_option maxRecDepth 100000 in
theorem cellsOne : Tryd.prog.cellsOf 3 = 1 := by kernel_rfl

set_option maxRecDepth 100000 in
theorem addr_plain {w : World} {a : Addr} {v : Value} (h : w.cell? a = some v) : a = ⟨a.block, a.off, none⟩ := by
  cases a with
  | mk b o s =>
    cases s with
    | none => rfl
    | some s =>
      simp only [World.cell?] at h
      split at h <;> simp at h

set_option maxRecDepth 100000 in
theorem addr_add (b o i : Nat) : (Addr.mk b o none).add i = ⟨b, o + i, none⟩ := by
  unfold Addr.add
  split
  · rename_i h
    rw [h]
    rfl
  · rfl

end Go.Proofs.YtofejfmfbifphacDoor
