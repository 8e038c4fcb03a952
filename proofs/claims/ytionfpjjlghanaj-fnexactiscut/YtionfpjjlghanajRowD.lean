/- Rows of dependencies of one's own that grow. -/
import Derived.Test.YtionfpjjlghanajCopy
namespace Go.Proofs.Ytionfpjjlghanaj
open Go.ChangeShapes Go.WideShapes Go.ChangeAt Go.RowKit Go.Joins

def dpVals (d : Dp) : List Value := [.int .i64 d.k, .int .i64 d.c, .int .i64 d.s, .int .i64 d.q]

theorem dps_at : ∀ (ds : List Dp) (i c : Nat), i < ds.length → c < 4 → (ds.flatMap dpVals)[i * 4 + c]? = (dpVals (ds.getD i dz))[c]?
  | [], i, c, hi, _ => by simp at hi
  | e :: r, 0, c, _, hc => by
    rw [List.flatMap_cons, List.getElem?_append_left (by simp [dpVals]; omega)]
    simp
  | e :: r, i + 1, c, hi, hc => by
    rw [List.flatMap_cons, List.getElem?_append_right (by simp [dpVals]; omega)]
    have := dps_at r i c (by simpa using hi) hc
    rw [show (i + 1) * 4 + c - (dpVals e).length = i * 4 + c by simp [dpVals]; omega, this]
    simp

/-- A row of dependencies of one's own, from block number base on; it may be nil. -/
def RowD (w : World) (base : Nat) (v : Value) (ds : List Dp) : Prop := w.ownsRow base 56 4 v ds.length (ds.flatMap dpVals)

theorem RowD.below {w w' : World} {base : Nat} {v : Value} {ds : List Dp} (h : RowD w base v ds) (hb : Below w.heap.size w w') : RowD w' base v ds :=
  World.ownsRow.kept (row := none) h ⟨hb.os, hb.tape, hb.output, hb.size, fun k hk _ => hb.block k hk⟩ (by
    by_cases e : v.ownBlock = none
    · exact .inl e
    · exact .inr e)

theorem RowD.mono {w : World} {base base' : Nat} {v : Value} {ds : List Dp} (h : RowD w base v ds) (hb : base' ≤ base) : RowD w base' v ds := by
  refine ⟨h.1, ?_⟩
  rcases h.2 with h1 | ⟨g, cap, cur, h1, h2, h3⟩
  · exact .inl h1
  · exact .inr ⟨g, cap, cur, h1, Nat.le_trans hb h2, h3⟩

/-- Dependencies of one's own, between two block numbers. -/
def OwnD (w : World) (lo hi : Nat) (a : Option Addr) (ds : List Dp) : Prop :=
  ds = [] ∨ ∃ g, a = some ⟨g, 0, none⟩ ∧ lo ≤ g ∧ g < hi ∧ g < w.heap.size ∧ HoldsDeps w g 0 ds ∧ ∀ o, w.frozen? ⟨g, o, none⟩ = false

theorem OwnD.isDeps {w : World} {lo hi : Nat} {a : Option Addr} {ds : List Dp} (h : OwnD w lo hi a ds) : IsDeps w a ds := by
  rcases h with h | ⟨g, ha, _, _, hlt, hh, _⟩
  · exact .inl h
  · exact .inr ⟨g, 0, ha, hlt, hh⟩

theorem RowD.form {w : World} {base : Nat} {v : Value} {ds : List Dp} (h : RowD w base v ds) : ∃ a cap, v = .slice a ds.length cap ∧ OwnD w base w.heap.size a ds := by
  rcases h.2 with ⟨h1, h2⟩ | ⟨g, cap, cur, h1, h2, h3, _⟩
  · exact ⟨none, 0, by rw [h1, h2], .inl (List.length_eq_zero_iff.1 h2)⟩
  · have hlt : g < w.heap.size := (Array.getElem?_eq_some_iff.1 h3).1
    subst h1
    refine ⟨_, cap, rfl, .inr ⟨g, rfl, h2, hlt, hlt, fun i hi => ?_, fun o => World.ownsRow.frozenAt h o⟩⟩
    rw [Nat.zero_add]
    have c : ∀ c, c < 4 → w.cell? ⟨g, i * 4 + c, none⟩ = (dpVals (ds.getD i dz))[c]? := fun c hc => by rw [World.ownsRow.cellAt h _ (by omega), dps_at ds i c hi hc]
    exact ⟨c 0 (by omega), c 1 (by omega), c 2 (by omega), c 3 (by omega)⟩

theorem oneD_cells (w : World) (t : Nat) (d : Dp) : ∀ j u, (dpVals d)[j]? = some u → (w.alloc (.cells #[.int .i64 d.k, .int .i64 d.c, .int .i64 d.s, .int .i64 d.q] t)).cell? ((⟨w.heap.size, 0, none⟩ : Addr).add j) = some u := by
  intro j u hu
  have e1 : (⟨w.heap.size, 0, none⟩ : Addr).add j = ⟨w.heap.size, j, none⟩ := by
    unfold Addr.add
    split
    · rename_i h
      rw [h]
    · simp
  rw [e1, cell_of_row _ _ j _ t (0, 0) (heap_alloc_new w _), ← hu]
  simp [dpVals]

theorem dp_one (d : Dp) : ∀ u ∈ dpVals d, u.oneCell' = true := by
  intro u hu
  simp only [dpVals, List.mem_cons, List.not_mem_nil, or_false] at hu
  rcases hu with rfl | rfl | rfl | rfl <;> rfl

end Go.Proofs.Ytionfpjjlghanaj
