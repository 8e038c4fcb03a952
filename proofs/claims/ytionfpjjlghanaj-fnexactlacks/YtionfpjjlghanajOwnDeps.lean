/- Marks of a row of dependencies of one's own, of whatever length. -/
import Derived.Test.YtionfpjjlghanajRowD
import Derived.Test.YtionfpjjlghanajMarks
namespace Go.Proofs.Ytionfpjjlghanaj
open Go.ChangeShapes Go.WideShapes Go.ChangeAt Go.RowKit Go.Joins

theorem OwnD.below {w w' : World} {lo hi : Nat} {a : Option Addr} {ds : List Dp} (h : OwnD w lo hi a ds) (hb : Below w.heap.size w w') : OwnD w' lo hi a ds := by
  rcases h with h | ⟨g, ha, h1, h2, h3, h4, h5⟩
  · exact .inl h
  · exact .inr ⟨g, ha, h1, h2, Nat.lt_of_lt_of_le h3 hb.size, h4.below hb h3, fun o => (hb.frozen (p := ⟨g, o, none⟩) h3).trans (h5 o)⟩

theorem OwnD.only {w w' : World} {S : Nat → Prop} {lo hi : Nat} {a : Option Addr} {ds : List Dp} (h : OwnD w lo hi a ds) (ho : Only S w w') (hS : ∀ x, S x → x < lo ∨ hi ≤ x) : OwnD w' lo hi a ds := by
  rcases h with h | ⟨g, ha, h1, h2, h3, h4, h5⟩
  · exact .inl h
  · have hb := ho.block g fun hs => by have := hS g hs; omega
    refine .inr ⟨g, ha, h1, h2, by rw [ho.size]; exact h3, fun i hi => ?_, fun o => (ho.frozen _).trans (h5 o)⟩
    have e : ∀ o, w'.cell? ⟨g, o, none⟩ = w.cell? ⟨g, o, none⟩ := fun o => World.cell?_of_block (a := ⟨g, o, none⟩) hb
    obtain ⟨a0, a1, a2, a3⟩ := h4 i hi
    exact ⟨(e _).trans a0, (e _).trans a1, (e _).trans a2, (e _).trans a3⟩

def MarkedD (w : World) (a : Option Addr) (ds : List Dp) (k : Int) : Prop := ds = [] ∨ ∃ g, a = some ⟨g, 0, none⟩ ∧ g < w.heap.size ∧ CellsAre w g (ds.length * 4) (markFn k)

theorem MarkedD.below {w w' : World} {a : Option Addr} {ds : List Dp} {k : Int} (h : MarkedD w a ds k) (hb : Below w.heap.size w w') : MarkedD w' a ds k := by
  rcases h with h | ⟨g, ha, h1, h2⟩
  · exact .inl h
  · exact .inr ⟨g, ha, Nat.lt_of_lt_of_le h1 hb.size, h2.of_block (hb.block g h1)⟩

theorem deps_cellsAre {w : World} {g : Nat} {ds : List Dp} (h : HoldsDeps w g 0 ds) : CellsAre w g (ds.length * 4) (fun o => (w.cell? ⟨g, o, none⟩).getD undef) := fun o ho => by
  obtain ⟨a0, a1, a2, a3⟩ := h (o / 4) (by omega)
  have hs : ∃ v, w.cell? ⟨g, o, none⟩ = some v := by
    have : o = 0 + o / 4 * 4 ∨ o = 0 + o / 4 * 4 + 1 ∨ o = 0 + o / 4 * 4 + 2 ∨ o = 0 + o / 4 * 4 + 3 := by omega
    rcases this with e | e | e | e <;> rw [e]
    · exact ⟨_, a0⟩
    · exact ⟨_, a1⟩
    · exact ⟨_, a2⟩
    · exact ⟨_, a3⟩
  obtain ⟨v, hv⟩ := hs
  show w.cell? ⟨g, o, none⟩ = some ((w.cell? ⟨g, o, none⟩).getD undef)
  rw [hv]
  rfl

theorem markDepS_all (lo hi n cap : Nat) (a : Option Addr) (k : Int) (ds : List Dp) (w : World) (hn : ds.length = n) (hm : n ≤ 1048576) (h0 : 0 ≤ k) (h1 : k ≤ 1099511627776) (h : OwnD w lo hi a ds) :
    Calls Try.prog 25 #[.slice a n cap, .int .i64 k] w fun e w' => e = .returned (.int .i64 (k + 4 * n)) ∧ MarkedD w' a ds k ∧ Only (fun b => lo ≤ b ∧ b < hi) w w' := by
  rcases h with h | ⟨g, ha, g1, g2, g3, g4, g5⟩
  · subst h
    have hn0 : n = 0 := by rw [← hn]; rfl
    subst hn0
    refine (markDepS_any a 0 0 cap k (fun _ => undef) w (by omega) h0 h1 (fun h => absurd h (Nat.lt_irrefl 0)) (fun o ho => by omega) (fun h => absurd h (Nat.lt_irrefl 0))).mono ?_
    rintro e w' ⟨he, -, ho⟩
    exact ⟨he, .inl rfl, ⟨ho.os, ho.tape, ho.output, ho.size, fun b _ => ho.block b (by rintro ⟨h, _⟩; omega), ho.frozen⟩⟩
  · have hc := deps_cellsAre g4
    rw [hn] at hc
    refine (markDepS_any a g n cap k _ w hm h0 h1 (fun _ => ha) hc (fun _ => g5)).mono ?_
    rintro e w' ⟨he, hk, ho⟩
    refine ⟨he, .inr ⟨g, ha, by rw [ho.size]; exact g3, by rw [hn]; exact hk⟩, ⟨ho.os, ho.tape, ho.output, ho.size, fun b hb => ho.block b (by rintro ⟨_, rfl⟩; exact hb ⟨g1, g2⟩), ho.frozen⟩⟩

theorem heldDepS_all (n cap : Nat) (a : Option Addr) (k : Int) (ds : List Dp) (w : World) (hn : ds.length = n) (hm : n ≤ 1048576) (h0 : 0 ≤ k) (h1 : k ≤ 1099511627776) (h : MarkedD w a ds k) :
    Calls Try.prog 26 #[.slice a n cap, .int .i64 k] w fun e w' => e = .returned (.int .i64 (k + 4 * n)) ∧ w' = w := by
  rcases h with h | ⟨g, ha, g1, g2⟩
  · subst h
    have hn0 : n = 0 := by rw [← hn]; rfl
    subst hn0
    exact heldDepS_any a 0 0 cap k w (by omega) h0 h1 (fun h => absurd h (Nat.lt_irrefl 0)) (fun o ho => by omega)
  · rw [hn] at g2
    exact heldDepS_any a g n cap k w hm h0 h1 (fun _ => ha) g2

end Go.Proofs.Ytionfpjjlghanaj
