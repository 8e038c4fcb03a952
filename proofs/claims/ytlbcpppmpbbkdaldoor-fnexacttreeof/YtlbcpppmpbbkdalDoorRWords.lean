/- The contract of spec.l01Words at the blank. -/
import Derived.Test.YtlbcpppmpbbkdalDoorRNum
import Derived.Deep.AppendLies
import Derived.Laws.OwnMore
namespace Go.Proofs.YtlbcpppmpbbkdalDoor
open Go.ChangeShapes Go.WideShapes Go.ChangeAt Go.RowKit Go.Joins

/-- A row of strings of one's own. -/
structure StrRow (w : World) (base g cap : Nat) (ws : List ByteArray) : Prop where
  le : base ≤ g
  lt : g < w.heap.size
  own : w.ownsRow base 9 1 (.slice (some ⟨g, 0, none⟩) ws.length cap) ws.length (ws.map Value.string)

theorem StrRow.below {w w' : World} {base g cap : Nat} {ws : List ByteArray} (h : StrRow w base g cap ws) (hb : Below w.heap.size w w') : StrRow w' base g cap ws :=
  ⟨h.le, Nat.lt_of_lt_of_le h.lt hb.size, h.own.kept (row := none) ⟨hb.os, hb.tape, hb.output, hb.size, fun k hk _ => hb.block k hk⟩ (.inr (by simp [Value.ownBlock]))⟩

theorem StrRow.cell {w : World} {base g cap : Nat} {ws : List ByteArray} (h : StrRow w base g cap ws) {j : Nat} {t : ByteArray} (ht : ws[j]? = some t) : w.cell? ⟨g, j, none⟩ = some (.string t) := by
  rw [h.own.cellAt j (by have := (List.getElem?_eq_some_iff.1 ht).1; omega)]
  simp [ht]

theorem infoString : (Tryd.prog.info? 9).map (fun i => (i.zero, i.size, i.bytes)) = some (some (.string ⟨#[]⟩), 1, 16) := by kernel_rfl

/-- Words, each with a blank behind it. -/
def glue (W : List ByteArray) : List UInt8 := W.flatMap fun x => x.data.toList ++ [32]

theorem glue_snoc (W : List ByteArray) (x : ByteArray) : glue (W ++ [x]) = glue W ++ (x.data.toList ++ [32]) := by
  unfold glue
  rw [List.flatMap_append]
  simp

def NoBlank (W : List ByteArray) : Prop := ∀ x ∈ W, (32 : UInt8) ∉ x.data.toList

theorem cut_blank : ∀ {a b c d : List UInt8}, (32 : UInt8) ∉ a → (32 : UInt8) ∉ b → a ++ 32 :: c = b ++ 32 :: d → a = b ∧ c = d
  | [], [], c, d, _, _, h => by simpa using h
  | [], y :: b, c, d, _, hb, h => by
    simp only [List.nil_append, List.cons_append, List.cons.injEq] at h
    exact absurd (by rw [← h.1]; simp) hb
  | x :: a, [], c, d, ha, _, h => by
    simp only [List.nil_append, List.cons_append, List.cons.injEq] at h
    exact absurd (by rw [h.1]; simp) ha
  | x :: a, y :: b, c, d, ha, hb, h => by
    simp only [List.cons_append, List.cons.injEq] at h
    obtain ⟨h1, h2⟩ := cut_blank (a := a) (b := b) (fun h => ha (by simp [h])) (fun h => hb (by simp [h])) h.2
    exact ⟨by rw [h.1, h1], h2⟩

theorem glue_inj : ∀ {W V : List ByteArray}, NoBlank W → NoBlank V → glue W = glue V → W = V
  | [], [], _, _, _ => rfl
  | [], y :: V, _, _, h => by simp [glue] at h
  | x :: W, [], _, _, h => by simp [glue] at h
  | x :: W, y :: V, hW, hV, h => by
    have h' : x.data.toList ++ 32 :: glue W = y.data.toList ++ 32 :: glue V := by simpa [glue] using h
    obtain ⟨h1, h2⟩ := cut_blank (hW x (by simp)) (hV y (by simp)) h'
    rw [bytes_inj h1, glue_inj (fun z hz => hW z (by simp [hz])) (fun z hz => hV z (by simp [hz])) h2]

/-- What has been read when k bytes are read and the last word began at fr. -/
def SplitTo (bs : List UInt8) (k fr : Nat) (W : List ByteArray) : Prop :=
  NoBlank W ∧ ((k ≤ bs.length ∧ fr ≤ k ∧ glue W = bs.take fr ∧ (32 : UInt8) ∉ (bs.take k).drop fr) ∨ (k = bs.length + 1 ∧ glue W = bs ++ [32]))

theorem piece (s : ByteArray) (fr k : Nat) : (s.extract fr k).data.toList = (s.data.toList.take k).drop fr := by
  simp [List.drop_take]

theorem take_drop {bs : List UInt8} {fr k : Nat} (h : fr ≤ k) : bs.take fr ++ (bs.take k).drop fr = bs.take k := by
  have := List.take_append_drop fr (bs.take k)
  rw [List.take_take, Nat.min_eq_left h] at this
  exact this

theorem split_go {s : ByteArray} {k fr : Nat} {W : List ByteArray} (h : SplitTo s.data.toList k fr W) (hk : k < s.size) (hb : s[k] ≠ 32) : SplitTo s.data.toList (k + 1) fr W := by
  have hl : s.data.toList.length = s.size := by simp
  obtain ⟨h1, ⟨h2, h3, h4, h5⟩ | ⟨h2, h3⟩⟩ := h
  · refine ⟨h1, .inl ⟨by omega, by omega, h4, ?_⟩⟩
    rw [take_byte hk, List.drop_append_of_le_length (by rw [List.length_take]; omega)]
    intro h
    rcases List.mem_append.1 h with h | h
    · exact h5 h
    · have : (32 : UInt8) = s[k] := by simpa using h
      exact hb this.symm
  · omega

theorem no_blank_more {s : ByteArray} {k fr : Nat} {W : List ByteArray} (h1 : NoBlank W) (h5 : (32 : UInt8) ∉ (s.data.toList.take k).drop fr) : NoBlank (W ++ [s.extract fr k]) := fun x hx => by
  rcases List.mem_append.1 hx with hx | hx
  · exact h1 x hx
  · have : x = s.extract fr k := by simpa using hx
    rw [this, piece]
    exact h5

theorem split_word {s : ByteArray} {k fr : Nat} {W : List ByteArray} (h : SplitTo s.data.toList k fr W) (hk : k < s.size) (hb : s[k] = 32) : SplitTo s.data.toList (k + 1) (k + 1) (W ++ [s.extract fr k]) := by
  have hl : s.data.toList.length = s.size := by simp
  obtain ⟨h1, ⟨h2, h3, h4, h5⟩ | ⟨h2, h3⟩⟩ := h
  · refine ⟨no_blank_more h1 h5, .inl ⟨by omega, Nat.le_refl _, ?_, ?_⟩⟩
    · rw [glue_snoc, h4, piece, ← List.append_assoc, take_drop h3, take_byte hk, hb]
    · rw [List.drop_eq_nil_of_le (by rw [List.length_take]; omega)]
      simp
  · omega

theorem split_last {s : ByteArray} {fr : Nat} {W : List ByteArray} (h : SplitTo s.data.toList s.size fr W) : SplitTo s.data.toList (s.size + 1) (s.size + 1) (W ++ [s.extract fr s.size]) := by
  have hl : s.data.toList.length = s.size := by simp
  obtain ⟨h1, ⟨h2, h3, h4, h5⟩ | ⟨h2, h3⟩⟩ := h
  · refine ⟨no_blank_more h1 h5, .inr ⟨by omega, ?_⟩⟩
    rw [glue_snoc, h4, piece, ← List.append_assoc, take_drop h3, List.take_of_length_le (by omega)]
  · omega

theorem split_from {bs : List UInt8} {k fr : Nat} {W : List ByteArray} (h : SplitTo bs k fr W) (hk : k ≤ bs.length) : fr ≤ k := by
  obtain ⟨_, ⟨_, h, _⟩ | ⟨h, _⟩⟩ := h
  · exact h
  · omega

end Go.Proofs.YtlbcpppmpbbkdalDoor
