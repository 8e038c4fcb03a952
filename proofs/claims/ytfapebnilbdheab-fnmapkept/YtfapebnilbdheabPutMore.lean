/- What a put keeps: lengths, members. -/
import Derived.Test.YtfapebnilbdheabPut
namespace Go.Proofs.Ytfapebnilbdheab
open Go.ChangeShapes Go.WideShapes Go.ChangeAt Go.RowKit Go.Joins

theorem few_iff {ws : List Wr} : Few ws ↔ ∀ x ∈ ws, x.xs.length ≤ 1048576 := by
  constructor
  · intro h x hx
    obtain ⟨i, hi, rfl⟩ := List.mem_iff_getElem.1 hx
    have := h i hi
    simpa [List.getD, hi] using this
  · intro h i hi
    exact h _ (by simp [List.getD, hi])

theorem fold_mem (x : Wr) : ∀ (ws : List Wr) (st : List Wr × Bool), ∀ z ∈ (ws.foldl (putStep x) st).1, z ∈ st.1 ∨ z = x ∨ z ∈ ws
  | [], st, z, h => .inl h
  | y :: r, st, z, h => by
    rcases fold_mem x r (putStep x st y) z h with h1 | h1 | h1
    · unfold putStep at h1
      split at h1
      · split at h1
        · rcases List.mem_append.1 h1 with h2 | h2
          · exact .inl h2
          · exact .inr (.inl (by simpa using h2))
        · rcases List.mem_append.1 h1 with h2 | h2
          · exact .inl h2
          · exact .inr (.inr (by simp at h2; simp [h2]))
      · split at h1
        · rcases List.mem_append.1 h1 with h2 | h2
          · rcases List.mem_append.1 h2 with h3 | h3
            · exact .inl h3
            · exact .inr (.inl (by simpa using h3))
          · exact .inr (.inr (by simp at h2; simp [h2]))
        · rcases List.mem_append.1 h1 with h2 | h2
          · exact .inl h2
          · exact .inr (.inr (by simp at h2; simp [h2]))
    · exact .inr (.inl h1)
    · exact .inr (.inr (by simp [h1]))

theorem put_mem (ws : List Wr) (x : Wr) : ∀ z ∈ putW ws x, z = x ∨ z ∈ ws := by
  intro z hz
  have h := fold_mem x ws ([], false) z
  unfold putW at hz
  split at hz
  · rcases h hz with h1 | h1
    · simp at h1
    · exact h1
  · rcases List.mem_append.1 hz with h1 | h1
    · rcases h h1 with h2 | h2
      · simp at h2
      · exact h2
    · exact .inl (by simpa using h1)

def pend (b : Bool) : Nat := match b with | true => 0 | false => 1

theorem fold_len (x : Wr) : ∀ (ws : List Wr) (st : List Wr × Bool), (ws.foldl (putStep x) st).1.length + pend (ws.foldl (putStep x) st).2 ≤ st.1.length + pend st.2 + ws.length
  | [], st => Nat.le_refl _
  | y :: r, st => by
    have h := fold_len x r (putStep x st y)
    have h1 : (putStep x st y).1.length + pend (putStep x st y).2 ≤ st.1.length + pend st.2 + 1 := by
      unfold putStep
      split
      · split
        · simp [pend]
        · simp [pend]
      · split
        · rename_i h2
          simp [h2.2, pend]
        · simp
          omega
    simp only [List.foldl_cons, List.length_cons]
    omega

theorem put_len (ws : List Wr) (x : Wr) : (putW ws x).length ≤ ws.length + 1 := by
  have h := fold_len x ws ([], false)
  have e : putTo ws x = ws.foldl (putStep x) ([], false) := rfl
  rw [← e] at h
  unfold putW
  cases h1 : (putTo ws x).2
  · rw [h1] at h
    simp [pend] at h ⊢
    omega
  · rw [h1] at h
    simp [pend] at h ⊢
    omega

theorem put_few {ws : List Wr} {x : Wr} (h : Few ws) (hx : x.xs.length ≤ 1048576) : Few (putW ws x) := by
  rw [few_iff] at *
  intro z hz
  rcases put_mem ws x z hz with h1 | h1
  · rw [h1]; exact hx
  · exact h z h1

theorem RowEs.mono {w : World} {base base' g cap : Nat} {es : List En} (h : RowEs w base g cap es) (hb : base' ≤ base) : RowEs w base' g cap es where
  le := Nat.le_trans hb h.le
  lt := h.lt
  own := by
    refine ⟨h.own.1, ?_⟩
    rcases h.own.2 with h1 | ⟨g, cap, cur, h1, h2, h3⟩
    · exact .inl h1
    · exact .inr ⟨g, cap, cur, h1, Nat.le_trans hb h2, h3⟩
  deps := fun e he => ⟨Nat.le_trans hb (h.deps e he).1, (h.deps e he).2⟩

theorem RowEs.setBelow {w : World} {base g cap : Nat} {es : List En} (h : RowEs w base g cap es) {X : Nat} (hX : X < base) (o : Nat) (u : Value) : RowEs (w.setCell ⟨X, o, none⟩ u) base g cap es where
  le := h.le
  lt := by simpa [World.setCell] using h.lt
  own := ownsRow_setCell_below (a := ⟨X, o, none⟩) h.own hX u
  deps := fun e he => by
    obtain ⟨h1, h2, h3, h4⟩ := h.deps e he
    have hne : ∀ o', (⟨X, o, none⟩ : Addr) ≠ ⟨e.g, o', none⟩ := fun o' hh => by
      injection hh with hb
      omega
    refine ⟨h1, by simpa [World.setCell] using h2, h3, fun i hi => ?_⟩
    obtain ⟨a0, a1, a2, a3⟩ := h4 i hi
    exact ⟨(World.cell?_setCell_other _ _ _ _ (hne _)).trans a0, (World.cell?_setCell_other _ _ _ _ (hne _)).trans a1, (World.cell?_setCell_other _ _ _ _ (hne _)).trans a2, (World.cell?_setCell_other _ _ _ _ (hne _)).trans a3⟩

end Go.Proofs.Ytfapebnilbdheab
