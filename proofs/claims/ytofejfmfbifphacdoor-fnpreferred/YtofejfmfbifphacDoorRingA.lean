/- A row of points behind another one, as the built-in append lays it. -/
import Derived.Test.YtofejfmfbifphacDoorRingP
import Derived.Test.YtofejfmfbifphacDoorCopy
namespace Go.Proofs.YtofejfmfbifphacDoor
open Go.ChangeShapes Go.WideShapes Go.ChangeAt Go.RowKit Go.Joins

set_option maxRecDepth 100000 in
theorem rowP_room {w : World} {base g n cap : Nat} {ps : List Pt} (h : RowP w base (.slice (some ⟨g, 0, none⟩) n cap) ps) : n ≤ cap ∧ base ≤ g ∧ g < w.heap.size := by
  rcases h.2 with ⟨h', _⟩ | ⟨g', cap', cur, h', h2, h3, hle, _⟩
  · simp at h'
  · simp only [Value.slice.injEq, Option.some.injEq, Addr.mk.injEq, and_true] at h'
    obtain ⟨rfl, rfl, rfl⟩ := h'
    exact ⟨hle, h2, (Array.getElem?_eq_some_iff.1 h3).1⟩

set_option maxRecDepth 100000 in
theorem append_pts {w : World} {ops : Array Oper} {rest : List Oper} {o : Oper} {a : Act} {Q : Exit → Act → World → Prop} (hgd : o.guard = none) (s x : Operand)
    (ho : o.op = .call { callee := .builtin .append, args := #[s, x], argTypes := #[27, 27] }) (base g cap n : Nat) (ps : List Pt) (hn : ps.length = n) (hs : a.eval s = .slice (some ⟨g, 0, none⟩) n cap) (row : RowP w base (.slice (some ⟨g, 0, none⟩) n cap) ps)
    (sa : Option Addr) (cap2 m : Nat) (ys : List Pt) (hm : ys.length = m) (hx : a.eval x = .slice sa m cap2) (src : IsPts w sa ys) (k : Nat) (hk : n + m = k) (hb : k ≤ 1048576)
    (h : ∀ g' cap' w', RowP w' base (.slice (some ⟨g', 0, none⟩) k cap') (ps ++ ys) → Below base w w' → wpList Tryd.prog ops Q rest (a.put o.dst (.slice (some ⟨g', 0, none⟩) k cap')) w') : wpList Tryd.prog ops Q (o :: rest) a w := by
  obtain ⟨i0, hi0, hx0⟩ := Option.map_eq_some_iff.1 infoPt
  simp only [Prod.mk.injEq] at hx0
  obtain ⟨hroom, hbg, hgl⟩ := rowP_room row
  subst hn
  subst hm
  subst hk
  rcases src with rfl | ⟨b, off, rfl, hlt, hh⟩
  · refine wpList_append_zero hgd s x _ ho 32 i0 Tryd.underlying27 hi0 (some ⟨g, 0, none⟩) ps.length cap hroom hs _ cap2 hx ?_
    exact h g cap w (by simpa using row) (Below.refl _ _)
  by_cases h0 : ys.length = 0
  · have e2 : ys = [] := List.length_eq_zero_iff.1 h0
    subst e2
    refine wpList_append_zero hgd s x _ ho 32 i0 Tryd.underlying27 hi0 (some ⟨g, 0, none⟩) ps.length cap hroom hs _ cap2 hx ?_
    exact h g cap w (by simpa using row) (Below.refl _ _)
  · refine wpList_append_lies w hgd s x _ ho base 32 i0 (ptV 0 0) 2 16 Tryd.underlying27 hi0 hx0.1 hx0.2.1 hx0.2.2 (by rfl) (by omega) _ ps.length (ps.flatMap ptVals) hs row ⟨b, off, none⟩ ys.length cap2 (ys.flatMap ptVals) hx (pts_len ys) (fun j u hu => ?_) (pts_one ys) (by omega) (by unfold maxLen; omega) (by omega) (by omega) _ rfl fun g5 cap5 w5 hown hgrow _ _ => ?_
    · have hj : j < ys.length * 2 := by rw [← pts_len]; exact (List.getElem?_eq_some_iff.1 hu).1
      rw [addr_add]
      obtain ⟨h1, h2⟩ := hh (j / 2) (by omega)
      have hj2 : j = j / 2 * 2 + j % 2 := by omega
      rw [hj2, pts_at ys (j / 2) (j % 2) (by omega) (by omega)] at hu
      rcases Nat.mod_two_eq_zero_or_one j with e | e
      · rw [e] at hu
        rw [show off + j = off + j / 2 * 2 by omega, h1, ← hu]
        rfl
      · rw [e] at hu
        rw [show off + j = off + j / 2 * 2 + 1 by omega, h2, ← hu]
        rfl
    · refine h g5 cap5 w5 ?_ ⟨hgrow.os, hgrow.tape, hgrow.output, hgrow.size, fun k hk => hgrow.block k (by omega) (by simp [Value.ownBlock]; omega)⟩
      unfold RowP
      rw [List.length_append, List.flatMap_append]
      exact hown

set_option maxRecDepth 100000 in
theorem IsPts.take {w : World} {a : Option Addr} {ps : List Pt} (h : IsPts w a ps) (k : Nat) : IsPts w a (ps.take k) := by
  rcases h with h | ⟨b, o, ha, hlt, hh⟩
  · exact .inl (by rw [h]; simp)
  · refine .inr ⟨b, o, ha, hlt, fun i hi => ?_⟩
    have hi' : i < k ∧ i < ps.length := by rw [List.length_take] at hi; omega
    have e : (ps.take k).getD i pz = ps.getD i pz := by simp [List.getD, hi'.1]
    rw [e]
    exact hh i hi'.2

set_option maxRecDepth 100000 in
theorem IsPts.drop {w : World} {b : Nat} {ps : List Pt} (h : IsPts w (some ⟨b, 0, none⟩) ps) (k : Nat) : IsPts w (some ⟨b, k * 2, none⟩) (ps.drop k) := by
  rcases h with h | ⟨b', o, ha, hlt, hh⟩
  · exact .inl (by rw [h]; simp)
  · injection ha with ha
    injection ha with ha ho
    subst ha ho
    refine .inr ⟨b, k * 2, rfl, hlt, fun i hi => ?_⟩
    have hi' : k + i < ps.length := by rw [List.length_drop] at hi; omega
    have e : (ps.drop k).getD i pz = ps.getD (k + i) pz := by simp [List.getD]
    rw [e]
    obtain ⟨h1, h2⟩ := hh (k + i) hi'
    rw [Nat.zero_add] at h1 h2
    exact ⟨by rw [show k * 2 + i * 2 = (k + i) * 2 by omega]; exact h1, by rw [show k * 2 + i * 2 + 1 = (k + i) * 2 + 1 by omega]; exact h2⟩

set_option maxRecDepth 100000 in
theorem isPts_one (w : World) (p : Pt) : IsPts (w.alloc (.cells #[.int .i64 p.t, .int .i64 p.n] 32)) (some ⟨w.heap.size, 0, none⟩) [p] := by
  refine .inr ⟨_, 0, rfl, by simp, fun i hi => ?_⟩
  have hi' : i = 0 := by simpa using hi
  subst hi'
  exact ⟨cell_of_row _ _ 0 _ _ (0, 0) (heap_alloc_new w _), cell_of_row _ _ 1 _ _ (0, 0) (heap_alloc_new w _)⟩

end Go.Proofs.YtofejfmfbifphacDoor
