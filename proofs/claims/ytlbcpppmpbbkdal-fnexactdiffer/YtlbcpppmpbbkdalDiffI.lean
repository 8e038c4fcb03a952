/- The contract of impl.Differ. -/
import Derived.Test.YtlbcpppmpbbkdalApart
import Derived.Test.YtlbcpppmpbbkdalSlots
namespace Go.Proofs.Ytlbcpppmpbbkdal
open Go.ChangeShapes Go.WideShapes Go.ChangeAt Go.RowKit Go.Joins

set_option maxRecDepth 100000 in
/-- Fifteen numbers, from a block's begin on, as an array's cells. -/
theorem ints_range {w : World} {a : Option Addr} {zs : List Int} (h : IsInts w a zs) (hl : zs.length = 15) : ∃ b, a = some ⟨b, 0, none⟩ ∧ w.rangeAt b 0 (zs.map intV) := by
  rcases h with h | ⟨b, ha, hlt, hc⟩
  · rw [h] at hl
    cases hl
  · refine ⟨b, ha, fun j v hv => ?_⟩
    have hj : j < zs.length := by
      have := (List.getElem?_eq_some_iff.1 hv).1
      simpa using this
    rw [Nat.zero_add, hc j hj]
    rw [List.getElem?_map, List.getElem?_eq_getElem hj] at hv
    simp only [Option.map_some, Option.some.injEq] at hv
    rw [← hv]
    simp [intV, List.getD, hj]

set_option maxRecDepth 100000 in
theorem load_tree {w : World} {b : Nat} {zs : List Int} (h : w.rangeAt b 0 (zs.map intV)) (hl : zs.length = 15) : (Instr.loadAt 35 (.pointer (some ⟨b, 0, none⟩))).run Try.prog w = .ok (.agg (zs.map intV).toArray) w :=
  run_loadAt_mid w b 0 35 (zs.map intV) _ h under_tree rfl (by rw [infoTree, List.length_map, hl])

set_option maxRecDepth 100000 in
theorem array_at (b cap : Nat) (w : World) : (Instr.arrayAt 35 (.slice (some ⟨b, 0, none⟩) 15 cap)).run Try.prog w = .ok (.pointer (some ⟨b, 0, none⟩)) w := by
  unfold Instr.arrayAt
  rw [Sem.run_bind, run_underlying under_tree]
  rfl

set_option maxRecDepth 100000 in
theorem lasts_row (B : Nat) (zs : List Int) : lasts (fun w w' => Below w.heap.size w w') (fun v w => RowI w B v zs) := fun _ _ _ h hb => h.below hb

set_option maxRecDepth 100000 in
set_option maxHeartbeats 1000000 in
theorem implDiffer_any (a a' : Option Addr) (n m cap cap' : Nat) (xs ys : List Int) (w : World) (hn : xs.length = n) (hm : ys.length = m) (hn1 : n ≤ 1048576) (hm1 : m ≤ 1048576) (h : IsInts w a xs) (h' : IsInts w a' ys) :
    Calls Try.prog 7 #[.slice a n cap, .slice a' m cap'] w fun e w' => ∃ v, e = .returned v ∧ RowI w' w.heap.size v (diffB xs ys) ∧ Below w.heap.size w w' := by
  by_cases hb : n = 15 ∧ m = 15
  rotate_left
  · have HE : Hid (diffB xs ys = []) := by
      show _ = _
      unfold diffB
      rw [if_neg (by rw [hn, hm]; exact hb)]
    have hd : ¬ ((n : Int) = 15 ∧ (m : Int) = 15) := by omega
    clear h h' hn hm
    by_cases h1 : (n : Int) = 15
    · have h2 : ¬ (m : Int) = 15 := by omega
      have h3 : n = 15 := by omega
      subst h3
      go_enter Try.func7, Try.ntmps7
      go_wp2
      go_ret
      exact ⟨_, rfl, by rw [HE.out]; exact World.ownsRow_nil _ _ _ _, Below.refl _ _⟩
    · go_enter Try.func7, Try.ntmps7
      go_wp2
      go_ret
      exact ⟨_, rfl, by rw [HE.out]; exact World.ownsRow_nil _ _ _ _, Below.refl _ _⟩
  obtain ⟨rfl, rfl⟩ := hb
  have HE : Hid (diffB xs ys = diffL xs ys) := by
    show _ = _
    unfold diffB
    rw [if_pos ⟨hn, hm⟩]
  obtain ⟨b, rfl, -⟩ := ints_range h hn
  obtain ⟨b', rfl, -⟩ := ints_range h' hm
  have HH := Lib.hid h
  have HH' := Lib.hid h'
  have HN := Lib.hid hn
  have HM := Lib.hid hm
  have HC : Hid (∀ W, Calls Try.prog 16 #[.agg (xs.map intV).toArray, .agg (ys.map intV).toArray] W fun e w' => ∃ v, e = .returned v ∧ RowI w' W.heap.size v (diffL xs ys) ∧ Below W.heap.size W w') := fun W =>
    leavesApart_any _ _ xs ys W ⟨rfl, hn⟩ ⟨rfl, hm⟩
  clear h h' hn hm
  have HLD : Hid (∀ w', Below w.heap.size w w' → (Instr.loadAt 35 (.pointer (some ⟨b, 0, none⟩))).run Try.prog w' = .ok (.agg (xs.map intV).toArray) w' ∧ (Instr.loadAt 35 (.pointer (some ⟨b', 0, none⟩))).run Try.prog w' = .ok (.agg (ys.map intV).toArray) w') := fun w' hb => by
    obtain ⟨b1, e1, r1⟩ := ints_range (HH.out.below hb) HN.out
    obtain ⟨b2, e2, r2⟩ := ints_range (HH'.out.below hb) HM.out
    obtain rfl : b = b1 := by simpa using e1
    obtain rfl : b' = b2 := by simpa using e2
    exact ⟨load_tree r1 HN.out, load_tree r2 HM.out⟩
  generalize (xs.map intV).toArray = cs at *
  generalize (ys.map intV).toArray = ds at *
  go_enter Try.func7, Try.ntmps7
  go_wp2_with fail
  refine wp_region_slots 7 [[(0, false)], [(13, true)], [(14, true)], [(1, false)], [(16, true)], [(17, true)], [(15, true), (18, true)]] (fun w' => Below w.heap.size w w') (fun w w' => Below w.heap.size w w') (by kernel_rfl) (by kernel_rfl) (by rfl) ((Below.refl _ _).drew) (fun _ _ h hb => below_step h h.size hb) ?_
  apply slot_eq
  · intro ρ w' ⟨p1, p2, p3⟩ hbl hn
    simp at hn
    go_simp
    exact ⟨Below.refl _ _, rfl⟩
  apply slot_eq
  · intro ρ w' ⟨p1, p2, p3⟩ hbl hn
    simp at hn
    simp only [execOp, hn, Sem.run_bind, array_at, Result.andThen_ok, Sem.run_pure, got]
    exact ⟨Below.refl _ _, rfl⟩
  apply slot_eq
  · intro ρ w' ⟨p1, p2, p3⟩ hbl hn
    simp at hn
    simp only [execOp, hn, Sem.run_bind, (HLD.out w' hbl).1, Result.andThen_ok, Sem.run_pure, got]
    exact ⟨Below.refl _ _, rfl⟩
  apply slot_eq
  · intro ρ w' ⟨p1, p2, p3⟩ hbl hn
    simp at hn
    go_simp
    exact ⟨Below.refl _ _, rfl⟩
  apply slot_eq
  · intro ρ w' ⟨p1, p2, p3⟩ hbl hn
    simp at hn
    simp only [execOp, hn, Sem.run_bind, array_at, Result.andThen_ok, Sem.run_pure, got]
    exact ⟨Below.refl _ _, rfl⟩
  apply slot_eq
  · intro ρ w' ⟨p1, p2, p3⟩ hbl hn
    simp at hn
    simp only [execOp, hn, Sem.run_bind, (HLD.out w' hbl).2, Result.andThen_ok, Sem.run_pure, got]
    exact ⟨Below.refl _ _, rfl⟩
  refine slot_fact (fun v w' => RowI w' w.heap.size v (diffL xs ys)) (lasts_row _ _) ?_ ?_
  · intro ρ w' ⟨p1, p2, p3⟩ hbl hn
    simp at hn
    obtain ⟨e1, e2⟩ := hn
    go_simp
    exact got_call (HC.out w') fun e w'' ⟨v, he, hr, hb⟩ => ⟨v, he, hb, hr.mono hbl.size⟩
  refine slot_end ?_
  intro vs w3 hS hF
  simp at hF
  obtain ⟨h3, -⟩ := hF
  have HR : Hid (RowI w3 w.heap.size (vs 19) (diffB xs ys)) := by rw [HE.out]; exact h3
  have HB := Lib.hid hS
  clear h3 hS HLD
  simp only [List.take_succ_cons, List.take_zero, List.drop_succ_cons, List.drop_zero, putAll]
  generalize vs 19 = v at *
  go_wp2
  go_ret
  exact ⟨_, rfl, HR.out, HB.out⟩

end Go.Proofs.Ytlbcpppmpbbkdal
