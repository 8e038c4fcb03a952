/- The contract of impl.TagCmp. -/
import Derived.Test.YtlbcpppmpbbkdalDoorTagCmp
import Derived.Deep.DrawnRows
namespace Go.Proofs.YtlbcpppmpbbkdalDoor
open Go.ChangeShapes Go.WideShapes Go.ChangeAt Go.RowKit
attribute [local go_sem ↓] Go.wp_at_zero Go.wp_at_succ

set_option maxHeartbeats 400000 in
theorem implTagCmp_eq (c s q : Int) (w : World) :
    Calls Tryd.prog 78 #[tagV c s q, tagV c s q] w fun e w' => e = .returned (.int .i64 0) ∧ Below w.heap.size w w' := by
  go_enter Tryd.func78, Tryd.ntmps78
  go_wp2_with fail
  go_ret
  exact ⟨rfl, ((Below.refl _ _).alloc (Nat.le_refl _) _).alloc (by simp) _⟩

theorem three_cells (W : World) (x y z : Int) (t b : Nat) (hb : W.heap.size = b) : ∀ i, i < [x, y, z].length → (W.alloc (Obj.cells #[.int .i64 x, .int .i64 y, .int .i64 z] t)).drew.cell? ⟨b, i, none⟩ = some (.int .i64 ([x, y, z].getD i 0)) := by
  subst hb
  intro i hi
  match i, hi with
  | 0, _ => simp [go_sem]
  | 1, _ => simp [go_sem]
  | 2, _ => simp [go_sem]

set_option maxHeartbeats 1000000 in
theorem implTagCmp_ne1 (c s q c' s' q' : Int) (w : World) (h : ¬ c = c') :
    Calls Tryd.prog 78 #[tagV c s q, tagV c' s' q'] w fun e w' => e = .returned (.int .i64 (orI [sgn c c', sgn s s', sgn q q'])) ∧ Below w.heap.size w w' := by
  go_enter Tryd.func78, Tryd.ntmps78
  go_wp2_with fail
  go_region_held3 (fun w' => w'.cell? ⟨w.heap.size, 0, none⟩ = some (.int .i64 c) ∧ w'.cell? ⟨w.heap.size, 1, none⟩ = some (.int .i64 s) ∧ w'.cell? ⟨w.heap.size, 2, none⟩ = some (.int .i64 q) ∧ w'.cell? ⟨w.heap.size + 1, 0, none⟩ = some (.int .i64 c') ∧ w'.cell? ⟨w.heap.size + 1, 1, none⟩ = some (.int .i64 s') ∧ w'.cell? ⟨w.heap.size + 1, 2, none⟩ = some (.int .i64 q')) (go_keep)
    (first | (go_at_call 79; refine (compare_any _ _ _).mono ?_; rintro e w' ⟨rfl, rfl⟩) | (go_at_call 77; refine (or_any _ [sgn c c', sgn s s', sgn q q'] _ _ (by simp) (by exact three_cells _ _ _ _ _ _ (by simp))).mono ?_; rintro e w' ⟨rfl, rfl⟩))
  all_goals
    go_wp2
    go_ret
    exact ⟨rfl, ((((Below.refl _ _).alloc (Nat.le_refl _) _).alloc (by simp) _).alloc (by simp; omega) _).drew⟩

set_option maxHeartbeats 1000000 in
theorem implTagCmp_ne2 (c s q s' q' : Int) (w : World) (h : ¬ s = s') :
    Calls Tryd.prog 78 #[tagV c s q, tagV c s' q'] w fun e w' => e = .returned (.int .i64 (orI [sgn c c, sgn s s', sgn q q'])) ∧ Below w.heap.size w w' := by
  go_enter Tryd.func78, Tryd.ntmps78
  go_wp2_with fail
  go_region_held3 (fun w' => w'.cell? ⟨w.heap.size, 0, none⟩ = some (.int .i64 c) ∧ w'.cell? ⟨w.heap.size, 1, none⟩ = some (.int .i64 s) ∧ w'.cell? ⟨w.heap.size, 2, none⟩ = some (.int .i64 q) ∧ w'.cell? ⟨w.heap.size + 1, 0, none⟩ = some (.int .i64 c) ∧ w'.cell? ⟨w.heap.size + 1, 1, none⟩ = some (.int .i64 s') ∧ w'.cell? ⟨w.heap.size + 1, 2, none⟩ = some (.int .i64 q')) (go_keep)
    (first | (go_at_call 79; refine (compare_any _ _ _).mono ?_; rintro e w' ⟨rfl, rfl⟩) | (go_at_call 77; refine (or_any _ [sgn c c, sgn s s', sgn q q'] _ _ (by simp) (by exact three_cells _ _ _ _ _ _ (by simp))).mono ?_; rintro e w' ⟨rfl, rfl⟩))
  all_goals
    go_wp2
    go_ret
    exact ⟨rfl, ((((Below.refl _ _).alloc (Nat.le_refl _) _).alloc (by simp) _).alloc (by simp; omega) _).drew⟩

set_option maxHeartbeats 1000000 in
theorem implTagCmp_ne3 (c s q q' : Int) (w : World) (h : ¬ q = q') :
    Calls Tryd.prog 78 #[tagV c s q, tagV c s q'] w fun e w' => e = .returned (.int .i64 (orI [sgn c c, sgn s s, sgn q q'])) ∧ Below w.heap.size w w' := by
  go_enter Tryd.func78, Tryd.ntmps78
  go_wp2_with fail
  go_region_held3 (fun w' => w'.cell? ⟨w.heap.size, 0, none⟩ = some (.int .i64 c) ∧ w'.cell? ⟨w.heap.size, 1, none⟩ = some (.int .i64 s) ∧ w'.cell? ⟨w.heap.size, 2, none⟩ = some (.int .i64 q) ∧ w'.cell? ⟨w.heap.size + 1, 0, none⟩ = some (.int .i64 c) ∧ w'.cell? ⟨w.heap.size + 1, 1, none⟩ = some (.int .i64 s) ∧ w'.cell? ⟨w.heap.size + 1, 2, none⟩ = some (.int .i64 q')) (go_keep)
    (first | (go_at_call 79; refine (compare_any _ _ _).mono ?_; rintro e w' ⟨rfl, rfl⟩) | (go_at_call 77; refine (or_any _ [sgn c c, sgn s s, sgn q q'] _ _ (by simp) (by exact three_cells _ _ _ _ _ _ (by simp))).mono ?_; rintro e w' ⟨rfl, rfl⟩))
  all_goals
    go_wp2
    go_ret
    exact ⟨rfl, ((((Below.refl _ _).alloc (Nat.le_refl _) _).alloc (by simp) _).alloc (by simp; omega) _).drew⟩

theorem implTagCmp_any (c s q c' s' q' : Int) (w : World) :
    Calls Tryd.prog 78 #[tagV c s q, tagV c' s' q'] w fun e w' => e = .returned (.int .i64 (tcmp c s q c' s' q')) ∧ Below w.heap.size w w' := by
  rw [← orI_three]
  by_cases h1 : c = c'
  · by_cases h2 : s = s'
    · by_cases h3 : q = q'
      · subst h1 h2 h3
        rw [orI_three, tcmp_self]
        exact implTagCmp_eq c s q w
      · subst h1 h2
        exact implTagCmp_ne3 c s q q' w h3
    · subst h1
      exact implTagCmp_ne2 c s q s' q' w h2
  · exact implTagCmp_ne1 c s q c' s' q' w h1

end Go.Proofs.YtlbcpppmpbbkdalDoor
