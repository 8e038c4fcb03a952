/- Contracts of TagOk (spec and impl) and of toTag. -/
import Derived.Test.YtlbcpppmpbbkdalDoorTags
import Derived.Outline
import Derived.Laws.ResultCell
namespace Go.Proofs.YtlbcpppmpbbkdalDoor
open Go.ChangeShapes Go.WideShapes Go.ChangeAt Go.RowKit

abbrev tagV (c s q : Int) : Value := .agg #[.int .i64 c, .int .i64 s, .int .i64 q]

def tagOkB (c s q : Int) : Bool := btw c 1 100000 && (btw s 0 3 && btw q 1 1000)

set_option maxHeartbeats 400000 in
theorem specTagOk_any (c s q : Int) (w : World) :
    Calls Tryd.prog 53 #[tagV c s q] w fun e w' => e = .returned (.bool (tagOkB c s q)) ∧ Below w.heap.size w w' := by
  cases h1 : btw c 1 100000 <;> cases h2 : btw s 0 3 <;> cases h3 : btw q 1 1000
  all_goals
    have e : tagOkB c s q = (btw c 1 100000 && (btw s 0 3 && btw q 1 1000)) := rfl
    rw [h1, h2, h3] at e
    simp only [Bool.and_true, Bool.and_false] at e
    rw [e]
    clear e
    go_enter Tryd.func53, Tryd.ntmps53
    go_wp2_with (go_at_call 54; refine (between_any _ _ _ _).mono ?_; rintro e w' ⟨rfl, rfl⟩)
    go_ret
    exact ⟨rfl, (Below.refl _ _).alloc (Nat.le_refl _) _⟩

set_option maxHeartbeats 400000 in
theorem implTagOk_any (c s q : Int) (w : World) :
    Calls Tryd.prog 62 #[tagV c s q] w fun e w' => e = .returned (.bool (tagOkB c s q)) ∧ Below w.heap.size w w' := by
  cases h1 : btw c 1 100000 <;> cases h2 : btw s 0 3 <;> cases h3 : btw q 1 1000
  all_goals
    have e : tagOkB c s q = (btw c 1 100000 && (btw s 0 3 && btw q 1 1000)) := rfl
    rw [h1, h2, h3] at e
    simp only [Bool.and_true, Bool.and_false] at e
    rw [e]
    clear e
    go_enter Tryd.func62, Tryd.ntmps62
    go_wp2_with (go_at_call 73; refine (inRange_any _ _ _ _).mono ?_; rintro e w' ⟨rfl, rfl⟩)
    go_ret
    exact ⟨rfl, (Below.refl _ _).alloc (Nat.le_refl _) _⟩

set_option maxHeartbeats 400000 in
theorem toTag_any (c s q : Int) (w : World) :
    Calls Tryd.prog 38 #[tagV c s q] w fun e w' => e = .returned (tagV c s q) ∧ Below w.heap.size w w' := by
  go_enter Tryd.func38, Tryd.ntmps38
  go_wp2
  exact bodyPost_ret (v := tagV c s q) (by simp [results, Tryd.results38, go_sem]) rfl ⟨rfl, (((Below.refl _ _).alloc (Nat.le_refl _) _).alloc (by simp) _).alloc (by simp; omega) _⟩

end Go.Proofs.YtlbcpppmpbbkdalDoor
