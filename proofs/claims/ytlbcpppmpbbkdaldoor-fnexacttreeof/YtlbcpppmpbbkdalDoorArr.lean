/- Arrays of fixed size of the program: loads, the comparison of two as a whole, and where two trees are apart: contracts of impl.apartUpFrom and impl.leavesApart. -/
import Derived.Test.YtlbcpppmpbbkdalDoorTreeP
import Derived.Test.YtlbcpppmpbbkdalDoorInts
import Derived.Deep.MidRow
namespace Go.Proofs.YtlbcpppmpbbkdalDoor
open Go.ChangeShapes Go.WideShapes Go.ChangeAt Go.RowKit Go.Joins
attribute [local go_sem ↓] Go.wp_at_zero Go.wp_at_succ

/-- The cells of an array of fifteen numbers. -/
def IsArr (cs : Array Value) (zs : List Int) : Prop := cs = (zs.map intV).toArray ∧ zs.length = 15

set_option maxRecDepth 100000 in
theorem IsArr.get {cs : Array Value} {zs : List Int} (h : IsArr cs zs) {i : Nat} (hi : i < 15) : cs[i]? = some (.int .i64 (zs.getD i 0)) := by
  obtain ⟨rfl, hl⟩ := h
  have hi' : i < zs.length := by omega
  simp [intV, List.getD, hi']

set_option maxRecDepth 100000 in
theorem IsArr.size {cs : Array Value} {zs : List Int} (h : IsArr cs zs) : cs.size = 15 := by
  obtain ⟨rfl, hl⟩ := h
  simp [hl]

set_option maxRecDepth 100000 in
theorem infoTree : (Tryd.prog.info? 51).map (·.size) = some 15 := by kernel_rfl

set_option maxRecDepth 100000 in
theorem under_tree : Tryd.prog.underlying 51 = some (.array 15 3) := by kernel_rfl

def sameAt (xs ys : List Int) (i : Nat) : Bool := decide (xs.getD i 0 = ys.getD i 0)

set_option maxRecDepth 100000 in
theorem eq_from {P : Program} (xs ys : List Int) (F : Nat → Option Bool × PUnit → Sem (ForInStep (Option Bool × PUnit))) (hF : ∀ i, i < 15 → ∀ s w, (F i s).run P w = .ok (if sameAt xs ys i = true then .yield (none, ()) else .done (some false, ())) w) (w : World) :
    ∀ (n k : Nat), k + n = 15 → (forIn (List.range' k n) ((none, ()) : Option Bool × PUnit) F).run P w = .ok (if (List.range' k n).all (sameAt xs ys) = true then (none, ()) else (some false, ())) w
  | 0, k, h => rfl
  | n + 1, k, h => by
    rw [List.range'_succ, List.forIn_cons, Sem.run_bind, hF k (by omega), List.all_cons]
    cases he : sameAt xs ys k
    · rfl
    · simp only [if_true, Result.andThen_ok, Bool.true_and]
      exact eq_from xs ys F hF w n (k + 1) (by omega)

set_option maxRecDepth 100000 in
theorem same_from {xs ys : List Int} (hx : xs.length = 15) (hy : ys.length = 15) : (List.range' 0 15).all (sameAt xs ys) = decide (xs = ys) := by
  rw [Bool.eq_iff_iff, List.all_eq_true, decide_eq_true_iff]
  constructor
  · intro h
    apply List.ext_getElem (by omega)
    intro i h1 h2
    have := h i (by simp; omega)
    simpa [sameAt, List.getD, h1, h2] using this
  · rintro rfl
    exact fun _ _ => by simp [sameAt]

set_option maxRecDepth 100000 in
theorem eql_arr (d : Nat) (w : World) {cs ds : Array Value} {xs ys : List Int} (h : IsArr cs xs) (h' : IsArr ds ys) : (Op.equalIn (d + 2) 51 (.agg cs) (.agg ds)).run Tryd.prog w = .ok (decide (xs = ys)) w := by
  have hp : ∀ (es : Array Value) (zs : List Int), IsArr es zs → ∀ i, i < 15 → ∀ w, (part 3 es (i * 1)).run Tryd.prog w = .ok (.int .i64 (zs.getD i 0)) w := fun es zs he i hi w => by
    have e := he.get hi
    simp [part, Tryd.isAgg3, e, Sem.run_bind]
  have hq : ∀ x y w, (Op.equalIn (d + 1) 3 (.int .i64 x) (.int .i64 y)).run Tryd.prog w = .ok (x == y) w := fun x y w => run_equalIn_int w d 3 .i64 .i64 x y Tryd.underlying3
  rw [Op.equalIn]
  simp only [Sem.run_bind, run_underlying under_tree, Result.andThen_ok, Tryd.sizeOf3]
  rw [Std.Legacy.Range.forIn_eq_forIn_range']
  have he := eq_from (P := Tryd.prog) xs ys (fun i _ => do
      let a ← part 3 cs (i * 1)
      let b ← part 3 ds (i * 1)
      let r ← Op.equalIn (d + 1) 3 a b
      if (!r) = true then pure (ForInStep.done (some false, ())) else pure (ForInStep.yield (none, ()))) (fun i hi s w => by
    simp only [Sem.run_bind, hp cs xs h i hi, hp ds ys h' i hi, hq, Result.andThen_ok]
    have hz : (xs.getD i 0 == ys.getD i 0) = sameAt xs ys i := by rw [Bool.eq_iff_iff]; simp [sameAt]
    rw [hz]
    cases sameAt xs ys i <;> rfl) w 15 0 rfl
  rw [same_from h.2 h'.2] at he
  have hr : List.range' [:15].start [:15].size [:15].step = List.range' 0 15 := rfl
  rw [hr, he]
  by_cases hx : xs = ys
  · simp [hx]
  · simp [hx]

end Go.Proofs.YtlbcpppmpbbkdalDoor
