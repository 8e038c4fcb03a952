/- The contract of the specification's l02Copy. -/
import Derived.Test.YtlbcpppmpbbkdalDoorMaps2
import Derived.Deep.AppendLies
import Derived.Laws.OwnMore
namespace Go.Proofs.YtlbcpppmpbbkdalDoor
open Go.ChangeShapes Go.WideShapes Go.ChangeAt Go.RowKit Go.Joins
attribute [local go_sem ↓] Go.wp_at_zero Go.wp_at_succ

def depVals (xs : List Dp) : List Value := (List.range (xs.length * 4)).map fun j => .int .i64 (depCell xs j)

theorem depVals_len (xs : List Dp) : (depVals xs).length = xs.length * 4 := by simp [depVals]

theorem holds_cells {w : World} {b o : Nat} {xs : List Dp} (h : HoldsDeps w b o xs) {j : Nat} (hj : j < xs.length * 4) : w.cell? ⟨b, o + j, none⟩ = some (.int .i64 (depCell xs j)) := by
  obtain ⟨h0, h1, h2, h3⟩ := h (j / 4) (by omega)
  have h4 : j % 4 = 0 ∨ j % 4 = 1 ∨ j % 4 = 2 ∨ j % 4 = 3 := by omega
  rcases h4 with e | e | e | e
  · rw [show j = j / 4 * 4 by omega, depCell0]
    exact h0
  · rw [show j = j / 4 * 4 + 1 by omega, depCell1, ← Nat.add_assoc]
    exact h1
  · rw [show j = j / 4 * 4 + 2 by omega, depCell2, ← Nat.add_assoc]
    exact h2
  · rw [show j = j / 4 * 4 + 3 by omega, depCell3, ← Nat.add_assoc]
    exact h3

theorem holds_of_cells {w : World} {b : Nat} {xs : List Dp} (h : ∀ j, j < xs.length * 4 → w.cell? ⟨b, j, none⟩ = some (.int .i64 (depCell xs j))) : HoldsDeps w b 0 xs := by
  intro i hi
  rw [Nat.zero_add]
  refine ⟨?_, ?_, ?_, ?_⟩
  · rw [h _ (by omega), depCell0]
  · rw [h _ (by omega), depCell1]
  · rw [h _ (by omega), depCell2]
  · rw [h _ (by omega), depCell3]

theorem depVals_cells {w : World} {b o : Nat} {xs : List Dp} (h : HoldsDeps w b o xs) : ∀ j u, (depVals xs)[j]? = some u → w.cell? ((⟨b, o, none⟩ : Addr).add j) = some u := by
  intro j u hu
  have hj : j < xs.length * 4 := by
    have := (List.getElem?_eq_some_iff.1 hu).1
    rwa [depVals_len] at this
  have e : (⟨b, o, none⟩ : Addr).add j = ⟨b, o + j, none⟩ := by
    unfold Addr.add
    split
    · rename_i h
      rw [h]
      rfl
    · rfl
  rw [e, holds_cells h hj, ← hu]
  simp [depVals, hj]

theorem depVals_one (xs : List Dp) : ∀ u ∈ depVals xs, u.oneCell' = true := by
  intro u hu
  simp only [depVals, List.mem_map] at hu
  obtain ⟨j, _, rfl⟩ := hu
  rfl

theorem depVals_holds {w : World} {base g n cap : Nat} {xs : List Dp} {t : Nat} (hl : xs.length = n) (h : w.ownsRow base t 4 (.slice (some ⟨g, 0, none⟩) n cap) n (depVals xs)) : HoldsDeps w g 0 xs := by
  subst hl
  refine holds_of_cells fun j hj => ?_
  rw [h.cellAt j hj]
  simp [depVals, hj]

theorem run_append_zero {P : Program} (w : World) (t ty e : TypeId) (i : TypeInfo) (ht : P.underlying t = some (.slice e)) (hi : P.info? e = some i) (b : Option Addr) (n c : Nat) (hle : n ≤ c) (a : Option Addr) (cap : Nat) :
    (Builtin.append_ #[t, t] ty #[.slice b n c, .slice a 0 cap]).run P w = .ok (.slice b n c) w := by
  cases a <;> cases b <;> simp [Builtin.append_, run_underlying ht, sizeOf, typeInfo, hi, Builtin.lenOf, Builtin.firstCells, hle, storeCells, loadCells, loadCellsFrom]

/-- Nothing is appended. -/
theorem wpList_append_zero {P : Program} {w : World} {ops : Array Oper} {rest : List Oper} {o : Oper} {a : Act} {Q : Exit → Act → World → Prop} (hgd : o.guard = none) (s x : Operand) (t : TypeId)
    (ho : o.op = .call { callee := .builtin .append, args := #[s, x], argTypes := #[t, t] }) (e : TypeId) (i : TypeInfo) (ht : P.underlying t = some (.slice e)) (hi : P.info? e = some i)
    (b : Option Addr) (n c : Nat) (hle : n ≤ c) (hs : a.eval s = .slice b n c) (ad : Option Addr) (cap : Nat) (hx : a.eval x = .slice ad 0 cap)
    (h : wpList P ops Q rest (a.put o.dst (.slice b n c)) w) : wpList P ops Q (o :: rest) a w := by
  refine wpList_plain hgd fun K hK => ?_
  have hrun := run_append_zero (P := P) w t o.type e i ht hi b n c hle ad cap
  unfold Oper.wp
  simp [execOp, ho, resolve, invoke, builtin, hs, hx, hrun, Result.andThen]
  exact hK _ _ h

/-- What a block holds that is not the one that was written. -/
theorem kept_block {W w1 : World} {b r t : Nat} {vs : Array Value} (hg : W.grownBy w1 (some r)) (hr : b ≠ r) (h : W.heap[b]? = some (.cells vs t (0, 0))) : (∀ j v, vs[j]? = some v → w1.cell? ⟨b, j, none⟩ = some v) ∧ ∀ j, w1.frozen? ⟨b, j, none⟩ = false := by
  have hb : b < W.heap.size := (Array.getElem?_eq_some_iff.1 h).1
  have e := hg.block b hb (by simpa using hr)
  rw [h] at e
  exact ⟨fun j v hv => by rw [cell_of_row w1 b j vs t (0, 0) e]; exact hv, fun j => frozen_of_row w1 b j vs t e⟩

theorem heap_two (w : World) (o1 o2 o3 : Obj) : (((w.alloc o1).alloc o2).alloc o3).heap[w.heap.size]? = some o1 ∧ (((w.alloc o1).alloc o2).alloc o3).heap[w.heap.size + 1]? = some o2 := by
  constructor
  · rw [Below.heap_alloc _ _ _ (by simp; omega), Below.heap_alloc _ _ _ (by simp)]
    exact heap_alloc_new w o1
  · rw [Below.heap_alloc _ _ _ (by simp)]
    have := heap_alloc_new (w.alloc o1) o2
    simpa using this

set_option maxHeartbeats 2000000 in
theorem copy_some (x : Wr) (b o cap : Nat) (w : World) (hn : x.xs.length ≤ 1048576) (hp : 0 < x.xs.length) (hlt : b < w.heap.size) (hh : HoldsDeps w b o x.xs) :
    Calls Tryd.prog 46 #[wrOf x (some ⟨b, o, none⟩) cap] w fun e w' => ∃ g cp, e = .returned (wrOf x (some ⟨g, 0, none⟩) cp) ∧ w.heap.size ≤ g ∧ g < w'.heap.size ∧ HoldsDeps w' g 0 x.xs ∧ Below w.heap.size w w' := by
  obtain ⟨xk, xc, xs', xq, xv, xd, xx⟩ := x
  simp only at hn hp hh ⊢
  have HH : Hid (HoldsDeps w b o xx) := hh
  clear hh
  obtain ⟨i0, hi0, hx0⟩ := Option.map_eq_some_iff.1 infoDep
  simp only [Prod.mk.injEq] at hx0
  have HI0 := Lib.hid hi0
  have HX0 := Lib.hid hx0
  clear hi0 hx0
  go_enter Tryd.func46, Tryd.ntmps46
  have HB0 : Hid (Below w.heap.size w (((w.alloc (.cells #[.int .i64 xk, .int .i64 xc, .int .i64 xs', .int .i64 xq, .int .i64 xv, .bool xd, .slice (some ⟨b, o, none⟩) xx.length cap] 48)).alloc (.cells #[.int .i64 0, .int .i64 0, .int .i64 0, .int .i64 0, .int .i64 0, .bool false, .slice none 0 0] 48)).alloc (.cells #[] 72))) :=
    (((Below.refl _ _).alloc (Nat.le_refl _) _).alloc (by simp) _).alloc (by simp; omega) _
  have HO0 : Hid ((((w.alloc (.cells #[.int .i64 xk, .int .i64 xc, .int .i64 xs', .int .i64 xq, .int .i64 xv, .bool xd, .slice (some ⟨b, o, none⟩) xx.length cap] 48)).alloc (.cells #[.int .i64 0, .int .i64 0, .int .i64 0, .int .i64 0, .int .i64 0, .bool false, .slice none 0 0] 48)).alloc (.cells #[] 72)).ownsRow (w.heap.size + 1 + 1) 72 4 (.slice (some ⟨w.heap.size + 1 + 1, 0, none⟩) 0 0) 0 []) := by
    have := World.ownsRow_made (base := w.heap.size + 1 + 1) (e := 72) (size := 4) ((w.alloc (.cells #[.int .i64 xk, .int .i64 xc, .int .i64 xs', .int .i64 xq, .int .i64 xv, .bool xd, .slice (some ⟨b, o, none⟩) xx.length cap] 48)).alloc (.cells #[.int .i64 0, .int .i64 0, .int .i64 0, .int .i64 0, .int .i64 0, .bool false, .slice none 0 0] 48)) #[] 0 (by simp) (by simp [maxLen]) (by simp)
    exact Lib.hid (by simpa using this)
  go_wp2_with (at_builtin; refine wpList_append_lies _ (by rfl) _ _ _ (by rfl) (w.heap.size + 1 + 1) 72 i0 (depV 0 0 0 0) 4 32 Tryd.underlying46 HI0.out HX0.out.1 HX0.out.2.1 HX0.out.2.2 (by rfl) (by omega) (.slice (some ⟨w.heap.size + 1 + 1, 0, none⟩) 0 0) 0 [] (by rfl) HO0.out ⟨b, o, none⟩ xx.length cap (depVals xx) (by rfl) (depVals_len xx) (depVals_cells (HH.out.below HB0.out hlt)) (depVals_one xx) hp (by unfold maxLen; omega) (by omega) (by simp) _ rfl ?_; intro g cp w5 hown hgrow _ hg5; refine Hid.out ?_)
  refine Lib.hid ?_
  rw [Nat.zero_add] at hown
  obtain ⟨hg4, -⟩ := (fun h => (hown.lt g h) : _ → _ ∧ _) rfl
  have HD5 : Hid (HoldsDeps w5 g 0 xx) := depVals_holds rfl hown
  have HB5 : Hid (Below w.heap.size w w5) := HB0.out.grown hgrow HB0.out.size fun k hk => by simp only [Value.ownBlock, Option.some.injEq] at hk; omega
  obtain ⟨hb0, hf0⟩ := kept_block (r := w.heap.size + 1 + 1) hgrow (by omega) (heap_two w _ _ _).1
  obtain ⟨hb1, hf1⟩ := kept_block (r := w.heap.size + 1 + 1) hgrow (by omega) (heap_two w _ _ _).2
  have b0 := hb0 0 _ rfl
  have b1 := hb0 1 _ rfl
  have b2 := hb0 2 _ rfl
  have b3 := hb0 3 _ rfl
  have b4 := hb0 4 _ rfl
  have b5 := hb0 5 _ rfl
  have b6 := hb0 6 _ rfl
  have z0 := hb1 0 _ rfl
  have z1 := hb1 1 _ rfl
  have z2 := hb1 2 _ rfl
  have z3 := hb1 3 _ rfl
  have z4 := hb1 4 _ rfl
  have z5 := hb1 5 _ rfl
  have z6 := hb1 6 _ rfl
  clear hb0 hb1
  have hz5 : w.heap.size + 1 + 1 < w5.heap.size := by have := hgrow.size; simp at this; omega
  clear hown hgrow HB0 HO0
  go_wp2
  refine bodyPost_ret (v := wrV xk xc xs' xq xv xd (some ⟨g, 0, none⟩) xx.length cp) (by simp [results, Tryd.results46, go_sem, z0, z1, z2, z3, z4, z5, z6]) rfl ⟨g, cp, rfl, by omega, by simpa using hg5, ?_, ?_⟩
  · exact (((((((HD5.out.set (by simp; omega) _).set (by simp; omega) _).set (by simp; omega) _).set (by simp; omega) _).set (by simp; omega) _).set (by simp; omega) _).set (by simp; omega) _).set (by simp; omega) _
  · exact (((((((HB5.out.setCell (by simp) _).setCell (by simp) _).setCell (by simp) _).setCell (by simp) _).setCell (by simp) _).setCell (by simp) _).setCell (by simp) _).setCell (by simp) _

set_option maxHeartbeats 2000000 in
theorem copy_none (x : Wr) (a : Option Addr) (cap : Nat) (w : World) (hx : x.xs = []) :
    Calls Tryd.prog 46 #[wrOf x a cap] w fun e w' => ∃ g cp, e = .returned (wrOf x (some ⟨g, 0, none⟩) cp) ∧ w.heap.size ≤ g ∧ g < w'.heap.size ∧ HoldsDeps w' g 0 x.xs ∧ Below w.heap.size w w' := by
  obtain ⟨xk, xc, xs', xq, xv, xd, xx⟩ := x
  simp only at hx
  subst hx
  obtain ⟨i0, hi0, -⟩ := Option.map_eq_some_iff.1 infoDep
  have HI0 := Lib.hid hi0
  clear hi0
  go_enter Tryd.func46, Tryd.ntmps46
  go_wp2_with (at_builtin; refine wpList_append_zero (by rfl) _ _ _ (by rfl) 72 i0 Tryd.underlying46 HI0.out (some ⟨w.heap.size + 1 + 1, 0, none⟩) 0 0 (by omega) (by rfl) a cap (by rfl) ?_)
  exact bodyPost_ret (v := wrV xk xc xs' xq xv xd (some ⟨w.heap.size + 1 + 1, 0, none⟩) 0 0) (by simp [results, Tryd.results46, go_sem]) rfl ⟨w.heap.size + 1 + 1, 0, rfl, by omega, by simp, fun i hi => absurd hi (Nat.not_lt_zero i), (((Below.refl _ _).alloc (Nat.le_refl _) _).alloc (by simp) _).alloc (by simp; omega) _⟩

theorem copy_any (x : Wr) (a : Option Addr) (cap : Nat) (w : World) (hn : x.xs.length ≤ 1048576) (h : IsDeps w a x.xs) :
    Calls Tryd.prog 46 #[wrOf x a cap] w fun e w' => ∃ g cp, e = .returned (wrOf x (some ⟨g, 0, none⟩) cp) ∧ w.heap.size ≤ g ∧ g < w'.heap.size ∧ HoldsDeps w' g 0 x.xs ∧ Below w.heap.size w w' := by
  rcases h with h | ⟨b, o, rfl, hlt, hh⟩
  · exact copy_none x a cap w h
  · by_cases hp : 0 < x.xs.length
    · exact copy_some x b o cap w hn hp hlt hh
    · exact copy_none x _ cap w (List.length_eq_zero_iff.1 (by omega))

end Go.Proofs.YtlbcpppmpbbkdalDoor
