/- Appending numbers: onto an empty row inside a region that draws its order, and onto a row behind it. -/
import Derived.Test.YtofejfmfbifphacDoorIntsIn
import Derived.Test.YtofejfmfbifphacDoorSlots
import Derived.Test.YtofejfmfbifphacDoorCopy
import Derived.Test.YtofejfmfbifphacDoorRingRow
import Derived.Laws.Append
namespace Go.Proofs.YtofejfmfbifphacDoor
open Go.ChangeShapes Go.WideShapes Go.ChangeAt Go.RowKit Go.Joins

set_option maxRecDepth 100000 in
theorem addI (b o j : Nat) : ((⟨b, o, none⟩ : Addr).add j) = ⟨b, o + j, none⟩ := by
  unfold Addr.add
  split
  · rename_i h
    rw [h]
    rfl
  · rfl

set_option maxRecDepth 100000 in
theorem isIs_cells {w : World} {b o : Nat} {ys : List Int} (hh : ∀ i, i < ys.length → w.cell? ⟨b, o + i, none⟩ = some (.int .i64 (ys.getD i 0))) : ∀ j u, (ys.map intV)[j]? = some u → w.cell? ((⟨b, o, none⟩ : Addr).add j) = some u := by
  intro j u hu
  have hj : j < ys.length := by have := (List.getElem?_eq_some_iff.1 hu).1; simpa using this
  rw [addI, hh j hj, ← hu]
  simp [intV, List.getD, hj]

set_option maxRecDepth 100000 in
theorem IsIs.take {w : World} {a : Option Addr} {zs : List Int} (h : IsIs w a zs) (k : Nat) : IsIs w a (zs.take k) := by
  rcases h with rfl | ⟨b, o, ha, hlt, hh⟩
  · exact .inl (by simp)
  · refine .inr ⟨b, o, ha, hlt, fun i hi => ?_⟩
    have hi' : i < k ∧ i < zs.length := by simpa [Nat.lt_min] using hi
    rw [hh i hi'.2]
    simp [List.getD, hi'.1]

set_option maxRecDepth 100000 in
theorem IsInts.drop {w : World} {b : Nat} {zs : List Int} (h : IsInts w (some ⟨b, 0, none⟩) zs) (k : Nat) : IsIs w (some ⟨b, k, none⟩) (zs.drop k) := by
  rcases h with rfl | ⟨b', ha, hlt, hh⟩
  · exact .inl (by simp)
  · simp only [Option.some.injEq, Addr.mk.injEq, and_true] at ha
    subst ha
    refine .inr ⟨b, k, rfl, hlt, fun i hi => ?_⟩
    have hi' : k + i < zs.length := by simp at hi; omega
    rw [hh (k + i) hi']
    simp [List.getD]

set_option maxRecDepth 100000 in
theorem RowI.room {w : World} {base : Nat} {a : Option Addr} {n cap : Nat} {zs : List Int} (h : RowI w base (.slice a n cap) zs) : n ≤ cap ∧ cap ≤ maxLen := by
  rcases h.2 with ⟨h', h0⟩ | ⟨g, c, cur, h', -, -, hle, hm, -⟩
  · injection h' with _ h1 h2
    subst h1 h2
    exact ⟨Nat.le_refl _, Nat.zero_le _⟩
  · injection h' with _ h1 h2
    subst h2
    exact ⟨by omega, hm⟩

/-- A row of numbers in a block of its own. -/
def FreshI (B : Nat) (ys : List Int) : Fact := fun v w => RowI w B v ys ∧ ∃ g cap, v = .slice (some ⟨g, 0, none⟩) ys.length cap ∧ B ≤ g ∧ ys.length ≤ cap

def RowB (w w' : World) : Prop := Below w.heap.size w w'

set_option maxRecDepth 100000 in
theorem lasts_fresh (B : Nat) (ys : List Int) : lasts RowB (FreshI B ys) := by
  rintro v w w' ⟨h1, h2⟩ hr
  exact ⟨h1.below hr, h2⟩

set_option maxRecDepth 100000 in
theorem fresh_empty (w : World) (B : Nat) (hB : B ≤ w.heap.size) : FreshI B [] (.slice (some ⟨w.heap.size, 0, none⟩) 0 0) (w.alloc (.cells #[] 3)) :=
  ⟨⟨rfl, .inr ⟨w.heap.size, 0, #[], rfl, hB, heap_alloc_new w _, Nat.le_refl _, Nat.zero_le _, rfl, rfl⟩⟩, _, _, rfl, hB, Nat.le_refl _⟩

def EmptyF (B : Nat) : Fact := fun v w => ∃ g, v = .slice (some ⟨g, 0, none⟩) 0 0 ∧ FreshI B [] v w

set_option maxRecDepth 100000 in
theorem lasts_emptyF (B : Nat) : lasts RowB (EmptyF B) := by
  rintro v w w' ⟨g, h1, h2⟩ hr
  exact ⟨g, h1, lasts_fresh _ _ _ _ _ h2 hr⟩

set_option maxRecDepth 100000 in
theorem emptyF_mk (w : World) (B : Nat) (hB : B ≤ w.heap.size) : EmptyF B (.slice (some ⟨w.heap.size, 0, none⟩) 0 0) (w.alloc (.cells #[] 3)) := ⟨_, rfl, fresh_empty w B hB⟩

set_option maxRecDepth 100000 in
theorem run_append_first {P : Program} (w : World) (t ty e : TypeId) (i : TypeInfo) (z : Value) (ht : P.underlying t = some (.slice e)) (hi : P.info? e = some i) (hz : i.zero = some z) (b : Addr) (a : Addr) (n c : Nat) (news : List Value) (hl : news.length = n * i.size) (hnews : ∀ j v, news[j]? = some v → w.cell? (a.add j) = some v)
    (h0 : 0 < n) (h63 : (n : Int) ≤ 9223372036854775807) (h48 : n * i.bytes ≤ 281474976710656) :
    (Builtin.append_ #[t, t] ty #[.slice (some b) 0 0, .slice (some a) n c]).run P w = (Builtin.append_ #[t, t] ty #[.slice none 0 0, .slice (some a) n c]).run P w := by
  rw [run_append_nil w t ty e i z ht hi hz a n c news hl hnews h0 h63 h48]
  rw [run_append_grow w t ty e i z ht hi hz b 0 0 [] (by simp) (by simp) a n c news hl hnews (by omega) (by simpa using h63) (by rw [Nat.zero_add, nextslicecap_zero h0]; exact h48)]
  simp

set_option maxRecDepth 100000 in
/-- In a region that draws its order. -/
theorem got_append_first {o : Oper} {ρ : Operand → Value} {w : World} (s x : Operand)
    (ho : o.op = .call { callee := .builtin .append, args := #[s, x], argTypes := #[24, 24] }) (B g : Nat) (hs : ρ s = .slice (some ⟨g, 0, none⟩) 0 0) (hf : FreshI B [] (.slice (some ⟨g, 0, none⟩) 0 0) w)
    (sa : Option Addr) (m c : Nat) (ys : List Int) (hm : ys.length = m) (hx : ρ x = .slice sa m c) (src : IsIs w sa ys) (hb : m ≤ 1048576) (hB : B ≤ w.heap.size) : got Tryd.prog (fun v w' => RowB w w' ∧ FreshI B ys v w') ((execOp ρ o).run Tryd.prog w) := by
  obtain ⟨i0, hi0, hx0⟩ := Option.map_eq_some_iff.1 infoInt
  simp only [Prod.mk.injEq] at hx0
  subst hm
  have hzero : ys = [] → got Tryd.prog (fun v w' => RowB w w' ∧ FreshI B ys v w') ((execOp ρ o).run Tryd.prog w) := by
    rintro rfl
    have hr := run_append_zero (P := Tryd.prog) w 24 o.type 3 i0 Tryd.underlying24 hi0 (some ⟨g, 0, none⟩) 0 0 (Nat.le_refl _) sa c
    unfold execOp
    simp only [ho, resolve, invoke, builtin, Sem.run_bind, Sem.run_pure, Result.andThen_ok, List.map_toArray, List.map_cons, List.map_nil, hs, hx, List.length_nil, hr]
    exact ⟨Below.refl _ _, hf⟩
  rcases src with h | ⟨b, off, rfl, hlt, hh⟩
  · exact hzero h
  by_cases h0 : ys.length = 0
  · exact hzero (List.length_eq_zero_iff.1 h0)
  have hn := isIs_cells hh
  have hl : (ys.map intV).length = ys.length * 1 := by simp
  have hfirst := run_append_first (P := Tryd.prog) w 24 o.type 3 i0 (.int .i64 0) Tryd.underlying24 hi0 hx0.1 ⟨g, 0, none⟩ ⟨b, off, none⟩ ys.length c (ys.map intV) (by rw [hx0.2.1]; exact hl) hn (by omega) (by omega) (by rw [hx0.2.2]; omega)
  obtain ⟨g', cap, w', hr, h2, h3, h4, h5⟩ := run_append_lies (P := Tryd.prog) w 24 o.type w.heap.size 3 i0 (.int .i64 0) 1 8 Tryd.underlying24 hi0 hx0.1 hx0.2.1 hx0.2.2 (by rfl) (by omega) (.slice none 0 0) 0 [] ⟨by simp, .inl ⟨rfl, rfl⟩⟩ ⟨b, off, none⟩ ys.length c (ys.map intV) hl hn (intV_one ys) (by omega) (by unfold maxLen; omega) (by omega) (Nat.le_refl _) _ rfl
  unfold execOp
  simp only [ho, resolve, invoke, builtin, Sem.run_bind, Sem.run_pure, Result.andThen_ok, List.map_toArray, List.map_cons, List.map_nil, hs, hx, hfirst, hr]
  have hown : RowI w' w.heap.size (.slice (some ⟨g', 0, none⟩) ys.length cap) ys := by
    unfold RowI
    simpa using h2
  refine ⟨⟨h3.os, h3.tape, h3.output, h3.size, fun k hk => h3.block k hk (by simp [Value.ownBlock])⟩, ?_⟩
  rw [Nat.zero_add]
  refine ⟨hown.mono hB, g', cap, rfl, ?_⟩
  rcases hown.2 with ⟨h, -⟩ | ⟨g2, cap2, cur, h, hb2, -, hle, -⟩
  · cases h
  · simp only [Value.slice.injEq, Option.some.injEq, Addr.mk.injEq, and_true] at h
    obtain ⟨rfl, -, rfl⟩ := h
    exact ⟨by omega, hle⟩

set_option maxRecDepth 100000 in
/-- At a list of operations. -/
theorem append_ints {w : World} {ops : Array Oper} {rest : List Oper} {o : Oper} {a : Act} {Q : Exit → Act → World → Prop} (hgd : o.guard = none) (s x : Operand)
    (ho : o.op = .call { callee := .builtin .append, args := #[s, x], argTypes := #[24, 24] }) (base g cap n : Nat) (zs : List Int) (hn : zs.length = n) (hs : a.eval s = .slice (some ⟨g, 0, none⟩) n cap) (row : RowI w base (.slice (some ⟨g, 0, none⟩) n cap) zs) (hroom : n ≤ cap) (hbg : base ≤ g)
    (sa : Option Addr) (cap2 m : Nat) (ys : List Int) (hm : ys.length = m) (hx : a.eval x = .slice sa m cap2) (src : IsIs w sa ys) (k : Nat) (hk : n + m = k) (hb : k ≤ 1048576) (hB : base ≤ w.heap.size)
    (h : ∀ g' cap' w', RowI w' base (.slice (some ⟨g', 0, none⟩) k cap') (zs ++ ys) → Below base w w' → wpList Tryd.prog ops Q rest (a.put o.dst (.slice (some ⟨g', 0, none⟩) k cap')) w') : wpList Tryd.prog ops Q (o :: rest) a w := by
  obtain ⟨i0, hi0, hx0⟩ := Option.map_eq_some_iff.1 infoInt
  simp only [Prod.mk.injEq] at hx0
  subst hn
  subst hm
  subst hk
  rcases src with rfl | ⟨b, off, rfl, hlt, hh⟩
  · refine wpList_append_zero hgd s x _ ho 3 i0 Tryd.underlying24 hi0 (some ⟨g, 0, none⟩) zs.length cap hroom hs _ cap2 hx ?_
    exact h g cap w (by simpa using row) (Below.refl _ _)
  by_cases h0 : ys.length = 0
  · have e2 : ys = [] := List.length_eq_zero_iff.1 h0
    subst e2
    refine wpList_append_zero hgd s x _ ho 3 i0 Tryd.underlying24 hi0 (some ⟨g, 0, none⟩) zs.length cap hroom hs _ cap2 hx ?_
    exact h g cap w (by simpa using row) (Below.refl _ _)
  · refine wpList_append_lies w hgd s x _ ho base 3 i0 (.int .i64 0) 1 8 Tryd.underlying24 hi0 hx0.1 hx0.2.1 hx0.2.2 (by rfl) (by omega) _ zs.length (zs.map intV) hs row ⟨b, off, none⟩ ys.length cap2 (ys.map intV) hx (by simp) (isIs_cells hh) (intV_one ys) (by omega) (by unfold maxLen; omega) (by omega) hB _ rfl fun g5 cap5 w5 hown hgrow _ _ => ?_
    refine h g5 cap5 w5 ?_ ⟨hgrow.os, hgrow.tape, hgrow.output, hgrow.size, fun k hk => hgrow.block k (by omega) (by simp [Value.ownBlock]; omega)⟩
    unfold RowI
    rw [List.length_append, List.map_append]
    exact hown

end Go.Proofs.YtofejfmfbifphacDoor
