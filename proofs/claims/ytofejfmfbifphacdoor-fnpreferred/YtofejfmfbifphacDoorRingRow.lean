/- Rows of points that grow; copies of two cells an element. -/
import Derived.Test.YtofejfmfbifphacDoorPts
import Derived.Deep.AppendLies
import Derived.Laws.CopyRow
import Derived.Laws.NewBlocks
import Derived.OwnWalk
namespace Go.Proofs.YtofejfmfbifphacDoor
open Go.ChangeShapes Go.WideShapes Go.ChangeAt Go.RowKit Go.Joins

def ptVals (p : Pt) : List Value := [.int .i64 p.t, .int .i64 p.n]

set_option maxRecDepth 100000 in
theorem pts_len : ∀ ps : List Pt, (ps.flatMap ptVals).length = ps.length * 2
  | [] => rfl
  | p :: ps => by
    rw [List.flatMap_cons, List.length_append, pts_len ps]
    simp [ptVals]
    omega

set_option maxRecDepth 100000 in
theorem pts_take : ∀ (ps : List Pt) (i : Nat), (ps.flatMap ptVals).take (i * 2) = (ps.take i).flatMap ptVals
  | _, 0 => by simp
  | [], _ + 1 => by simp
  | p :: ps, i + 1 => by
    rw [List.take_succ_cons, List.flatMap_cons, List.flatMap_cons, List.take_append, ← pts_take ps i]
    have e1 : (ptVals p).take ((i + 1) * 2) = ptVals p := List.take_of_length_le (by simp [ptVals]; omega)
    rw [e1]
    congr 2
    simp [ptVals]
    omega

set_option maxRecDepth 100000 in
theorem pts_drop : ∀ (ps : List Pt) (i : Nat), (ps.flatMap ptVals).drop (i * 2) = (ps.drop i).flatMap ptVals
  | _, 0 => by simp
  | [], _ + 1 => by simp
  | p :: ps, i + 1 => by
    rw [List.drop_succ_cons, List.flatMap_cons, List.drop_append, ← pts_drop ps i]
    have e1 : (ptVals p).drop ((i + 1) * 2) = [] := List.drop_eq_nil_of_le (by simp [ptVals]; omega)
    rw [e1, List.nil_append]
    congr 1
    simp [ptVals]
    omega

set_option maxRecDepth 100000 in
theorem pts_one (ps : List Pt) : ∀ u ∈ ps.flatMap ptVals, u.oneCell' = true := by
  intro u hu
  obtain ⟨p, _, hp⟩ := List.mem_flatMap.1 hu
  simp only [ptVals, List.mem_cons, List.not_mem_nil, or_false] at hp
  rcases hp with rfl | rfl <;> rfl

set_option maxRecDepth 100000 in
theorem pts_at : ∀ (ps : List Pt) (i c : Nat), i < ps.length → c < 2 → (ps.flatMap ptVals)[i * 2 + c]? = (ptVals (ps.getD i pz))[c]?
  | [], _, _, h, _ => by simp at h
  | p :: ps, 0, c, _, hc => by
    rw [List.flatMap_cons, List.getElem?_append_left (by simp [ptVals]; omega)]
    simp
  | p :: ps, i + 1, c, h, hc => by
    rw [List.flatMap_cons, List.getElem?_append_right (by simp [ptVals]; omega)]
    have e : (i + 1) * 2 + c - (ptVals p).length = i * 2 + c := by simp [ptVals]; omega
    rw [e, pts_at ps i c (by simpa using h) hc]
    simp

/-- A row of points that grows. -/
def RowP (w : World) (base : Nat) (v : Value) (ps : List Pt) : Prop := w.ownsRow base 32 2 v ps.length (ps.flatMap ptVals)

set_option maxRecDepth 100000 in
theorem RowP.below {w w' : World} {base : Nat} {v : Value} {ps : List Pt} (h : RowP w base v ps) (hb : Below w.heap.size w w') : RowP w' base v ps :=
  World.ownsRow.kept (row := none) h ⟨hb.os, hb.tape, hb.output, hb.size, fun k hk _ => hb.block k hk⟩ (by
    by_cases e : v.ownBlock = none
    · exact .inl e
    · exact .inr e)

set_option maxRecDepth 100000 in
theorem RowP.mono {w : World} {base base' : Nat} {v : Value} {ps : List Pt} (h : RowP w base v ps) (hb : base' ≤ base) : RowP w base' v ps := by
  refine ⟨h.1, ?_⟩
  rcases h.2 with h1 | ⟨g, cap, cur, h1, h2, h3⟩
  · exact .inl h1
  · exact .inr ⟨g, cap, cur, h1, Nat.le_trans hb h2, h3⟩

set_option maxRecDepth 100000 in
theorem RowP.form {w : World} {base : Nat} {v : Value} {ps : List Pt} (h : RowP w base v ps) : ∃ a cap, v = .slice a ps.length cap ∧ OwnP w base w.heap.size a ps := by
  rcases h.2 with ⟨h1, h2⟩ | ⟨g, cap, cur, h1, h2, h3, _⟩
  · exact ⟨none, 0, by rw [h1, h2], .inl (List.length_eq_zero_iff.1 h2)⟩
  · have hlt : g < w.heap.size := (Array.getElem?_eq_some_iff.1 h3).1
    subst h1
    refine ⟨_, cap, rfl, .inr ⟨g, rfl, h2, hlt, hlt, fun i hi => ⟨?_, ?_⟩, fun o => World.ownsRow.frozenAt h o⟩⟩
    · rw [Nat.zero_add, World.ownsRow.cellAt h (i * 2) (by omega), show i * 2 = i * 2 + 0 by omega, pts_at ps i 0 hi (by omega)]
      rfl
    · rw [Nat.zero_add, World.ownsRow.cellAt h (i * 2 + 1) (by omega), pts_at ps i 1 hi (by omega)]
      rfl

set_option maxRecDepth 100000 in
/-- A copy, whatever the elements' size: the target is a row that is told as a whole. -/
theorem run_copy_wide {P : Program} (w : World) (dT sT ty elem : TypeId) (size : Nat) (g o dLen dCap : Nat) (a : Addr) (sLen sCap : Nat) (cur : Array Value) (t : TypeId) (cs : List Value)
    (hu : P.underlying dT = some (.slice elem)) (hs : (P.info? elem).map (·.size) = some size)
    (hg : w.heap[g]? = some (.cells cur t (0, 0))) (hn : cs.length = Nat.min sLen dLen * size)
    (hsrc : ∀ j v, cs[j]? = some v → w.cell? (a.add j) = some v) (hfit : o + cs.length ≤ cur.size) (h1 : ∀ v ∈ cs, v.oneCell' = true) :
    (Builtin.copy_ #[dT, sT] ty #[.slice (some ⟨g, o, none⟩) dLen dCap, .slice (some a) sLen sCap]).run P w =
      .ok (goInt (Nat.min sLen dLen)) (w.setRow g (cur.toList.take o ++ cs ++ cur.toList.drop (o + cs.length)).toArray) := by
  have hl := run_loadCells_list (P := P) w a cs hsrc
  have hst := run_storeCells_at P g o t cs 0 cur w hg (by simpa using hfit) h1
  cases hq : P.info? elem with
  | none => simp [hq] at hs
  | some i =>
    have hi : i.size = size := by simpa [hq] using hs
    simp only [Builtin.copy_, Builtin.lenOf, Builtin.firstCells, sizeOf, typeInfo]
    rw [hn] at hl
    simp [run_underlying hu, hq, hi, hl, hst]

set_option maxRecDepth 100000 in
/-- The operation copy, where its run is known. -/
theorem wpList_copy_wide {P : Program} (w : World) {ops : Array Oper} {rest : List Oper} {o : Oper} {a : Act} {Q : Exit → Act → World → Prop} (hgd : o.guard = none) (d s : Operand) (t t' : TypeId)
    (ho : o.op = .call { callee := .builtin .copy, args := #[d, s], argTypes := #[t, t'] }) (v u : Value) (hd : a.eval d = v) (hs : a.eval s = u) {v' : Value} {w' : World}
    (hr : (Builtin.copy_ #[t, t'] o.type #[v, u]).run P w = .ok v' w') (h : wpList P ops Q rest (a.put o.dst v') w') : wpList P ops Q (o :: rest) a w := by
  refine wpList_plain hgd fun K hK => ?_
  unfold Oper.wp
  simp [execOp, ho, resolve, invoke, builtin, hd, hs, hr, Result.andThen]
  exact hK _ _ h

set_option maxRecDepth 100000 in
theorem grown_setRow (w : World) (g : Nat) (cs : Array Value) : w.grownBy (w.setRow g cs) (some g) :=
  ⟨rfl, rfl, rfl, by simp [World.setRow], fun k _ hk => by
    have hne : g ≠ k := fun e => hk (by rw [e])
    simp [World.setRow, Array.getElem?_modify, hne]⟩

set_option maxRecDepth 100000 in
theorem grown_drew (w : World) (row : Option Nat) : w.grownBy w.drew row := ⟨rfl, rfl, rfl, Nat.le_refl _, fun _ _ _ => rfl⟩

set_option maxRecDepth 100000 in
theorem grown_trans {a b c : World} {row : Option Nat} (h : a.grownBy b row) (k : b.grownBy c row) : a.grownBy c row :=
  ⟨k.os.trans h.os, k.tape.trans h.tape, k.output.trans h.output, Nat.le_trans h.size k.size, fun i hi hr => (k.block i (Nat.lt_of_lt_of_le hi h.size) hr).trans (h.block i hi hr)⟩

end Go.Proofs.YtofejfmfbifphacDoor
