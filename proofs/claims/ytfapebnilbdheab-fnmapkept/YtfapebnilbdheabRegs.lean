/- Registers: a map whose keys are arrays of one number, told as a function from keys to writes. -/
import Derived.Test.YtfapebnilbdheabPlainM
import Derived.Test.YtfapebnilbdheabIMap2
import Derived.Maps.OwnSet
import Derived.DeepKeys4
namespace Go.Proofs.Ytfapebnilbdheab
open Go.ChangeShapes Go.WideShapes Go.ChangeAt Go.RowKit Go.Joins Go.Maps

abbrev slotV (k : Int) : Value := .agg #[.int .i64 k]

def slotL (k : Int) : Lit := .string (keyBytes [.int .i64 k])

theorem slot_row : (80 : TypeId) < Try.prog.types.size := of_decide_eq_true (by kernel_rfl)

theorem slot_cells : Try.prog.cellsOf 80 = 1 := by kernel_rfl

theorem slot_int : Try.prog.cellsOf 3 = 1 := by kernel_rfl

theorem slot_wide : (match Try.prog.underlying 80 with | some (.array _ _) | some (.struct _) => true | _ => false) = true := by rw [Try.underlying80]

theorem slot_law : Keyed Try.prog 80 := Keyed.of_law (deep_law_laid laidOut (m := 2) (by omega) slot_row (by kernel_rfl) slot_wide)

theorem slot_type : Try.prog.keyType 80 = true := by kernel_rfl

theorem slot_key {k : Int} (h : -9223372036854775808 ≤ k ∧ k ≤ 9223372036854775807) : keyOf Try.prog 80 (slotV k) = some (slotL k) := by
  have hw : (Lit.int .i64 k).wf = true := by
    simp only [Lit.wf, Bool.and_eq_true, decide_eq_true_eq]
    exact h
  have hf : (slotV k).formed Try.prog 80 = true := by simp [Value.formed, Try.underlying80, slot_cells]
  obtain ⟨m, hm⟩ : ∃ m, Try.prog.types.size = m + 1 := ⟨Try.prog.types.size - 1, (Nat.sub_add_cancel (Nat.lt_of_le_of_lt (Nat.zero_le _) slot_row)).symm⟩
  unfold keyOf
  rw [Try.underlying80]
  simp only [slot_type, hf, Bool.and_self, if_true]
  rw [hm]
  simp [Program.keyLits, Try.underlying80, Try.underlying3, slot_cells, slot_int, Value.cells, hw, slotL, List.range, List.range.loop]

theorem slot_lit {k : Int} (h : -9223372036854775808 ≤ k ∧ k ≤ 9223372036854775807) : WideAt.IsKeyLit (slotL k) := slot_law.key (slot_key h)

theorem slot_inj {k k' : Int} (h : -9223372036854775808 ≤ k ∧ k ≤ 9223372036854775807) (h' : -9223372036854775808 ≤ k' ∧ k' ≤ 9223372036854775807) (e : slotL k = slotL k') : k = k' := by
  have h1 := slot_key h
  rw [e] at h1
  have := slot_law.inj h1 (slot_key h')
  simpa using this

theorem zeroW (w : World) : (zeroValue 31).run Try.prog w = .ok (wrV 0 0 0 0 0 false none 0 0) w := by kernel_rfl

/-- An element is told by itself. -/
def asIs (v : Value) : Option (DataW Value × List MemPlace) := some (.held v, [])

/-- Block b is registers that hold f. -/
def RegsAre (w : World) (b n : Nat) (f : Int → Option Value) : Prop :=
  ∃ D : DataW Value, w.ownsMap Try.prog 80 asIs b n D ∧ ∀ k : Int, -9223372036854775808 ≤ k ∧ k ≤ 9223372036854775807 →
    (f k = none → Maps.has D (slotL k) = false) ∧ ∀ v, f k = some v → Maps.has D (slotL k) = true ∧ ∀ z, D.atKey (slotL k) z = .held v

theorem regs_made (w : World) : RegsAre (w.alloc (.map #[] 0)) w.heap.size 0 (fun _ => none) :=
  ⟨.map [], World.ownsMap_made w _ _ _, fun _ _ => ⟨fun _ => rfl, fun v h => by cases h⟩⟩

theorem RegsAre.lt {w : World} {b n : Nat} {f : Int → Option Value} (h : RegsAre w b n f) : b < w.heap.size := by
  obtain ⟨D, h1, _⟩ := h
  exact h1.lt

theorem RegsAre.of_block {w w' : World} {b n : Nat} {f : Int → Option Value} (h : RegsAre w b n f) (hb : w'.heap[b]? = w.heap[b]?) : RegsAre w' b n f := by
  obtain ⟨D, ⟨es, clock, h1, h2⟩, h3⟩ := h
  exact ⟨D, ⟨es, clock, hb.trans h1, h2⟩, h3⟩

/-- A look-up. -/
theorem RegsAre.look {w : World} {b n : Nat} {f : Int → Option Value} (h : RegsAre w b n f) {k : Int} (hk : -9223372036854775808 ≤ k ∧ k ≤ 9223372036854775807) :
    (Instr.lookup 65 (.map (some b)) (slotV k) true).run Try.prog w = .ok (match f k with | none => .tuple #[wrV 0 0 0 0 0 false none 0 0, .bool false] | some v => .tuple #[v, .bool true]) w := by
  obtain ⟨D, h1, h2⟩ := h
  obtain ⟨v, ps, hrun, hv⟩ := h1.look_ok slot_law Try.underlying65 (zeroW w) (zd := .held (wrV 0 0 0 0 0 false none 0 0)) (zp := []) rfl (slot_key hk)
  rw [hrun]
  have e : (DataW.held v : DataW Value) = D.atKey (slotL k) (.held (wrV 0 0 0 0 0 false none 0 0)) := by
    simp only [asIs, Option.some.injEq, Prod.mk.injEq] at hv
    exact hv.1
  cases hf : f k with
  | none =>
    rw [(h2 k hk).1 hf]
    rw [atKey_of_not_has ((h2 k hk).1 hf)] at e
    injection e with e
    rw [e]
  | some u =>
    obtain ⟨h3, h4⟩ := (h2 k hk).2 u hf
    rw [h3]
    rw [h4] at e
    injection e with e
    rw [e]

theorem wpList_look {w : World} {ops : Array Oper} {rest : List Oper} {o : Oper} {a : Act} {Q : Exit → Act → World → Prop} (hg : o.guard = none) (m x : Operand) (hop : o.op = Op.lookup 65 m x true)
    {b n : Nat} {f : Int → Option Value} (h : RegsAre w b n f) (k : Int) (hk : -9223372036854775808 ≤ k ∧ k ≤ 9223372036854775807) (hm : a.eval m = .map (some b)) (hx : a.eval x = slotV k)
    (hK : wpList Try.prog ops Q rest (a.put o.dst (match f k with | none => .tuple #[wrV 0 0 0 0 0 false none 0 0, .bool false] | some v => .tuple #[v, .bool true])) w) : wpList Try.prog ops Q (o :: rest) a w := by
  refine wpList_plain hg fun K' hK' => ?_
  unfold Oper.wp
  simp [execOp, hop, hm, hx, h.look hk, Result.andThen]
  exact hK' _ _ hK

/-- A store. -/
theorem wpList_store {w : World} {ops : Array Oper} {rest : List Oper} {o : Oper} {a : Act} {Q : Exit → Act → World → Prop} (hg : o.guard = none) (m x u : Operand) (hop : o.op = Op.mapUpdate 65 m x u)
    {b n : Nat} {f : Int → Option Value} (h : RegsAre w b n f) (hn : n < maxLen) (k : Int) (hk : -9223372036854775808 ≤ k ∧ k ≤ 9223372036854775807) (v : Value) (hm : a.eval m = .map (some b)) (hx : a.eval x = slotV k) (hu : a.eval u = v)
    (hK : ∀ w', RegsAre w' b (n + 1) (fun j => if j = k then some v else f j) → w.mapTurned w' b → wpList Try.prog ops Q rest (a.put o.dst undef) w') : wpList Try.prog ops Q (o :: rest) a w := by
  obtain ⟨D, h1, h2⟩ := h
  refine wpList_mapUpdate_in w hg m x u _ hop _ _ slot_law Try.underlying65 asIs b n D hm h1 hn _ v (slotL k) hx hu (slot_key hk) (.held v) [] rfl fun w' h3 h4 => hK w' ⟨_, h3, fun j hj => ?_⟩ h4
  by_cases e : j = k
  · subst e
    exact ⟨fun h => by simp at h, fun v' h => by
      have : v = v' := by simpa using h
      subst this
      exact ⟨has_put_same h1.isMap (slot_lit hj) _, fun z => atKey_put_same h1.isMap (slot_lit hj) _ _⟩⟩
  · have hne : slotL j ≠ slotL k := fun e' => e (slot_inj hj hk e')
    simp only [if_neg e]
    exact ⟨fun h => by rw [has_put_other hne]; exact (h2 j hj).1 h, fun v' h => by
      rw [has_put_other hne]
      exact ⟨((h2 j hj).2 v' h).1, fun z => by rw [atKey_put_other hne]; exact ((h2 j hj).2 v' h).2 z⟩⟩

end Go.Proofs.Ytfapebnilbdheab
