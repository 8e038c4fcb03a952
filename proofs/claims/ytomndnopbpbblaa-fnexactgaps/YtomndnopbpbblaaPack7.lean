import Derived.Test.YtomndnopbpbblaaPack6
import Derived.Test.YtomndnopbpbblaaPack1
import Derived.Maps.OwnSet
import Derived.DeepKeys4
import Derived.Test.YtomndnopbpbblaaPack3
import Derived.Test.YtomndnopbpbblaaPack4
import Derived.Test.YtomndnopbpbblaaPack5
import Derived.Lib.Hide
import Derived.Test.YtomndnopbpbblaaPack2
import Derived.Deep.AppendLies
/- Sets of writes, told by lists: plain facts. -/
namespace Go.Proofs.Ytomndnopbpbblaa
open Go.ChangeShapes Go.WideShapes Go.ChangeAt Go.RowKit Go.Joins

/-- Is a write there? -/
def hasW (l : List Wr) (x : Wr) : Bool := l.any fun y => cmpW y x == 0

theorem hasW_iff (l : List Wr) (x : Wr) : hasW l x = true ↔ x ∈ l := by
  unfold hasW
  rw [List.any_eq_true]
  constructor
  · rintro ⟨y, hy, h⟩
    have : y = x := cmpW_zero (by simpa using h)
    rw [← this]
    exact hy
  · intro h
    exact ⟨x, h, by simp [cmpW_self]⟩

theorem hasW_ext {l l' : List Wr} (h : ∀ x, x ∈ l ↔ x ∈ l') (x : Wr) : hasW l x = hasW l' x := by
  rw [Bool.eq_iff_iff, hasW_iff, hasW_iff]
  exact h x

/-- What a write says that is because of this one. -/
def dpOf (x : Wr) : Dp := ⟨x.k, x.c, x.s, x.q⟩

theorem found_ex {ws : List Wr} (h : RiseW ws) (x : Wr) : ∃ i fb, FoundAt ws x i fb := by
  have h1 : ∀ m, m ≤ ws.length → ∃ i, i ≤ m ∧ (∀ k, k < i → cmpW (ws.getD k wz) x < 0) ∧ (i = m ∨ 0 ≤ cmpW (ws.getD i wz) x) := by
    intro m
    induction m with
    | zero => exact fun _ => ⟨0, Nat.le_refl _, fun k hk => absurd hk (Nat.not_lt_zero k), .inl rfl⟩
    | succ m ih =>
      intro hm
      obtain ⟨i, i1, i2, i3⟩ := ih (by omega)
      rcases i3 with rfl | i3
      · by_cases hc : cmpW (ws.getD i wz) x < 0
        · exact ⟨i + 1, Nat.le_refl _, fun k hk => rise_below h (by omega) (by omega) hc, .inl rfl⟩
        · exact ⟨i, by omega, i2, .inr (by omega)⟩
      · exact ⟨i, by omega, i2, .inr i3⟩
  obtain ⟨i, i1, i2, i3⟩ := h1 ws.length (Nat.le_refl _)
  refine ⟨i, _, i1, i2, fun k hk hl => ?_, rfl⟩
  rcases i3 with rfl | i3
  · omega
  · exact rise_above h hk hl i3

theorem found_one {ws : List Wr} {x : Wr} {i i' : Nat} {fb fb' : Bool} (h : FoundAt ws x i fb) (h' : FoundAt ws x i' fb') : i = i' ∧ fb = fb' := by
  have e : i = i' := by
    rcases Nat.lt_trichotomy i i' with hl | hl | hl
    · have h1 := h'.2.1 i hl
      have h2 := h.2.2.1 i (Nat.le_refl _) (by have := h'.1; omega)
      omega
    · exact hl
    · have h1 := h.2.1 i' hl
      have h2 := h'.2.2.1 i' (Nat.le_refl _) (by have := h.1; omega)
      omega
  subst e
  exact ⟨rfl, by rw [h.2.2.2, h'.2.2.2]⟩

theorem getD_mem {ws : List Wr} {i : Nat} (h : i < ws.length) : ws.getD i wz ∈ ws := by simp [List.getD, h]

theorem mem_getD {ws : List Wr} {x : Wr} (h : x ∈ ws) : ∃ i, i < ws.length ∧ ws.getD i wz = x := by
  obtain ⟨i, hi, rfl⟩ := List.getElem_of_mem h
  exact ⟨i, hi, by simp [List.getD, hi]⟩

theorem found_has {ws : List Wr} (hr : RiseW ws) {x : Wr} {i : Nat} {fb : Bool} (h : FoundAt ws x i fb) : fb = hasW ws x := by
  rw [Bool.eq_iff_iff, hasW_iff, h.2.2.2, Bool.and_eq_true, decide_eq_true_eq]
  constructor
  · rintro ⟨h1, h2⟩
    have e : ws.getD i wz = x := cmpW_zero (by simpa using h2)
    rw [← e]
    exact getD_mem h1
  · intro hx
    obtain ⟨k, hk, hkx⟩ := mem_getD hx
    have hc : cmpW (ws.getD k wz) x = 0 := by rw [hkx]; exact cmpW_self x
    have h1 : ¬ k < i := fun hl => by have := h.2.1 k hl; omega
    have h2 : i < ws.length := by omega
    refine ⟨h2, ?_⟩
    by_cases e : k = i
    · rw [e] at hc
      rw [hc]
      rfl
    · have h3 := h.2.2.1 i (Nat.le_refl _) h2
      have h4 := hr i k (by omega) hk
      rw [hkx] at h4
      omega

/-- Where it is put in, the list stays in order. -/
theorem rise_put {ws : List Wr} (hr : RiseW ws) {x : Wr} {i : Nat} (h : FoundAt ws x i false) : RiseW (ws.take i ++ x :: ws.drop i) := by
  obtain ⟨h1, h2, h3, h4⟩ := h
  have hat : ∀ k, k < ws.length + 1 → (ws.take i ++ x :: ws.drop i).getD k wz = if k < i then ws.getD k wz else if k = i then x else ws.getD (k - 1) wz := fun k hk => by
    by_cases hl : k < i
    · rw [if_pos hl, List.getD_eq_getElem?_getD, List.getElem?_append_left (by rw [List.length_take]; omega), List.getElem?_take_of_lt hl, List.getD_eq_getElem?_getD]
    · rw [if_neg hl, List.getD_eq_getElem?_getD, List.getElem?_append_right (by rw [List.length_take]; omega), List.length_take, Nat.min_eq_left h1]
      by_cases he : k = i
      · rw [if_pos he, he]
        simp
      · rw [if_neg he, show k - i = (k - i - 1) + 1 by omega, List.getElem?_cons_succ, List.getElem?_drop, show i + (k - i - 1) = k - 1 by omega, List.getD_eq_getElem?_getD]
  have hlen : (ws.take i ++ x :: ws.drop i).length = ws.length + 1 := by
    simp
    omega
  have hne : ∀ k, i ≤ k → k < ws.length → 0 < cmpW (ws.getD k wz) x := fun k hk hl => by
    have h5 := h3 k hk hl
    by_cases e : cmpW (ws.getD k wz) x = 0
    · by_cases e2 : k = i
      · subst e2
        rw [e, decide_eq_true hl] at h4
        cases h4
      · have h6 := hr i k (by omega) hl
        have h7 := h3 i (Nat.le_refl _) (by omega)
        have e3 : ws.getD k wz = x := cmpW_zero e
        rw [e3] at h6
        omega
    · omega
  intro a b hab hb
  rw [hlen] at hb
  rw [hat a (by omega), hat b hb]
  by_cases ha : a < i
  · rw [if_pos ha]
    by_cases hbi : b < i
    · rw [if_pos hbi]
      exact hr a b hab (by omega)
    · rw [if_neg hbi]
      by_cases hbe : b = i
      · rw [if_pos hbe]
        exact h2 a ha
      · rw [if_neg hbe]
        exact hr a (b - 1) (by omega) (by omega)
  · rw [if_neg ha, if_neg (show ¬ b < i by omega), if_neg (show ¬ b = i by omega)]
    by_cases hae : a = i
    · rw [if_pos hae]
      have := hne (b - 1) (by omega) (by omega)
      rw [cmpW_turn]
      omega
    · rw [if_neg hae]
      exact hr (a - 1) (b - 1) (by omega) (by omega)

theorem mem_put {ws : List Wr} (x : Wr) (i : Nat) (y : Wr) : y ∈ ws.take i ++ x :: ws.drop i ↔ y = x ∨ y ∈ ws := by
  rw [List.mem_append, List.mem_cons]
  constructor
  · rintro (h | h | h)
    · exact .inr (List.mem_of_mem_take h)
    · exact .inl h
    · exact .inr (List.mem_of_mem_drop h)
  · rintro (h | h)
    · exact .inr (.inl h)
    · rw [← List.take_append_drop i ws] at h
      rcases List.mem_append.1 h with h | h
      · exact .inl h
      · exact .inr (.inr h)

end Go.Proofs.Ytomndnopbpbblaa

/- Maps whose keys are structs of numbers, told as functions from keys to values. -/
namespace Go.Proofs.Ytomndnopbpbblaa
open Go.ChangeShapes Go.WideShapes Go.ChangeAt Go.RowKit Go.Joins Go.Maps

/-- An element is told by itself. -/
def asItself (v : Value) : Option (DataW Value × List MemPlace) := some (.held v, [])

/-- How the keys of a type are told: their values, the literals that they are held by, which of them there can be. -/
structure KeyG (κ : Type) (kt : TypeId) where
  v : κ → Value
  l : κ → Lit
  ok : κ → Prop
  law : Keyed Try.prog kt
  key : ∀ k, ok k → keyOf Try.prog kt (v k) = some (l k)
  inj : ∀ k k', v k = v k' → k = k'

set_option maxRecDepth 100000 in
theorem KeyG.lit {κ : Type} {kt : TypeId} (K : KeyG κ kt) {k : κ} (h : K.ok k) : WideAt.IsKeyLit (K.l k) := K.law.key (K.key k h)

set_option maxRecDepth 100000 in
theorem KeyG.linj {κ : Type} {kt : TypeId} (K : KeyG κ kt) {k k' : κ} (h : K.ok k) (h' : K.ok k') (e : K.l k = K.l k') : k = k' := by
  have h1 := K.key k h
  rw [e] at h1
  exact K.inj _ _ (K.law.inj h1 (K.key k' h'))

/-- Block b is a map that holds f. -/
def MapIs {κ : Type} {kt : TypeId} (K : KeyG κ kt) (w : World) (b n : Nat) (f : κ → Option Value) : Prop :=
  ∃ D : DataW Value, w.ownsMap Try.prog kt asItself b n D ∧ ∀ k, K.ok k → (f k = none → Maps.has D (K.l k) = false) ∧ ∀ v, f k = some v → Maps.has D (K.l k) = true ∧ ∀ z, D.atKey (K.l k) z = .held v

set_option maxRecDepth 100000 in
theorem mapIs_made {κ : Type} {kt : TypeId} (K : KeyG κ kt) (w : World) : MapIs K (w.alloc (.map #[] 0)) w.heap.size 0 (fun _ => none) :=
  ⟨.map [], World.ownsMap_made w _ _ _, fun _ _ => ⟨fun _ => rfl, fun v h => by cases h⟩⟩

set_option maxRecDepth 100000 in
theorem MapIs.lt {κ : Type} {kt : TypeId} {K : KeyG κ kt} {w : World} {b n : Nat} {f : κ → Option Value} (h : MapIs K w b n f) : b < w.heap.size := by
  obtain ⟨D, h1, _⟩ := h
  exact h1.lt

set_option maxRecDepth 100000 in
theorem MapIs.of_block {κ : Type} {kt : TypeId} {K : KeyG κ kt} {w w' : World} {b n : Nat} {f : κ → Option Value} (h : MapIs K w b n f) (hb : w'.heap[b]? = w.heap[b]?) : MapIs K w' b n f := by
  obtain ⟨D, ⟨es, clock, h1, h2⟩, h3⟩ := h
  exact ⟨D, ⟨es, clock, hb.trans h1, h2⟩, h3⟩

set_option maxRecDepth 100000 in
theorem MapIs.below {κ : Type} {kt : TypeId} {K : KeyG κ kt} {w w' : World} {b n : Nat} {f : κ → Option Value} (h : MapIs K w b n f) (hb : Below w.heap.size w w') : MapIs K w' b n f := h.of_block (hb.block b h.lt)

set_option maxRecDepth 100000 in
theorem MapIs.congr {κ : Type} {kt : TypeId} {K : KeyG κ kt} {w : World} {b n : Nat} {f g : κ → Option Value} (h : MapIs K w b n f) (e : ∀ k, K.ok k → g k = f k) : MapIs K w b n g := by
  obtain ⟨D, h1, h2⟩ := h
  exact ⟨D, h1, fun k hk => by rw [e k hk]; exact h2 k hk⟩

/-- What a look-up with two answers gives. -/
def lookAns (z : Value) : Option Value → Value
  | none => .tuple #[z, .bool false]
  | some v => .tuple #[v, .bool true]

set_option maxRecDepth 100000 in
theorem MapIs.look {κ : Type} {kt : TypeId} {K : KeyG κ kt} {w : World} {b n : Nat} {f : κ → Option Value} (h : MapIs K w b n f) {t e : TypeId} (ht : Try.prog.underlying t = some (.map kt e)) {z : Value} (hz : (zeroValue e).run Try.prog w = .ok z w) {k : κ} (hk : K.ok k) :
    (Instr.lookup t (.map (some b)) (K.v k) true).run Try.prog w = .ok (lookAns z (f k)) w := by
  obtain ⟨D, h1, h2⟩ := h
  obtain ⟨v, ps, hrun, hv⟩ := h1.look_ok K.law ht hz (zd := .held z) (zp := []) rfl (K.key k hk)
  rw [hrun]
  have e : (DataW.held v : DataW Value) = D.atKey (K.l k) (.held z) := by
    simp only [asItself, Option.some.injEq, Prod.mk.injEq] at hv
    exact hv.1
  cases hf : f k with
  | none =>
    rw [(h2 k hk).1 hf]
    rw [atKey_of_not_has ((h2 k hk).1 hf)] at e
    injection e with e
    rw [e]
    rfl
  | some u =>
    obtain ⟨h3, h4⟩ := (h2 k hk).2 u hf
    rw [h3]
    rw [h4] at e
    injection e with e
    rw [e]
    rfl

set_option maxRecDepth 100000 in
/-- A look-up with one answer. -/
theorem MapIs.look1 {κ : Type} {kt : TypeId} {K : KeyG κ kt} {w : World} {b n : Nat} {f : κ → Option Value} (h : MapIs K w b n f) {t e : TypeId} (ht : Try.prog.underlying t = some (.map kt e)) {z : Value} (hz : (zeroValue e).run Try.prog w = .ok z w) {k : κ} (hk : K.ok k) :
    (Instr.lookup t (.map (some b)) (K.v k) false).run Try.prog w = .ok ((f k).getD z) w := by
  obtain ⟨D, h1, h2⟩ := h
  obtain ⟨v, ps, hrun, hv⟩ := h1.lookup K.law ht hz (zd := .held z) (zp := []) rfl (K.key k hk)
  rw [hrun]
  have e : (DataW.held v : DataW Value) = D.atKey (K.l k) (.held z) := by
    simp only [asItself, Option.some.injEq, Prod.mk.injEq] at hv
    exact hv.1
  cases hf : f k with
  | none =>
    rw [atKey_of_not_has ((h2 k hk).1 hf)] at e
    injection e with e
    rw [e]
    rfl
  | some u =>
    obtain ⟨h3, h4⟩ := (h2 k hk).2 u hf
    rw [h4] at e
    injection e with e
    rw [e]
    rfl

set_option maxRecDepth 100000 in
theorem wpList_lookG {κ : Type} {kt : TypeId} {K : KeyG κ kt} {w : World} {ops : Array Oper} {rest : List Oper} {o : Oper} {a : Act} {Q : Exit → Act → World → Prop} (hg : o.guard = none) (m x : Operand) (t e : TypeId) (hop : o.op = Op.lookup t m x true) (ht : Try.prog.underlying t = some (.map kt e)) {z : Value} (hz : (zeroValue e).run Try.prog w = .ok z w)
    {b n : Nat} {f : κ → Option Value} (h : MapIs K w b n f) (k : κ) (hk : K.ok k) (hm : a.eval m = .map (some b)) (hx : a.eval x = K.v k)
    (hK : wpList Try.prog ops Q rest (a.put o.dst (lookAns z (f k))) w) : wpList Try.prog ops Q (o :: rest) a w := by
  refine wpList_plain hg fun K' hK' => ?_
  unfold Oper.wp
  simp [execOp, hop, hm, hx, h.look ht hz hk, Result.andThen]
  exact hK' _ _ hK

set_option maxRecDepth 100000 in
theorem wpList_lookG1 {κ : Type} {kt : TypeId} {K : KeyG κ kt} {w : World} {ops : Array Oper} {rest : List Oper} {o : Oper} {a : Act} {Q : Exit → Act → World → Prop} (hg : o.guard = none) (m x : Operand) (t e : TypeId) (hop : o.op = Op.lookup t m x false) (ht : Try.prog.underlying t = some (.map kt e)) {z : Value} (hz : (zeroValue e).run Try.prog w = .ok z w)
    {b n : Nat} {f : κ → Option Value} (h : MapIs K w b n f) (k : κ) (hk : K.ok k) (hm : a.eval m = .map (some b)) (hx : a.eval x = K.v k)
    (hK : wpList Try.prog ops Q rest (a.put o.dst ((f k).getD z)) w) : wpList Try.prog ops Q (o :: rest) a w := by
  refine wpList_plain hg fun K' hK' => ?_
  unfold Oper.wp
  simp [execOp, hop, hm, hx, h.look1 ht hz hk, Result.andThen]
  exact hK' _ _ hK

theorem MapIs.mono {κ : Type} {kt : TypeId} {K : KeyG κ kt} {w : World} {b n n' : Nat} {f : κ → Option Value} (h : MapIs K w b n f) (hn : n ≤ n') : MapIs K w b n' f := by
  obtain ⟨E, h3, h4⟩ := h
  exact ⟨E, h3.mono hn, h4⟩

set_option maxRecDepth 100000 in
/-- A store: the map then holds whatever is v at the key and as it was elsewhere. -/
theorem wpList_putG {κ : Type} {kt : TypeId} {K : KeyG κ kt} {w : World} {ops : Array Oper} {rest : List Oper} {o : Oper} {a : Act} {Q : Exit → Act → World → Prop} (hg : o.guard = none) (m x u : Operand) (t e : TypeId) (hop : o.op = Op.mapUpdate t m x u) (ht : Try.prog.underlying t = some (.map kt e))
    {b n : Nat} {f : κ → Option Value} (h : MapIs K w b n f) (hn : n < maxLen) (k : κ) (hk : K.ok k) (v : Value) (hm : a.eval m = .map (some b)) (hx : a.eval x = K.v k) (hu : a.eval u = v)
    (hK : ∀ w', (∀ g : κ → Option Value, g k = some v → (∀ j, j ≠ k → g j = f j) → MapIs K w' b (n + 1) g) → w.mapTurned w' b → wpList Try.prog ops Q rest (a.put o.dst undef) w') : wpList Try.prog ops Q (o :: rest) a w := by
  obtain ⟨D, h1, h2⟩ := h
  refine wpList_mapUpdate_in w hg m x u _ hop _ _ K.law ht asItself b n D hm h1 hn _ v (K.l k) hx hu (K.key k hk) (.held v) [] rfl fun w' h3 h4 => hK w' (fun g g1 g2 => ⟨_, h3, fun j hj => ?_⟩) h4
  by_cases e : j = k
  · subst e
    refine ⟨fun h => (by rw [g1] at h; cases h), fun v' h => ?_⟩
    · rw [g1] at h
      have : v = v' := by simpa using h
      subst this
      exact ⟨has_put_same h1.isMap (K.lit hj) _, fun z => atKey_put_same h1.isMap (K.lit hj) _ _⟩
  · have hne : K.l j ≠ K.l k := fun e' => e (K.linj hj hk e')
    rw [g2 j e]
    exact ⟨fun h => by rw [has_put_other hne]; exact (h2 j hj).1 h, fun v' h => by
      rw [has_put_other hne]
      exact ⟨((h2 j hj).2 v' h).1, fun z => by rw [atKey_put_other hne]; exact ((h2 j hj).2 v' h).2 z⟩⟩

set_option maxRecDepth 100000 in
/-- A key struck out. -/
theorem wpList_delG {κ : Type} {kt : TypeId} {K : KeyG κ kt} {w : World} {ops : Array Oper} {rest : List Oper} {o : Oper} {a : Act} {Q : Exit → Act → World → Prop} (hg : o.guard = none) (m x : Operand) (t e : TypeId) (hop : o.op = Op.call { callee := Callee.builtin Builtin.delete, args := #[m, x], argTypes := #[t, kt] }) (ht : Try.prog.underlying t = some (.map kt e))
    {b n : Nat} {f : κ → Option Value} (h : MapIs K w b n f) (k : κ) (hk : K.ok k) (hm : a.eval m = .map (some b)) (hx : a.eval x = K.v k)
    (hK : ∀ w', (∀ g : κ → Option Value, g k = none → (∀ j, j ≠ k → g j = f j) → MapIs K w' b n g) → w.mapTurned w' b → wpList Try.prog ops Q rest (a.put o.dst (.tuple #[])) w') : wpList Try.prog ops Q (o :: rest) a w := by
  obtain ⟨D, h1, h2⟩ := h
  refine wpList_delete_own w hg m x t kt hop e K.law ht asItself b n D hm h1 _ (K.l k) hx (K.key k hk) fun w' h3 h4 => hK w' (fun g g1 g2 => ⟨_, h3, fun j hj => ?_⟩) h4
  by_cases e : j = k
  · subst e
    exact ⟨fun _ => has_del_same, fun v' h => (by rw [g1] at h; cases h)⟩
  · have hne : K.l j ≠ K.l k := fun e' => e (K.linj hj hk e')
    rw [g2 j e]
    exact ⟨fun h => by rw [has_del_other hne]; exact (h2 j hj).1 h, fun v' h => by
      rw [has_del_other hne]
      exact ⟨((h2 j hj).2 v' h).1, fun z => by rw [atKey_del_other hne]; exact ((h2 j hj).2 v' h).2 z⟩⟩

end Go.Proofs.Ytomndnopbpbblaa

/- The keys of a map: what a dependency says. -/
namespace Go.Proofs.Ytomndnopbpbblaa
open Go.ChangeShapes Go.WideShapes Go.ChangeAt Go.RowKit Go.Joins Go.Maps

set_option maxRecDepth 100000

def dpL (d : Dp) : Lit := .string (keyBytes [.int .i64 d.k, .int .i64 d.c, .int .i64 d.s, .int .i64 d.q])

theorem dp_row : (55 : TypeId) < Try.prog.types.size := of_decide_eq_true (by kernel_rfl)

theorem dp_cells : Try.prog.cellsOf 55 = 4 := by kernel_rfl

theorem dp_tag : Try.prog.cellsOf 34 = 3 := by kernel_rfl

theorem dp_int : Try.prog.cellsOf 3 = 1 := by kernel_rfl

theorem dp_wide : (match Try.prog.underlying 55 with | some (.array _ _) | some (.struct _) => true | _ => false) = true := by rw [Try.underlying55]

theorem dp_law : Keyed Try.prog 55 := Keyed.of_law (deep_law_laid laidOut (m := 3) (by omega) dp_row (by kernel_rfl) dp_wide)

theorem dp_type : Try.prog.keyType 55 = true := by kernel_rfl

theorem dp_key (d : Dp) (h : DpR d) : keyOf Try.prog 55 (depV d.k d.c d.s d.q) = some (dpL d) := by
  have hf : (depV d.k d.c d.s d.q).formed Try.prog 55 = true := by simp [Value.formed, Try.underlying55, dp_cells]
  have ht : 2 < Try.prog.types.size := of_decide_eq_true (by kernel_rfl)
  obtain ⟨m, hm⟩ : ∃ m, Try.prog.types.size = m + 2 := ⟨Try.prog.types.size - 2, by omega⟩
  unfold keyOf
  rw [Try.underlying55]
  simp only [dp_type, hf, Bool.and_self, if_true]
  rw [hm]
  simp [Program.keyLits, Try.underlying55, Try.underlying34, Try.underlying3, dp_cells, dp_tag, dp_int, Value.cells, r64_wf h.1, r64_wf h.2.1, r64_wf h.2.2.1, r64_wf h.2.2.2, dpL, List.range]
  rw [if_pos (fun i hi => by have h3 : i = 0 ∨ i = 1 ∨ i = 2 := by omega
                             rcases h3 with rfl | rfl | rfl <;> simp)]
  rfl

def keyD : KeyG Dp 55 where
  v := fun d => depV d.k d.c d.s d.q
  l := dpL
  ok := DpR
  law := dp_law
  key := dp_key
  inj := fun x y h => by
    cases x
    cases y
    simp at h
    simp [h]

end Go.Proofs.Ytomndnopbpbblaa

/- Lists of batches: what a slice of batches leads to; the contracts of eqBatch, eqBatchS; spec.Replay. -/
namespace Go.Proofs.Ytomndnopbpbblaa
open Go.ChangeShapes Go.WideShapes Go.ChangeAt Go.RowKit Go.Joins
attribute [local go_sem ↓] Go.wp_at_zero Go.wp_at_succ

/-- What a slice of batches leads to. -/
def IsBs (w : World) (a : Option Addr) (bs : List (List Wr)) : Prop :=
  bs = [] ∨ ∃ b o, a = some ⟨b, o, none⟩ ∧ b < w.heap.size ∧ ∀ i, i < bs.length → ∃ a' cap, w.cell? ⟨b, o + i, none⟩ = some (.slice a' (bs.getD i []).length cap) ∧ IsWs w a' (bs.getD i [])

set_option maxRecDepth 100000 in
theorem IsBs.below {w w' : World} {a : Option Addr} {bs : List (List Wr)} (h : IsBs w a bs) (hb : Below w.heap.size w w') : IsBs w' a bs := by
  rcases h with h | ⟨b, o, ha, hlt, hh⟩
  · exact .inl h
  · refine .inr ⟨b, o, ha, Nat.lt_of_lt_of_le hlt hb.size, fun i hi => ?_⟩
    obtain ⟨a', cap, hc, hw⟩ := hh i hi
    exact ⟨a', cap, (hb.cell (p := ⟨b, o + i, none⟩) hlt).trans hc, hw.below hb⟩

set_option maxRecDepth 100000 in
theorem IsBs.at {w w' : World} {a : Option Addr} {bs : List (List Wr)} (h : IsBs w a bs) (hb : Below w.heap.size w w') {k : Nat} (hk : k < bs.length) : ∃ b o a' cap, a = some ⟨b, o, none⟩ ∧ b < w'.heap.size ∧ w'.cell? ⟨b, o + k, none⟩ = some (.slice a' (bs.getD k []).length cap) ∧ IsWs w' a' (bs.getD k []) := by
  rcases h.below hb with h | ⟨b, o, ha, hlt, hh⟩
  · subst h
    simp at hk
  · obtain ⟨a', cap, hc, hw⟩ := hh k hk
    exact ⟨b, o, a', cap, ha, hlt, hc, hw⟩

/-- All batches have few writes, each with few dependencies. -/
def FewB (bs : List (List Wr)) : Prop := ∀ i, i < bs.length → (bs.getD i []).length ≤ 1048576 ∧ Few (bs.getD i [])

end Go.Proofs.Ytomndnopbpbblaa

/- The sizes of batches: the contracts of szBatch and szBatchS. -/
namespace Go.Proofs.Ytomndnopbpbblaa
open Go.ChangeShapes Go.WideShapes Go.ChangeAt Go.RowKit Go.Joins
attribute [local go_sem ↓] Go.wp_at_zero Go.wp_at_succ

/-- How much the batches hold. -/
def heftB : List (List Wr) → Nat
  | [] => 0
  | ws :: r => ws.length + bulk ws + heftB r

set_option maxRecDepth 100000 in
theorem heft_take : ∀ (bs : List (List Wr)) (k : Nat), k < bs.length → heftB (bs.take (k + 1)) = heftB (bs.take k) + ((bs.getD k []).length + bulk (bs.getD k []))
  | [], k, h => by simp at h
  | b :: r, 0, _ => by simp [heftB]
  | b :: r, k + 1, h => by
    have ih := heft_take r k (by simpa using h)
    simp only [List.take_succ_cons, heftB, List.getD_cons_succ]
    omega

set_option maxRecDepth 100000 in
theorem heft_one : ∀ (bs : List (List Wr)) (i : Nat), i < bs.length → (bs.getD i []).length + bulk (bs.getD i []) ≤ heftB bs
  | [], i, h => by simp at h
  | b :: r, 0, _ => by simp [heftB]
  | b :: r, i + 1, h => by
    have ih := heft_one r i (by simpa using h)
    simp only [heftB, List.getD_cons_succ]
    omega

set_option maxRecDepth 100000 in
theorem few_heft {bs : List (List Wr)} (h : heftB bs ≤ 1048576) : FewB bs := fun i hi => by
  have := heft_one bs i hi
  exact ⟨by omega, few_of_bulk (by omega)⟩

end Go.Proofs.Ytomndnopbpbblaa

/- Lists of events: what a slice of events leads to; the contracts of eqEvent, eqEventS. -/
namespace Go.Proofs.Ytomndnopbpbblaa
open Go.ChangeShapes Go.WideShapes Go.ChangeAt Go.RowKit Go.Joins
attribute [local go_sem ↓] Go.wp_at_zero Go.wp_at_succ

/-- An event: its site, whether it was shown, its mask, its writes. -/
structure Ev where
  s : Int
  sh : Bool
  m : Int
  ws : List Wr

def evz : Ev := ⟨0, false, 0, []⟩

def evW (es : List Ev) : List (List Wr) := es.map (·.ws)

theorem evW_get (es : List Ev) {i : Nat} (h : i < es.length) : (evW es).getD i [] = (es.getD i evz).ws := by
  simp [evW, List.getD, h]

theorem evW_len (es : List Ev) : (evW es).length = es.length := by simp [evW]

abbrev evV (s : Int) (sh : Bool) (m : Int) (a : Option Addr) (n cap : Nat) : Value := .agg #[.int .i64 s, .bool sh, .int .i64 m, .slice a n cap]

def EvAt (w : World) (b o : Nat) (e : Ev) (a : Option Addr) (cap : Nat) : Prop :=
  w.cell? ⟨b, o, none⟩ = some (.int .i64 e.s) ∧ w.cell? ⟨b, o + 1, none⟩ = some (.bool e.sh) ∧ w.cell? ⟨b, o + 2, none⟩ = some (.int .i64 e.m) ∧ w.cell? ⟨b, o + 3, none⟩ = some (.slice a e.ws.length cap)

theorem EvAt.of_block {w w' : World} {b o : Nat} {e : Ev} {a : Option Addr} {cap : Nat} (h : EvAt w b o e a cap) (hb : w'.heap[b]? = w.heap[b]?) : EvAt w' b o e a cap := by
  have c : ∀ o, w'.cell? ⟨b, o, none⟩ = w.cell? ⟨b, o, none⟩ := fun o => World.cell?_of_block (a := ⟨b, o, none⟩) hb
  exact ⟨(c _).trans h.1, (c _).trans h.2.1, (c _).trans h.2.2.1, (c _).trans h.2.2.2⟩

/-- What a slice of events leads to. -/
def IsEs (w : World) (a : Option Addr) (es : List Ev) : Prop :=
  es = [] ∨ ∃ b o, a = some ⟨b, o, none⟩ ∧ b < w.heap.size ∧ ∀ i, i < es.length → ∃ a' cap, EvAt w b (o + i * 4) (es.getD i evz) a' cap ∧ IsWs w a' (es.getD i evz).ws

set_option maxRecDepth 100000 in
theorem IsEs.below {w w' : World} {a : Option Addr} {es : List Ev} (h : IsEs w a es) (hb : Below w.heap.size w w') : IsEs w' a es := by
  rcases h with h | ⟨b, o, ha, hlt, hh⟩
  · exact .inl h
  · refine .inr ⟨b, o, ha, Nat.lt_of_lt_of_le hlt hb.size, fun i hi => ?_⟩
    obtain ⟨a', cap, hc, hw⟩ := hh i hi
    exact ⟨a', cap, hc.of_block (hb.block b hlt), hw.below hb⟩

set_option maxRecDepth 100000 in
theorem IsEs.at {w w' : World} {a : Option Addr} {es : List Ev} (h : IsEs w a es) (hb : Below w.heap.size w w') {k : Nat} (hk : k < es.length) : ∃ b o a' cap, a = some ⟨b, o, none⟩ ∧ b < w'.heap.size ∧ EvAt w' b (o + k * 4) (es.getD k evz) a' cap ∧ IsWs w' a' (es.getD k evz).ws := by
  rcases h.below hb with h | ⟨b, o, ha, hlt, hh⟩
  · subst h
    simp at hk
  · obtain ⟨a', cap, hc, hw⟩ := hh k hk
    exact ⟨b, o, a', cap, ha, hlt, hc, hw⟩

/-- As at, the writes in the world of the slice. -/
theorem IsEs.base {w w' : World} {a : Option Addr} {es : List Ev} (h : IsEs w a es) (hb : Below w.heap.size w w') {k : Nat} (hk : k < es.length) : ∃ b o a' cap, a = some ⟨b, o, none⟩ ∧ b < w'.heap.size ∧ EvAt w' b (o + k * 4) (es.getD k evz) a' cap ∧ IsWs w a' (es.getD k evz).ws := by
  rcases h with h | ⟨b, o, ha, hlt, hh⟩
  · subst h
    simp at hk
  · obtain ⟨a', cap, hc, hw⟩ := hh k hk
    exact ⟨b, o, a', cap, ha, Nat.lt_of_lt_of_le hlt hb.size, hc.of_block (hb.block b hlt), hw⟩

/-- All events have few writes, each with few dependencies. -/
def FewE (es : List Ev) : Prop := ∀ i, i < es.length → (es.getD i evz).ws.length ≤ 1048576 ∧ Few (es.getD i evz).ws

theorem fewE_heft {es : List Ev} (h : heftB (evW es) ≤ 1048576) : FewE es := fun i hi => by
  have := few_heft h i (by rw [evW_len]; exact hi)
  rwa [evW_get es hi] at this

set_option maxRecDepth 100000 in
set_option maxHeartbeats 2000000 in
theorem eqEvent_same (s : Int) (sh : Bool) (m : Int) (a a' : Option Addr) (n cap cap' : Nat) (ws : List Wr) (w : World) (hn : ws.length = n) (hm : n ≤ 1048576) (hx : Few ws) (h : IsWs w a ws) (h' : IsWs w a' ws) :
    Calls Try.prog 29 #[evV s sh m a n cap, evV s sh m a' n cap'] w fun e w' => e = .returned (.bool true) ∧ Below w.heap.size w w' := by
  have HB : Hid (Below w.heap.size w ((w.alloc (.cells #[.int .i64 s, .bool sh, .int .i64 m, .slice a n cap] 59)).alloc (.cells #[.int .i64 s, .bool sh, .int .i64 m, .slice a' n cap'] 59))) := ((Below.refl _ _).alloc (Nat.le_refl _) _).alloc (by simp) _
  have H := Lib.hid h
  have H' := Lib.hid h'
  have HN := Lib.hid hn
  have HX := Lib.hid hx
  clear h h' hn hx
  go_enter Try.func29, Try.ntmps29
  go_wp2_with fail
  refine (eqWriteS_gen _ _ n _ _ ws _ HN.out hm HX.out (H.out.below HB.out) (H'.out.below HB.out)).mono ?_
  rintro e w1 ⟨rfl, hb⟩
  have HB1 : Hid (Below w.heap.size w w1) := below_step HB.out HB.out.size hb
  clear hb
  go_wp2
  go_ret
  exact ⟨rfl, HB1.out⟩

set_option maxRecDepth 100000 in
set_option maxHeartbeats 2000000 in
theorem eqEventS_same (a a' : Option Addr) (n cap cap' : Nat) (es : List Ev) (w : World) (hn : es.length = n) (hm : n ≤ 1048576) (hx : FewE es) (h : IsEs w a es) (h' : IsEs w a' es) :
    Calls Try.prog 12 #[.slice a n cap, .slice a' n cap'] w fun e w' => e = .returned (.bool true) ∧ Below w.heap.size w w' := by
  have H := Lib.hid h
  have H' := Lib.hid h'
  have HN := Lib.hid hn
  have HX := Lib.hid hx
  clear h h' hn hx
  go_enter Try.func12, Try.ntmps12
  go_wp2
  go_loopw [5] (fun i wr => ∃ k : Nat, k ≤ n ∧ i = .int .i64 k ∧ Hid (Below w.heap.size w wr)) (fun i _ => n - (intOf i).toNat)
  case atStart => exact ⟨0, Nat.zero_le _, rfl, Below.refl _ _⟩
  case round =>
    obtain ⟨k, hk, rfl, HB⟩ := hrel
    by_cases hk' : k < n
    · have hkk : k < es.length := by rw [HN.out]; exact hk'
      have i1 : (0 : Int) ≤ (k : Int) := by omega
      have i2 : (k : Int) < (n : Int) := by omega
      obtain ⟨b, o, ad, cp, rfl, hz, e0, hw⟩ := H.out.at HB.out hkk
      obtain ⟨b', o', ad', cp', rfl, hz', f0, hw'⟩ := H'.out.at HB.out hkk
      obtain ⟨hl, hf⟩ := HX.out k hkk
      have HC : Hid (∀ W, Below wr.heap.size wr W → Calls Try.prog 29 #[evV (es.getD k evz).s (es.getD k evz).sh (es.getD k evz).m ad (es.getD k evz).ws.length cp, evV (es.getD k evz).s (es.getD k evz).sh (es.getD k evz).m ad' (es.getD k evz).ws.length cp'] W fun e w' => e = .returned (.bool true) ∧ Below W.heap.size W w') := fun W hW => eqEvent_same _ _ _ _ _ _ _ _ (es.getD k evz).ws W rfl hl hf (hw.below hW) (hw'.below hW)
      have HE : Hid (∀ W, Below wr.heap.size wr W → EvAt W b (o + k * 4) (es.getD k evz) ad cp ∧ EvAt W b' (o' + k * 4) (es.getD k evz) ad' cp') := fun W hW => ⟨e0.of_block (hW.block b hz), f0.of_block (hW.block b' hz')⟩
      clear hw hw' e0 f0 hf hl
      generalize es.getD k evz = y at *
      obtain ⟨ys, yh, ym, yw⟩ := y
      unfold EvAt at HE
      simp only at HC HE
      generalize yw.length = q at *
      go_wp2_with fail
      refine wp_region_slots 10 [[(0, false)], [(5, false)], [(17, true), (18, true)], [(19, true)], [(1, false)], [(5, false)], [(21, true), (22, true)], [(23, true)], [(20, true), (24, true)], [(25, true)]] (fun w' => Below wr.heap.size wr w') (fun w w' => Below w.heap.size w w') (by kernel_rfl) (by kernel_rfl) (by rfl) ((Below.refl _ _).drew) (fun _ _ h hb => below_step h h.size hb) ?_
      iterate 8 (apply slot_eq; · (intro ρ w' ⟨p1, p2, p3⟩ hbl hn; obtain ⟨⟨c1, c2, c3, c4⟩, ⟨d1, d2, d3, d4⟩⟩ := HE.out w' hbl; simp at hn; go_simp; exact ⟨Below.refl _ _, rfl⟩))
      apply slot_eq
      · intro ρ w' ⟨p1, p2, p3⟩ hbl hn
        simp at hn
        obtain ⟨e1, e2⟩ := hn
        go_simp
        exact got_call (HC.out w' hbl) fun e w'' ⟨he, hb⟩ => ⟨_, he, hb, rfl⟩
      apply slot_eq
      · intro ρ w' ⟨p1, p2, p3⟩ hbl hn
        simp at hn
        go_simp
        exact ⟨Below.refl _ _, rfl⟩
      refine slot_end ?_
      intro vs w3 hS hF
      simp at hF
      obtain ⟨h26, -⟩ := hF
      have HB3 := Lib.hid (below_step HB.out HB.out.size hS)
      clear hS
      simp only [List.take_succ_cons, List.take_zero, List.drop_succ_cons, List.drop_zero, putAll, h26]
      clear h26
      simp only [Act.put, List.setIfInBounds_toArray, List.set_cons_succ, List.set_cons_zero]
      go_wp2
      exact ⟨⟨k + 1, by omega, by go_num, HB3⟩, by simp [intOf]; omega⟩
    · have hkk : k = n := by omega
      subst hkk
      go_wp2
      go_ret
      exact ⟨rfl, HB.out⟩

set_option maxRecDepth 100000 in
set_option maxHeartbeats 1000000 in
theorem szEvent_any (s : Int) (sh : Bool) (m : Int) (a : Option Addr) (n cap : Nat) (left : Int) (ws : List Wr) (w : World) (h0 : 0 ≤ left) (h1 : left ≤ 1048576) (hm : n ≤ maxLen) (hn : ws.length = n) (h : IsWs w a ws) :
    Calls Try.prog 20 #[evV s sh m a n cap, .int .i64 left] w fun e w' => ∃ r : Int, e = .returned (.int .i64 r) ∧ (r = -1 ∨ (0 ≤ r ∧ r = left - n - bulk ws)) ∧ Below w.heap.size w w' := by
  have H := Lib.hid h
  have HN := Lib.hid hn
  clear h hn
  have HB : Hid (Below w.heap.size w (w.alloc (.cells #[.int .i64 s, .bool sh, .int .i64 m, .slice a n cap] 51))) := (Below.refl _ _).alloc (Nat.le_refl _) _
  go_enter Try.func20, Try.ntmps20
  go_wp2_with fail
  refine (szWriteS_any a n cap left ws _ h0 h1 hm HN.out (H.out.below HB.out)).mono ?_
  rintro e w1 ⟨r, rfl, hr, hb⟩
  have HB1 := Lib.hid (below_step HB.out HB.out.size hb)
  clear hb
  rcases hr with rfl | ⟨r0, hr⟩
  · go_wp2
    go_ret
    exact ⟨_, rfl, .inl rfl, HB1.out⟩
  · have HR := Lib.hid hr
    clear hr
    go_wp2
    go_ret
    exact ⟨_, rfl, .inr ⟨r0, HR.out⟩, HB1.out⟩

set_option maxRecDepth 100000 in
set_option maxHeartbeats 2000000 in
theorem szEventS_any (a : Option Addr) (n cap : Nat) (left : Int) (es : List Ev) (w : World) (h0 : 0 ≤ left) (h1 : left ≤ 1048576) (hm : n ≤ maxLen) (hn : es.length = n) (hl : ∀ i, i < es.length → (es.getD i evz).ws.length ≤ maxLen) (h : IsEs w a es) :
    Calls Try.prog 5 #[.slice a n cap, .int .i64 left] w fun e w' => ∃ r : Int, e = .returned (.int .i64 r) ∧ (r = -1 ∨ (0 ≤ r ∧ r = left - n - heftB (evW es))) ∧ Below w.heap.size w w' := by
  have H := Lib.hid h
  have HN := Lib.hid hn
  have HLM := Lib.hid hl
  clear h hn hl
  have hm' : n ≤ 9223372036854775807 := hm
  clear hm
  by_cases hbig : left < (n : Int)
  · go_enter Try.func5, Try.ntmps5
    go_wp2
    go_ret
    exact ⟨_, rfl, .inl rfl, Below.refl _ _⟩
  go_enter Try.func5, Try.ntmps5
  go_wp2
  go_loopw [1, 5] (fun t i wr => ∃ (k : Nat) (z : Int), k ≤ n ∧ i = .int .i64 k ∧ t = .int .i64 z ∧ 0 ≤ z ∧ z ≤ 1048576 ∧ Hid (z = left - n - heftB ((evW es).take k)) ∧ Hid (Below w.heap.size w wr)) (fun _ i _ => n - (intOf i).toNat)
  case atStart => exact ⟨0, left - n, Nat.zero_le _, rfl, rfl, by omega, by omega, by simp [heftB, Hid], Below.refl _ _⟩
  case round =>
    obtain ⟨k, z, hk, rfl, rfl, z0, z1, HZ, HB⟩ := hrel
    by_cases hk' : k < n
    · have hkk : k < es.length := by rw [HN.out]; exact hk'
      have i1 : (0 : Int) ≤ (k : Int) := by omega
      have i2 : (k : Int) < (n : Int) := by omega
      obtain ⟨b, o, ad, cp, rfl, hz, e0, hw⟩ := H.out.at HB.out hkk
      have hlm := HLM.out k hkk
      have HW := Lib.hid hw
      have ht := heft_take (evW es) k (by rw [evW_len]; exact hkk)
      rw [evW_get es hkk] at ht
      have HT := Lib.hid ht
      clear hw ht
      generalize es.getD k evz = y at *
      obtain ⟨ys, yh, ym, ws⟩ := y
      unfold EvAt at e0
      simp only at e0 HT HW hlm
      obtain ⟨c0, c1, c2, c3⟩ := e0
      obtain ⟨q, hq⟩ : ∃ q, ws.length = q := ⟨_, rfl⟩
      rw [hq] at c3 hlm
      have HQ := Lib.hid hq
      clear hq
      go_wp2_with fail
      refine (szEvent_any ys yh ym ad q cp z ws _ z0 z1 hlm HQ.out HW.out).mono ?_
      rintro e w2 ⟨r, rfl, hr, hb⟩
      have HB2 := Lib.hid (below_step HB.out HB.out.size hb)
      clear hb
      rcases hr with rfl | ⟨r0, hr⟩
      · go_wp2
        go_ret
        exact ⟨_, rfl, .inl rfl, HB2.out⟩
      · have HR : Hid (r = left - n - heftB ((evW es).take (k + 1))) := by
          have h1 := HZ.out
          have h2 := HT.out
          have h3 := HQ.out
          show _ = _
          omega
        have r1 : r ≤ 1048576 := by omega
        clear hr
        go_wp2
        exact ⟨⟨k + 1, r, by omega, by go_num, rfl, r0, r1, HR, HB2⟩, by simp [intOf]; omega⟩
    · have hkk : k = n := by omega
      subst hkk
      have HF : Hid (z = left - k - heftB (evW es)) := by
        have h := HZ.out
        rw [List.take_of_length_le (by rw [evW_len, HN.out]; exact Nat.le_refl _)] at h
        exact h
      go_wp2
      go_ret
      exact ⟨z, rfl, .inr ⟨z0, HF.out⟩, HB.out⟩

end Go.Proofs.Ytomndnopbpbblaa

/- Lists of numbers: rows that grow; what markIntS writes, heldIntS finds; the contract of eqIntS. -/
namespace Go.Proofs.Ytomndnopbpbblaa
open Go.ChangeShapes Go.WideShapes Go.ChangeAt Go.RowKit Go.Joins
attribute [local go_sem ↓] Go.wp_at_zero Go.wp_at_succ

def intV (z : Int) : Value := .int .i64 z

theorem infoInt : (Try.prog.info? 3).map (fun i => (i.zero, i.size, i.bytes)) = some (some (.int .i64 0), 1, 8) := by kernel_rfl

/-- What a slice of numbers leads to. -/
def IsInts (w : World) (a : Option Addr) (zs : List Int) : Prop :=
  zs = [] ∨ ∃ b, a = some ⟨b, 0, none⟩ ∧ b < w.heap.size ∧ ∀ i, i < zs.length → w.cell? ⟨b, i, none⟩ = some (.int .i64 (zs.getD i 0))

theorem IsInts.below {w w' : World} {a : Option Addr} {zs : List Int} (h : IsInts w a zs) (hb : Below w.heap.size w w') : IsInts w' a zs := by
  rcases h with h | ⟨b, ha, hlt, hh⟩
  · exact .inl h
  · exact .inr ⟨b, ha, Nat.lt_of_lt_of_le hlt hb.size, fun i hi => (hb.cell (p := ⟨b, i, none⟩) hlt).trans (hh i hi)⟩

theorem IsInts.at {w w' : World} {a : Option Addr} {zs : List Int} (h : IsInts w a zs) (hb : Below w.heap.size w w') {k : Nat} (hk : k < zs.length) : ∃ b, a = some ⟨b, 0, none⟩ ∧ b < w'.heap.size ∧ w'.cell? ⟨b, k, none⟩ = some (.int .i64 (zs.getD k 0)) := by
  rcases h.below hb with h | ⟨b, ha, hlt, hh⟩
  · subst h
    simp at hk
  · exact ⟨b, ha, hlt, hh k hk⟩

/-- A list of numbers of one's own, between two block numbers. -/
def OwnI (w : World) (lo hi : Nat) (a : Option Addr) (zs : List Int) : Prop :=
  zs = [] ∨ ∃ b, a = some ⟨b, 0, none⟩ ∧ lo ≤ b ∧ b < hi ∧ b < w.heap.size ∧ (∀ i, i < zs.length → w.cell? ⟨b, i, none⟩ = some (.int .i64 (zs.getD i 0))) ∧ ∀ o, w.frozen? ⟨b, o, none⟩ = false

theorem OwnI.below {w w' : World} {lo hi : Nat} {a : Option Addr} {zs : List Int} (h : OwnI w lo hi a zs) (hb : Below w.heap.size w w') : OwnI w' lo hi a zs := by
  rcases h with h | ⟨b, ha, h1, h2, hlt, hh, hf⟩
  · exact .inl h
  · exact .inr ⟨b, ha, h1, h2, Nat.lt_of_lt_of_le hlt hb.size, fun i hi => (hb.cell (p := ⟨b, i, none⟩) hlt).trans (hh i hi), fun o => (hb.frozen (p := ⟨b, o, none⟩) hlt).trans (hf o)⟩

theorem OwnI.only {w w' : World} {S : Nat → Prop} {lo hi : Nat} {a : Option Addr} {zs : List Int} (h : OwnI w lo hi a zs) (ho : Only S w w') (hS : ∀ x, S x → x < lo) : OwnI w' lo hi a zs := by
  rcases h with h | ⟨b, ha, h1, h2, hlt, hh, hf⟩
  · exact .inl h
  · have hb : w'.heap[b]? = w.heap[b]? := ho.block b fun e => by have := hS b e; omega
    exact .inr ⟨b, ha, h1, h2, by rw [ho.size]; exact hlt, fun i hi => (World.cell?_of_block (a := ⟨b, i, none⟩) hb).trans (hh i hi), fun o => (ho.frozen _).trans (hf o)⟩

theorem OwnI.isInts {w : World} {lo hi : Nat} {a : Option Addr} {zs : List Int} (h : OwnI w lo hi a zs) : IsInts w a zs := by
  rcases h with h | ⟨b, ha, _, _, hlt, hh, _⟩
  · exact .inl h
  · exact .inr ⟨b, ha, hlt, hh⟩

/-- A row of numbers that grows. -/
def RowI (w : World) (base : Nat) (v : Value) (zs : List Int) : Prop := w.ownsRow base 3 1 v zs.length (zs.map intV)

theorem RowI.form {w : World} {base : Nat} {v : Value} {zs : List Int} (h : RowI w base v zs) : ∃ a cap, v = .slice a zs.length cap ∧ OwnI w base w.heap.size a zs := by
  rcases h.2 with ⟨h1, h2⟩ | ⟨g, cap, cur, h1, h2, h3, _⟩
  · exact ⟨none, 0, by rw [h1, h2], .inl (List.length_eq_zero_iff.1 h2)⟩
  · have hlt : g < w.heap.size := (Array.getElem?_eq_some_iff.1 h3).1
    subst h1
    refine ⟨_, cap, rfl, .inr ⟨g, rfl, h2, hlt, hlt, fun i hi => ?_, fun o => World.ownsRow.frozenAt h o⟩⟩
    rw [World.ownsRow.cellAt h i (by omega)]
    simp [intV, List.getD, hi]

theorem RowI.below {w w' : World} {base : Nat} {v : Value} {zs : List Int} (h : RowI w base v zs) (hb : Below w.heap.size w w') : RowI w' base v zs :=
  World.ownsRow.kept (row := none) h ⟨hb.os, hb.tape, hb.output, hb.size, fun k hk _ => hb.block k hk⟩ (by
    by_cases e : v.ownBlock = none
    · exact .inl e
    · exact .inr e)

theorem RowI.mono {w : World} {base base' : Nat} {v : Value} {zs : List Int} (h : RowI w base v zs) (hb : base' ≤ base) : RowI w base' v zs := by
  refine ⟨h.1, ?_⟩
  rcases h.2 with h1 | ⟨g, cap, cur, h1, h2, h3⟩
  · exact .inl h1
  · exact .inr ⟨g, cap, cur, h1, Nat.le_trans hb h2, h3⟩

theorem oneI_cells (w : World) (t : Nat) (z : Int) : ∀ j u, ([intV z] : List Value)[j]? = some u → (w.alloc (.cells #[.int .i64 z] t)).cell? ((⟨w.heap.size, 0, none⟩ : Addr).add j) = some u := by
  intro j u hu
  have e1 : (⟨w.heap.size, 0, none⟩ : Addr).add j = ⟨w.heap.size, j, none⟩ := by
    unfold Addr.add
    split
    · rename_i h
      rw [h]
    · simp
  rw [e1, cell_of_row _ _ j _ t (0, 0) (heap_alloc_new w _), ← hu]
  simp [intV]

theorem intV_one (zs : List Int) : ∀ u ∈ zs.map intV, u.oneCell' = true := by
  intro u hu
  obtain ⟨z, _, rfl⟩ := List.mem_map.1 hu
  rfl

theorem markI_step (k : Int) (j o : Nat) (f : Nat → Value) : (if o = j then Value.int .i64 (k + j) else if o < j then markFn k o else f o) = (if o < j + 1 then markFn k o else f o) := by
  unfold markFn
  by_cases h0 : o = j
  · rw [if_pos h0, if_pos (by omega), h0]
  rw [if_neg h0]
  by_cases hl : o < j
  · rw [if_pos hl, if_pos (by omega)]
  · rw [if_neg hl, if_neg (by omega)]

/-- A list of numbers that is marked. -/
def MarkedI (w : World) (a : Option Addr) (n : Nat) (k : Int) : Prop := n = 0 ∨ ∃ b, a = some ⟨b, 0, none⟩ ∧ b < w.heap.size ∧ CellsAre w b n (markFn k)

theorem MarkedI.below {w w' : World} {a : Option Addr} {n : Nat} {k : Int} (h : MarkedI w a n k) (hb : Below w.heap.size w w') : MarkedI w' a n k := by
  rcases h with h | ⟨b, ha, hlt, hc⟩
  · exact .inl h
  · exact .inr ⟨b, ha, Nat.lt_of_lt_of_le hlt hb.size, hc.of_block (hb.block b hlt)⟩

end Go.Proofs.Ytomndnopbpbblaa

/- The places of events that a function chooses: the contract of impl.placesOf, over what the function keeps. -/
namespace Go.Proofs.Ytomndnopbpbblaa
open Go.ChangeShapes Go.WideShapes Go.ChangeAt Go.RowKit Go.Joins
attribute [local go_sem ↓] Go.wp_at_zero Go.wp_at_succ

/-- Of what was there only blocks of S have changed. -/
structure But (S : Nat → Prop) (w w' : World) : Prop where
  os : w'.os = w.os
  tape : w'.tape = w.tape
  output : w'.output = w.output
  size : w.heap.size ≤ w'.heap.size
  block : ∀ k, k < w.heap.size → ¬ S k → w'.heap[k]? = w.heap[k]?

theorem But.refl (S : Nat → Prop) (w : World) : But S w w := ⟨rfl, rfl, rfl, Nat.le_refl _, fun _ _ _ => rfl⟩

theorem Below.but {w w' : World} (h : Below w.heap.size w w') (S : Nat → Prop) : But S w w' := ⟨h.os, h.tape, h.output, h.size, fun k hk _ => h.block k hk⟩

theorem But.trans {S T : Nat → Prop} {w w1 w2 : World} (h : But S w w1) (h' : But T w1 w2) (hS : ∀ x, x < w.heap.size → T x → S x) : But S w w2 :=
  ⟨h'.os.trans h.os, h'.tape.trans h.tape, h'.output.trans h.output, Nat.le_trans h.size h'.size, fun k hk hn => (h'.block k (Nat.lt_of_lt_of_le hk h.size) fun e => hn (hS k hk e)).trans (h.block k hk hn)⟩

theorem But.grown {b : Nat} {w w' : World} (h : w.grownBy w' (some b)) : But (fun x => x = b) w w' := ⟨h.os, h.tape, h.output, h.size, fun k hk hn => h.block k hk fun e => hn (by injection e)⟩

theorem Below.butOn {B : Nat} {S : Nat → Prop} {w0 w w' : World} (h : Below B w0 w) (h' : But S w w') (hB : B ≤ w.heap.size) (hS : ∀ x, S x → B ≤ x) : Below B w0 w' :=
  h.trans ⟨h'.os, h'.tape, h'.output, h'.size, fun k hk => h'.block k (by omega) fun e => by have := hS k e; omega⟩

theorem ownsRow_but {S : Nat → Prop} {w w' : World} {base : Nat} {e : TypeId} {size : Nat} {v : Value} {n : Nat} {xs : List Value} (h : w.ownsRow base e size v n xs) (hb : But S w w') (hS : ∀ g, v.ownBlock = some g → ¬ S g) : w'.ownsRow base e size v n xs := by
  refine ⟨h.1, ?_⟩
  rcases h.2 with hn | ⟨g, cap, cur, rfl, h2, hgg, rest⟩
  · exact .inl hn
  · exact .inr ⟨g, cap, cur, rfl, h2, (hb.block g (Array.getElem?_eq_some_iff.1 hgg).1 (hS g rfl)).trans hgg, rest⟩

theorem RowI.but {S : Nat → Prop} {w w' : World} {base : Nat} {v : Value} {zs : List Int} (h : RowI w base v zs) (hb : But S w w') (hS : ∀ g, v.ownBlock = some g → ¬ S g) : RowI w' base v zs := ownsRow_but h hb hS

theorem rowI_nil (w : World) (base : Nat) : RowI w base (.slice none 0 0) [] := ⟨rfl, .inl ⟨rfl, rfl⟩⟩

/-- The places up to k that are chosen. -/
def placesTo (P : Nat → Bool) (k : Nat) : List Int := ((List.range k).filter P).map fun j : Nat => (j : Int)

theorem placesTo_no {P : Nat → Bool} {k : Nat} (h : P k = false) : placesTo P (k + 1) = placesTo P k := by
  unfold placesTo
  rw [List.range_succ, List.filter_append]
  simp [h]

theorem placesTo_yes {P : Nat → Bool} {k : Nat} (h : P k = true) : placesTo P (k + 1) = placesTo P k ++ [(k : Int)] := by
  unfold placesTo
  rw [List.range_succ, List.filter_append]
  simp [h]

theorem placesTo_len (P : Nat → Bool) (k : Nat) : (placesTo P k).length ≤ k := by
  unfold placesTo
  rw [List.length_map]
  exact Nat.le_trans (List.length_filter_le _ _) (by simp)

theorem placed_more {P : Nat → Bool} {k : Nat} {w5 : World} {base g cp : Nat} {zs : List Int} (he : placesTo P (k + 1) = zs ++ [(k : Int)]) (hown : w5.ownsRow base 3 1 (.slice (some ⟨g, 0, none⟩) (zs.length + 1) cp) (zs.length + 1) (zs.map intV ++ [intV (k : Int)])) : RowI w5 base (.slice (some ⟨g, 0, none⟩) (zs.length + 1) cp) (placesTo P (k + 1)) := by
  rw [he]
  unfold RowI
  simpa using hown

end Go.Proofs.Ytomndnopbpbblaa

/- Sets of writes: the contracts of impl's writeSet: lacks and add. -/
namespace Go.Proofs.Ytomndnopbpbblaa
open Go.ChangeShapes Go.WideShapes Go.ChangeAt Go.RowKit Go.Joins Go.Maps
attribute [local go_sem ↓] Go.wp_at_zero Go.wp_at_succ

/-- The entries of a row, as writes. -/
def xsOf (es : List EnG) : List Wr := es.map (·.x)

theorem xsOf_len (es : List EnG) : (xsOf es).length = es.length := by simp [xsOf]

theorem xsOf_get (es : List EnG) {i : Nat} (h : i < es.length) : (xsOf es).getD i wz = (es.getD i ezG).x := by simp [xsOf, List.getD, h]

/-- Of each entry the dependencies lie in w0. -/
def DepsIn (w0 : World) (es : List EnG) : Prop := ∀ e ∈ es, e.x.xs.length ≤ 1048576 ∧ IsDeps w0 e.a e.x.xs

/-- Block b is a set of writes: of each key a row, in order, each row in a block of its own; in all just the writes of ks. -/
structure SetIs (w0 w : World) (b n base : Nat) (V : Dp → Option Value) (E : Dp → List EnG) (ks : List Wr) : Prop where
  map : MapIs keyD w b n V
  nil : ∀ d, V d = none → E d = []
  row : ∀ d v, V d = some v → RowSh w base v (E d)
  pos : ∀ d v, V d = some v → ∃ g, v.ownBlock = some g
  off : ∀ d v, V d = some v → v.ownBlock ≠ some b
  apart : ∀ d d' v v', V d = some v → V d' = some v' → d ≠ d' → v.ownBlock ≠ v'.ownBlock
  rise : ∀ d, RiseW (xsOf (E d))
  deps : ∀ d, DepsIn w0 (E d)
  len : ∀ d, (E d).length ≤ n
  has : ∀ x, hasW (xsOf (E (dpOf x))) x = hasW ks x

/-- The blocks of a set. -/
def SetS (b : Nat) (V : Dp → Option Value) (x : Nat) : Prop := x = b ∨ ∃ d v, V d = some v ∧ v.ownBlock = some x

theorem SetIs.lt {w0 w : World} {b n base : Nat} {V : Dp → Option Value} {E : Dp → List EnG} {ks : List Wr} (h : SetIs w0 w b n base V E ks) : ∀ x, SetS b V x → x < w.heap.size := by
  rintro x (rfl | ⟨d, v, h1, h2⟩)
  · exact h.map.lt
  · exact (World.ownsRow.lt (h.row d v h1) x h2).2

theorem RowSh.keep {w w' : World} {base : Nat} {v : Value} {es : List EnG} (h : RowSh w base v es) (hb : ∀ g, v.ownBlock = some g → w'.heap[g]? = w.heap[g]?) : RowSh w' base v es := by
  refine ⟨h.1, ?_⟩
  rcases h.2 with hn | ⟨g, cap, cur, rfl, h2, hgg, rest⟩
  · exact .inl hn
  · exact .inr ⟨g, cap, cur, rfl, h2, (hb g rfl).trans hgg, rest⟩

theorem SetIs.keep {w0 w w' : World} {b n base : Nat} {V : Dp → Option Value} {E : Dp → List EnG} {ks : List Wr} (h : SetIs w0 w b n base V E ks) (hb : ∀ x, SetS b V x → w'.heap[x]? = w.heap[x]?) : SetIs w0 w' b n base V E ks :=
  ⟨h.map.of_block (hb b (.inl rfl)), h.nil, fun d v hv => (h.row d v hv).keep fun g hg => hb g (.inr ⟨d, v, hv, hg⟩), h.pos, h.off, h.apart, h.rise, h.deps, h.len, h.has⟩

theorem SetIs.below {w0 w w' : World} {b n base : Nat} {V : Dp → Option Value} {E : Dp → List EnG} {ks : List Wr} (h : SetIs w0 w b n base V E ks) (hb : Below w.heap.size w w') : SetIs w0 w' b n base V E ks :=
  h.keep fun x hx => hb.block x (h.lt x hx)

theorem setIs_made (w0 w : World) (base : Nat) : SetIs w0 (w.alloc (.map #[] 0)) w.heap.size 0 base (fun _ => none) (fun _ => []) [] where
  map := mapIs_made keyD w
  nil := fun _ _ => rfl
  row := fun _ _ h => by cases h
  pos := fun _ _ h => by cases h
  off := fun _ _ h => by cases h
  apart := fun _ _ _ _ h => by cases h
  rise := fun _ i j _ h => by simp [xsOf] at h
  deps := fun _ e h => by simp at h
  len := fun _ => by simp
  has := fun _ => rfl

/-- A row's writes. -/
theorem RowSh.isWs {w0 w : World} {base : Nat} {v : Value} {es : List EnG} (h : RowSh w base v es) (hd : DepsIn w0 es) (hb : Below w0.heap.size w0 w) : ∃ a cap, v = .slice a es.length cap ∧ IsWs w a (xsOf es) ∧ Few (xsOf es) := by
  obtain ⟨a, cap, rfl⟩ := RowSh.form h
  refine ⟨a, cap, rfl, ?_, fun i hi => ?_⟩
  · rcases h.2 with ⟨_, h0⟩ | ⟨g, cap', cur, h1, h2, h3, h4⟩
    · exact .inl (by rw [List.length_eq_zero_iff.1 h0]; rfl)
    · injection h1 with h1 _ _
      subst h1
      have hlt : g < w.heap.size := (Array.getElem?_eq_some_iff.1 h3).1
      refine .inr ⟨g, 0, rfl, hlt, fun i hi => ?_⟩
      have hi' : i < es.length := by rwa [xsOf_len] at hi
      rw [xsOf_get es hi']
      have hm : es.getD i ezG ∈ es := by simp [List.getD, hi']
      have hc : ∀ c, c < 7 → w.cell? ⟨g, 0 + i * 7 + c, none⟩ = (wrValsG (es.getD i ezG))[c]? := fun c hc => by
        rw [Nat.zero_add, World.ownsRow.cellAt h (i * 7 + c) (by omega), valsG_at es i c hi' hc]
      refine ⟨(es.getD i ezG).a, (es.getD i ezG).cp, ⟨hc 0 (by omega), hc 1 (by omega), hc 2 (by omega), hc 3 (by omega), hc 4 (by omega), hc 5 (by omega), hc 6 (by omega)⟩, by have := (hd _ hm).1; unfold maxLen; omega, (hd _ hm).2.below hb⟩
  · rw [xsOf_get es (by rwa [xsOf_len] at hi)]
    exact (hd _ (by rw [xsOf_len] at hi; simp [List.getD, hi])).1

set_option maxRecDepth 100000 in
theorem depOn_any (x : Wr) (ad : Option Addr) (cp : Nat) (w : World) :
    Calls Try.prog 46 #[wrOf x ad cp] w fun e w' => e = .returned (depV x.k x.c x.s x.q) ∧ Below w.heap.size w w' := by
  obtain ⟨xk, xc, xs', xq, xv, xd, xx⟩ := x
  unfold wrOf
  simp only
  go_enter Try.func46, Try.ntmps46
  go_wp2
  refine bodyPost_ret (v := depV xk xc xs' xq) (by simp [results, Try.results46, go_sem]) rfl ⟨rfl, ?_⟩
  exact ((Below.refl _ _).alloc (Nat.le_refl _) _).alloc (by simp) _

theorem setZero (w : World) : (zeroValue 30).run Try.prog w = .ok (.slice none 0 0) w := by kernel_rfl

theorem bsearch_is (a : Option Addr) (n cap : Nat) (ws : List Wr) (x : Wr) (ad : Option Addr) (cp : Nat) (w : World) {i : Nat} {fb : Bool} (hf : FoundAt ws x i fb) (hn : ws.length = n) (hm : n ≤ 1048576) (hx : Few ws) (hxl : x.xs.length ≤ 1048576) (hh : IsWs w a ws) (hd : IsDeps w ad x.xs) (hr : RiseW ws) :
    Calls Try.prog 60 #[.slice a n cap, wrOf x ad cp, .func (.func 61) #[] #[]] w fun e w' => e = .returned (.tuple #[.int .i64 (i : Int), .bool fb]) ∧ Below w.heap.size w w' := by
  refine (bsearch_any a n cap ws x ad cp w hn hm hx hxl hh hd hr).mono ?_
  rintro e w' ⟨i', fb', rfl, h1, h2⟩
  obtain ⟨rfl, rfl⟩ := found_one hf h1
  exact ⟨rfl, h2⟩

/-- The slice that a look-up gives. -/
def rowV (V : Dp → Option Value) (d : Dp) : Value := (V d).getD (.slice none 0 0)

theorem SetIs.theRow {w0 w : World} {b n base : Nat} {V : Dp → Option Value} {E : Dp → List EnG} {ks : List Wr} (h : SetIs w0 w b n base V E ks) (d : Dp) : RowSh w base (rowV V d) (E d) := by
  unfold rowV
  cases hv : V d with
  | none =>
    rw [h.nil d hv]
    exact ⟨rfl, .inl ⟨rfl, rfl⟩⟩
  | some v => exact h.row d v hv

set_option maxRecDepth 100000 in
set_option maxHeartbeats 4000000 in
theorem setLacks_any (b n base : Nat) (V : Dp → Option Value) (E : Dp → List EnG) (ks : List Wr) (x : Wr) (ad : Option Addr) (cp : Nat) (w0 w : World) (hn : n ≤ 1048576) (hx : WrR x) (hxl : x.xs.length ≤ 1048576) (hd : IsDeps w ad x.xs) (hb : Below w0.heap.size w0 w) (h : SetIs w0 w b n base V E ks) :
    Calls Try.prog 55 #[.map (some b), wrOf x ad cp] w fun e w' => e = .returned (.bool (!hasW ks x)) ∧ Below w.heap.size w w' := by
  have hok : keyD.ok (dpOf x) := ⟨hx.1, hx.2.1, hx.2.2.1, hx.2.2.2.1⟩
  obtain ⟨i, fb, hf⟩ := found_ex (h.rise (dpOf x)) x
  have hfb : fb = hasW ks x := (found_has (h.rise (dpOf x)) hf).trans (h.has x)
  have hln := h.len (dpOf x)
  have HF := Lib.hid hf
  have HH := Lib.hid h
  have HB := Lib.hid hb
  have HD := Lib.hid hd
  rw [← hfb]
  obtain ⟨a, cap, hva, -, -⟩ := (h.theRow (dpOf x)).isWs (h.deps (dpOf x)) hb
  have HWS : Hid (∀ W, Below w.heap.size w W → IsWs W a (xsOf (E (dpOf x))) ∧ Few (xsOf (E (dpOf x)))) := fun W hW => by
    obtain ⟨a', cap', h1, h2, h3⟩ := ((HH.out.below hW).theRow (dpOf x)).isWs (HH.out.deps (dpOf x)) (below_step HB.out HB.out.size hW)
    rw [hva] at h1
    injection h1 with h1 _ _
    subst h1
    exact ⟨h2, h3⟩
  have HLK : Hid (∀ W, Below w.heap.size w W → (Instr.lookup 95 (.map (some b)) (depV x.k x.c x.s x.q) false).run Try.prog W = .ok (.slice a (E (dpOf x)).length cap) W) := fun W hW => by
    have h1 := (HH.out.below hW).map.look1 Try.underlying95 (setZero W) hok
    rw [show ((V (dpOf x)).getD (.slice none 0 0)) = rowV V (dpOf x) from rfl, hva] at h1
    exact h1
  have HBS : Hid (∀ W, Below w.heap.size w W → Calls Try.prog 60 #[.slice a (E (dpOf x)).length cap, wrOf x ad cp, .func (.func 61) #[] #[]] W fun e w' => e = .returned (.tuple #[.int .i64 (i : Int), .bool fb]) ∧ Below W.heap.size W w') := fun W hW =>
    bsearch_is a _ cap (xsOf (E (dpOf x))) x ad cp W HF.out (xsOf_len _) (by omega) (HWS.out W hW).2 hxl (HWS.out W hW).1 (HD.out.below hW) (HH.out.rise (dpOf x))
  clear h hb hd hva hfb hf
  obtain ⟨xk, xc, xs', xq, xv, xd, xx⟩ := x
  generalize (E (dpOf ⟨xk, xc, xs', xq, xv, xd, xx⟩)).length = L at *
  unfold wrOf at HBS ⊢
  simp only at HBS HLK ⊢
  have HA : Hid (Below w.heap.size w (w.alloc (.cells #[.int .i64 xk, .int .i64 xc, .int .i64 xs', .int .i64 xq, .int .i64 xv, .bool xd, .slice ad xx.length cp] 37))) := (Below.refl _ _).alloc (Nat.le_refl _) _
  have HBX : Hid ((w.alloc (.cells #[.int .i64 xk, .int .i64 xc, .int .i64 xs', .int .i64 xq, .int .i64 xv, .bool xd, .slice ad xx.length cp] 37)).heap[w.heap.size]? = some (.cells #[.int .i64 xk, .int .i64 xc, .int .i64 xs', .int .i64 xq, .int .i64 xv, .bool xd, .slice ad xx.length cp] 37 (0, 0))) := heap_alloc_new _ _
  have HSZ : Hid (w.heap.size < (w.alloc (.cells #[.int .i64 xk, .int .i64 xc, .int .i64 xs', .int .i64 xq, .int .i64 xv, .bool xd, .slice ad xx.length cp] 37)).heap.size) := by show _ < _; simp
  go_enter Try.func55, Try.ntmps55
  go_wp2_with fail
  generalize w.alloc (.cells #[.int .i64 xk, .int .i64 xc, .int .i64 xs', .int .i64 xq, .int .i64 xv, .bool xd, .slice ad xx.length cp] 37) = W1 at *
  have g0 := aft_cell HSZ.out (cell_of_row W1 w.heap.size 0 _ _ _ HBX.out)
  have g1 := aft_cell HSZ.out (cell_of_row W1 w.heap.size 1 _ _ _ HBX.out)
  have g2 := aft_cell HSZ.out (cell_of_row W1 w.heap.size 2 _ _ _ HBX.out)
  have g3 := aft_cell HSZ.out (cell_of_row W1 w.heap.size 3 _ _ _ HBX.out)
  have g4 := aft_cell HSZ.out (cell_of_row W1 w.heap.size 4 _ _ _ HBX.out)
  have g5 := aft_cell HSZ.out (cell_of_row W1 w.heap.size 5 _ _ _ HBX.out)
  have g6 := aft_cell HSZ.out (cell_of_row W1 w.heap.size 6 _ _ _ HBX.out)
  simp at g0 g1 g2 g3 g4 g5 g6
  have ne := aft_some W1
  have hlk : ∀ p : Aft W1.heap.size W1, (Instr.lookup 95 (.map (some b)) (depV xk xc xs' xq) false).run Try.prog p.now = .ok (.slice a L cap) p.now := fun p => HLK.out _ (below_step HA.out HA.out.size p.below)
  have HDO : Hid (∀ p : Aft W1.heap.size W1, Calls Try.prog 46 #[wrV xk xc xs' xq xv xd ad xx.length cp] p.now fun e w' => e = .returned (depV xk xc xs' xq) ∧ Below p.now.heap.size p.now w') := fun p => depOn_any ⟨xk, xc, xs', xq, xv, xd, xx⟩ ad cp _
  have HBP : Hid (∀ p : Aft W1.heap.size W1, Calls Try.prog 60 #[.slice a L cap, wrV xk xc xs' xq xv xd ad xx.length cp, .func (.func 61) #[] #[]] p.now fun e w' => e = .returned (.tuple #[.int .i64 (i : Int), .bool fb]) ∧ Below p.now.heap.size p.now w') := fun p => HBS.out _ (below_step HA.out HA.out.size p.below)
  refine wp_region_aft (by kernel_rfl) (by kernel_rfl) ?_
  repeat (first | go_big_quiet_step (first | (go_at_call 46; exact aft_of (HDO.out _)) | (go_at_call 60; exact aft_of (HBP.out _))))
  refine wpQuiet_nil ?_
  intro wq hq
  have HBF : Hid (Below w.heap.size w wq) := below_step HA.out HA.out.size hq
  clear hq g0 g1 g2 g3 g4 g5 g6 ne hlk
  go_wp2
  go_ret
  exact ⟨rfl, HBF.out⟩

end Go.Proofs.Ytomndnopbpbblaa

/- Sets of writes: the contract of impl's writeSet.add. -/
namespace Go.Proofs.Ytomndnopbpbblaa
open Go.ChangeShapes Go.WideShapes Go.ChangeAt Go.RowKit Go.Joins Go.Maps
attribute [local go_sem ↓] Go.wp_at_zero Go.wp_at_succ

/-- A function of dependencies, turned at one. -/
def updD {α : Type} (f : Dp → α) (d : Dp) (u : α) : Dp → α := fun d' => if d'.k = d.k ∧ d'.c = d.c ∧ d'.s = d.s ∧ d'.q = d.q then u else f d'

theorem updD_at {α : Type} (f : Dp → α) (d : Dp) (u : α) : updD f d u d = u := if_pos ⟨rfl, rfl, rfl, rfl⟩

theorem updD_off {α : Type} (f : Dp → α) (d : Dp) (u : α) {d' : Dp} (h : d' ≠ d) : updD f d u d' = f d' := if_neg fun e => h (by cases d; cases d'; simp at e; simp [e])

theorem hasW_more (ks : List Wr) (x y : Wr) : hasW (ks ++ [x]) y = (hasW ks y || (cmpW x y == 0)) := by
  unfold hasW
  rw [List.any_append]
  simp

theorem dp_ne {d d' : Dp} : d = d' ∨ d ≠ d' := Classical.em _

/-- A write that is there already. -/
theorem SetIs.same {w0 w : World} {b n base : Nat} {V : Dp → Option Value} {E : Dp → List EnG} {ks : List Wr} (h : SetIs w0 w b n base V E ks) {x : Wr} (hx : hasW ks x = true) : SetIs w0 w b (n + 1) base V E (ks ++ [x]) :=
  ⟨h.map.mono (by omega), h.nil, h.row, h.pos, h.off, h.apart, h.rise, h.deps, fun d => Nat.le_succ_of_le (h.len d), fun y => by
    rw [h.has, hasW_more]
    by_cases e : cmpW x y = 0
    · have : x = y := cmpW_zero e
      subst this
      rw [hx, Bool.true_or]
    · simp [e]⟩

theorem xsOf_put (es : List EnG) (i : Nat) (e : EnG) : xsOf (putAtW es i e) = (xsOf es).take i ++ e.x :: (xsOf es).drop i := by
  unfold putAtW xsOf
  simp

/-- One write more. -/
theorem SetIs.more {w0 w w4 w5 : World} {b n base : Nat} {V : Dp → Option Value} {E : Dp → List EnG} {ks : List Wr} (h : SetIs w0 w b n base V E ks) {x : Wr} {ad : Option Addr} {cp i : Nat} {v' : Value} (hxl : x.xs.length ≤ 1048576) (hd : IsDeps w0 ad x.xs) (hf : FoundAt (xsOf (E (dpOf x))) x i false)
    (hrow : RowSh w4 base v' (putAtW (E (dpOf x)) i ⟨x, ad, 0, cp⟩)) (hg : w.grownBy w4 (rowV V (dpOf x)).ownBlock) (hnew : NewOr w (rowV V (dpOf x)) v') (hmap : ∀ g : Dp → Option Value, g (dpOf x) = some v' → (∀ j, j ≠ dpOf x → g j = V j) → MapIs keyD w5 b (n + 1) g) (ht : w4.grownBy w5 (some b)) :
    SetIs w0 w5 b (n + 1) base (updD V (dpOf x) (some v')) (updD E (dpOf x) (putAtW (E (dpOf x)) i ⟨x, ad, 0, cp⟩)) (ks ++ [x]) ∧ (∀ y, SetS b (updD V (dpOf x) (some v')) y → SetS b V y ∨ w.heap.size ≤ y) ∧ But (SetS b V) w w5 := by
  have hbl : b < w.heap.size := h.map.lt
  have hown : ∀ g, (rowV V (dpOf x)).ownBlock = some g → ∃ v, V (dpOf x) = some v ∧ v.ownBlock = some g := fun g hg => by
    unfold rowV at hg
    cases hv : V (dpOf x) with
    | none => rw [hv] at hg; simp [Value.ownBlock] at hg
    | some v => rw [hv] at hg; exact ⟨v, rfl, hg⟩
  have hvb : v'.ownBlock ≠ some b := fun e => by
    rcases hnew b e with h1 | h1
    · obtain ⟨v, v1, v2⟩ := hown b h1
      exact h.off _ v v1 v2
    · omega
  have hpos : ∃ g, v'.ownBlock = some g := by
    rcases hrow.2 with ⟨_, h0⟩ | ⟨g, cap, cur, h1, _⟩
    · rw [putAtW_len (by have := hf.1; rwa [xsOf_len] at this)] at h0
      omega
    · exact ⟨g, by rw [h1]; rfl⟩
  have hkeep : ∀ d v, V d = some v → d ≠ dpOf x → ∀ g, v.ownBlock = some g → w5.heap[g]? = w.heap[g]? := fun d v hv hne g hgv => by
    have hlt : g < w.heap.size := (World.ownsRow.lt (h.row d v hv) g hgv).2
    have h1 : some g ≠ (rowV V (dpOf x)).ownBlock := fun e => by
      obtain ⟨u, u1, u2⟩ := hown g e.symm
      exact h.apart d (dpOf x) v u hv u1 hne (by rw [hgv, u2])
    have h2 : some g ≠ some b := fun e => h.off d v hv (by rw [hgv]; exact e)
    exact (ht.block g (Nat.lt_of_lt_of_le hlt hg.size) h2).trans (hg.block g hlt h1)
  have hrow5 : RowSh w5 base v' (putAtW (E (dpOf x)) i ⟨x, ad, 0, cp⟩) := hrow.keep fun g hgv => ht.block g (World.ownsRow.lt hrow g hgv).2 fun e => hvb (by rw [hgv]; exact e)
  refine ⟨⟨hmap _ (updD_at _ _ _) fun j hj => updD_off _ _ _ hj, ?_, ?_, ?_, ?_, ?_, ?_, ?_, ?_, ?_⟩, ?_, ?_⟩
  · intro d hv
    rcases dp_ne (d := d) (d' := dpOf x) with rfl | hne
    · rw [updD_at] at hv
      cases hv
    · rw [updD_off _ _ _ hne] at hv ⊢
      exact h.nil d hv
  · intro d v hv
    rcases dp_ne (d := d) (d' := dpOf x) with rfl | hne
    · rw [updD_at] at hv ⊢
      obtain rfl : v' = v := by simpa using hv
      exact hrow5
    · rw [updD_off _ _ _ hne] at hv ⊢
      exact (h.row d v hv).keep (hkeep d v hv hne)
  · intro d v hv
    rcases dp_ne (d := d) (d' := dpOf x) with rfl | hne
    · rw [updD_at] at hv
      obtain rfl : v' = v := by simpa using hv
      exact hpos
    · rw [updD_off _ _ _ hne] at hv
      exact h.pos d v hv
  · intro d v hv
    rcases dp_ne (d := d) (d' := dpOf x) with rfl | hne
    · rw [updD_at] at hv
      obtain rfl : v' = v := by simpa using hv
      exact hvb
    · rw [updD_off _ _ _ hne] at hv
      exact h.off d v hv
  · have hap : ∀ d v, V d = some v → d ≠ dpOf x → v.ownBlock ≠ v'.ownBlock := fun d v hv hne e => by
      obtain ⟨g, hgv⟩ := h.pos d v hv
      rw [hgv] at e
      rcases hnew g e.symm with h1 | h1
      · obtain ⟨u, u1, u2⟩ := hown g h1
        exact h.apart d (dpOf x) v u hv u1 hne (by rw [hgv, u2])
      · have := (World.ownsRow.lt (h.row d v hv) g hgv).2
        omega
    intro d d' v u hv hu hne
    rcases dp_ne (d := d) (d' := dpOf x) with rfl | h1
    · rw [updD_at] at hv
      obtain rfl : v' = v := by simpa using hv
      rw [updD_off _ _ _ hne.symm] at hu
      exact fun e => hap d' u hu hne.symm e.symm
    · rw [updD_off _ _ _ h1] at hv
      rcases dp_ne (d := d') (d' := dpOf x) with rfl | h2
      · rw [updD_at] at hu
        obtain rfl : v' = u := by simpa using hu
        exact hap d v hv h1
      · rw [updD_off _ _ _ h2] at hu
        exact h.apart d d' v u hv hu hne
  · intro d
    rcases dp_ne (d := d) (d' := dpOf x) with rfl | hne
    · rw [updD_at, xsOf_put]
      exact rise_put (h.rise _) hf
    · rw [updD_off _ _ _ hne]
      exact h.rise d
  · intro d
    rcases dp_ne (d := d) (d' := dpOf x) with rfl | hne
    · rw [updD_at]
      intro e he
      unfold putAtW at he
      rcases List.mem_append.1 he with he | he
      · exact h.deps _ e (List.mem_of_mem_take he)
      · rcases List.mem_cons.1 he with rfl | he
        · exact ⟨hxl, hd⟩
        · exact h.deps _ e (List.mem_of_mem_drop he)
    · rw [updD_off _ _ _ hne]
      exact h.deps d
  · intro d
    rcases dp_ne (d := d) (d' := dpOf x) with rfl | hne
    · rw [updD_at, putAtW_len (by have := hf.1; rwa [xsOf_len] at this)]
      have := h.len (dpOf x)
      omega
    · rw [updD_off _ _ _ hne]
      exact Nat.le_succ_of_le (h.len d)
  · intro y
    rw [hasW_more, ← h.has y]
    rcases dp_ne (d := dpOf y) (d' := dpOf x) with e | hne
    · rw [e, updD_at, xsOf_put, Bool.eq_iff_iff, hasW_iff, mem_put, Bool.or_eq_true, hasW_iff]
      constructor
      · rintro (h1 | h1)
        · right
          have h2 : x = y := h1.symm
          rw [h2]
          simp [cmpW_self]
        · exact .inl h1
      · rintro (h1 | h1)
        · exact .inr h1
        · exact .inl (cmpW_zero (by simpa using h1)).symm
    · rw [updD_off _ _ _ hne]
      have : (cmpW x y == 0) = false := by
        by_cases e : cmpW x y = 0
        · exact absurd (by rw [cmpW_zero e]) hne
        · simpa using e
      rw [this, Bool.or_false]
  · rintro y (rfl | ⟨d, v, hv, hy⟩)
    · exact .inl (.inl rfl)
    · rcases dp_ne (d := d) (d' := dpOf x) with rfl | hne
      · rw [updD_at] at hv
        obtain rfl : v' = v := by simpa using hv
        rcases hnew y hy with h1 | h1
        · obtain ⟨u, u1, u2⟩ := hown y h1
          exact .inl (.inr ⟨_, u, u1, u2⟩)
        · exact .inr h1
      · rw [updD_off _ _ _ hne] at hv
        exact .inl (.inr ⟨d, v, hv, hy⟩)
  · refine ⟨ht.os.trans hg.os, ht.tape.trans hg.tape, ht.output.trans hg.output, Nat.le_trans hg.size ht.size, fun k hk hn => ?_⟩
    refine (ht.block k (Nat.lt_of_lt_of_le hk hg.size) fun e => hn (.inl (by injection e))).trans (hg.block k hk fun e => ?_)
    obtain ⟨u, u1, u2⟩ := hown k e.symm
    exact hn (.inr ⟨_, u, u1, u2⟩)

end Go.Proofs.Ytomndnopbpbblaa
