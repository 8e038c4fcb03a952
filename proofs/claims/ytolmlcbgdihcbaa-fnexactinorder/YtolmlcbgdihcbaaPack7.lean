import Derived.Test.YtolmlcbgdihcbaaPack1
import Derived.Maps.OwnSet
import Derived.DeepKeys4
import Derived.WideKeyEntry
import Derived.Test.YtolmlcbgdihcbaaPack6
import Derived.Lib.Hide
import Derived.Test.YtolmlcbgdihcbaaPack3
/- Maps whose keys are structs of numbers, told as functions from keys to values. -/
namespace Go.Proofs.Ytolmlcbgdihcbaa
open Go.ChangeShapes Go.WideShapes Go.ChangeAt Go.RowKit Go.Joins Go.Maps

/-- An element is told by itself. -/
def asItself (v : Value) : Option (DataW Value × List MemPlace) := some (.held v, [])

/-- How the keys of a type are told: their values, the literals that they are held by, which of them there can be. -/
structure KeyG (κ : Type) (kt : TypeId) where
  v : κ → Value
  l : κ → Lit
  ok : κ → Prop
  law : Keyed Try.prog kt
  key : ∀ k, ok k → keyOf Try.prog kt (v k) = some (l k)
  inj : ∀ k k', v k = v k' → k = k'

set_option maxRecDepth 100000 in
theorem KeyG.lit {κ : Type} {kt : TypeId} (K : KeyG κ kt) {k : κ} (h : K.ok k) : WideAt.IsKeyLit (K.l k) := K.law.key (K.key k h)

set_option maxRecDepth 100000 in
theorem KeyG.linj {κ : Type} {kt : TypeId} (K : KeyG κ kt) {k k' : κ} (h : K.ok k) (h' : K.ok k') (e : K.l k = K.l k') : k = k' := by
  have h1 := K.key k h
  rw [e] at h1
  exact K.inj _ _ (K.law.inj h1 (K.key k' h'))

/-- Block b is a map that holds f. -/
def MapIs {κ : Type} {kt : TypeId} (K : KeyG κ kt) (w : World) (b n : Nat) (f : κ → Option Value) : Prop :=
  ∃ D : DataW Value, w.ownsMap Try.prog kt asItself b n D ∧ ∀ k, K.ok k → (f k = none → Maps.has D (K.l k) = false) ∧ ∀ v, f k = some v → Maps.has D (K.l k) = true ∧ ∀ z, D.atKey (K.l k) z = .held v

set_option maxRecDepth 100000 in
theorem mapIs_made {κ : Type} {kt : TypeId} (K : KeyG κ kt) (w : World) : MapIs K (w.alloc (.map #[] 0)) w.heap.size 0 (fun _ => none) :=
  ⟨.map [], World.ownsMap_made w _ _ _, fun _ _ => ⟨fun _ => rfl, fun v h => by cases h⟩⟩

set_option maxRecDepth 100000 in
theorem MapIs.lt {κ : Type} {kt : TypeId} {K : KeyG κ kt} {w : World} {b n : Nat} {f : κ → Option Value} (h : MapIs K w b n f) : b < w.heap.size := by
  obtain ⟨D, h1, _⟩ := h
  exact h1.lt

set_option maxRecDepth 100000 in
theorem MapIs.of_block {κ : Type} {kt : TypeId} {K : KeyG κ kt} {w w' : World} {b n : Nat} {f : κ → Option Value} (h : MapIs K w b n f) (hb : w'.heap[b]? = w.heap[b]?) : MapIs K w' b n f := by
  obtain ⟨D, ⟨es, clock, h1, h2⟩, h3⟩ := h
  exact ⟨D, ⟨es, clock, hb.trans h1, h2⟩, h3⟩

set_option maxRecDepth 100000 in
theorem MapIs.below {κ : Type} {kt : TypeId} {K : KeyG κ kt} {w w' : World} {b n : Nat} {f : κ → Option Value} (h : MapIs K w b n f) (hb : Below w.heap.size w w') : MapIs K w' b n f := h.of_block (hb.block b h.lt)

set_option maxRecDepth 100000 in
theorem MapIs.congr {κ : Type} {kt : TypeId} {K : KeyG κ kt} {w : World} {b n : Nat} {f g : κ → Option Value} (h : MapIs K w b n f) (e : ∀ k, K.ok k → g k = f k) : MapIs K w b n g := by
  obtain ⟨D, h1, h2⟩ := h
  exact ⟨D, h1, fun k hk => by rw [e k hk]; exact h2 k hk⟩

/-- What a look-up with two answers gives. -/
def lookAns (z : Value) : Option Value → Value
  | none => .tuple #[z, .bool false]
  | some v => .tuple #[v, .bool true]

set_option maxRecDepth 100000 in
theorem MapIs.look {κ : Type} {kt : TypeId} {K : KeyG κ kt} {w : World} {b n : Nat} {f : κ → Option Value} (h : MapIs K w b n f) {t e : TypeId} (ht : Try.prog.underlying t = some (.map kt e)) {z : Value} (hz : (zeroValue e).run Try.prog w = .ok z w) {k : κ} (hk : K.ok k) :
    (Instr.lookup t (.map (some b)) (K.v k) true).run Try.prog w = .ok (lookAns z (f k)) w := by
  obtain ⟨D, h1, h2⟩ := h
  obtain ⟨v, ps, hrun, hv⟩ := h1.look_ok K.law ht hz (zd := .held z) (zp := []) rfl (K.key k hk)
  rw [hrun]
  have e : (DataW.held v : DataW Value) = D.atKey (K.l k) (.held z) := by
    simp only [asItself, Option.some.injEq, Prod.mk.injEq] at hv
    exact hv.1
  cases hf : f k with
  | none =>
    rw [(h2 k hk).1 hf]
    rw [atKey_of_not_has ((h2 k hk).1 hf)] at e
    injection e with e
    rw [e]
    rfl
  | some u =>
    obtain ⟨h3, h4⟩ := (h2 k hk).2 u hf
    rw [h3]
    rw [h4] at e
    injection e with e
    rw [e]
    rfl

set_option maxRecDepth 100000 in
/-- A look-up with one answer. -/
theorem MapIs.look1 {κ : Type} {kt : TypeId} {K : KeyG κ kt} {w : World} {b n : Nat} {f : κ → Option Value} (h : MapIs K w b n f) {t e : TypeId} (ht : Try.prog.underlying t = some (.map kt e)) {z : Value} (hz : (zeroValue e).run Try.prog w = .ok z w) {k : κ} (hk : K.ok k) :
    (Instr.lookup t (.map (some b)) (K.v k) false).run Try.prog w = .ok ((f k).getD z) w := by
  obtain ⟨D, h1, h2⟩ := h
  obtain ⟨v, ps, hrun, hv⟩ := h1.lookup K.law ht hz (zd := .held z) (zp := []) rfl (K.key k hk)
  rw [hrun]
  have e : (DataW.held v : DataW Value) = D.atKey (K.l k) (.held z) := by
    simp only [asItself, Option.some.injEq, Prod.mk.injEq] at hv
    exact hv.1
  cases hf : f k with
  | none =>
    rw [atKey_of_not_has ((h2 k hk).1 hf)] at e
    injection e with e
    rw [e]
    rfl
  | some u =>
    obtain ⟨h3, h4⟩ := (h2 k hk).2 u hf
    rw [h4] at e
    injection e with e
    rw [e]
    rfl

set_option maxRecDepth 100000 in
theorem wpList_lookG {κ : Type} {kt : TypeId} {K : KeyG κ kt} {w : World} {ops : Array Oper} {rest : List Oper} {o : Oper} {a : Act} {Q : Exit → Act → World → Prop} (hg : o.guard = none) (m x : Operand) (t e : TypeId) (hop : o.op = Op.lookup t m x true) (ht : Try.prog.underlying t = some (.map kt e)) {z : Value} (hz : (zeroValue e).run Try.prog w = .ok z w)
    {b n : Nat} {f : κ → Option Value} (h : MapIs K w b n f) (k : κ) (hk : K.ok k) (hm : a.eval m = .map (some b)) (hx : a.eval x = K.v k)
    (hK : wpList Try.prog ops Q rest (a.put o.dst (lookAns z (f k))) w) : wpList Try.prog ops Q (o :: rest) a w := by
  refine wpList_plain hg fun K' hK' => ?_
  unfold Oper.wp
  simp [execOp, hop, hm, hx, h.look ht hz hk, Result.andThen]
  exact hK' _ _ hK

set_option maxRecDepth 100000 in
theorem wpList_lookG1 {κ : Type} {kt : TypeId} {K : KeyG κ kt} {w : World} {ops : Array Oper} {rest : List Oper} {o : Oper} {a : Act} {Q : Exit → Act → World → Prop} (hg : o.guard = none) (m x : Operand) (t e : TypeId) (hop : o.op = Op.lookup t m x false) (ht : Try.prog.underlying t = some (.map kt e)) {z : Value} (hz : (zeroValue e).run Try.prog w = .ok z w)
    {b n : Nat} {f : κ → Option Value} (h : MapIs K w b n f) (k : κ) (hk : K.ok k) (hm : a.eval m = .map (some b)) (hx : a.eval x = K.v k)
    (hK : wpList Try.prog ops Q rest (a.put o.dst ((f k).getD z)) w) : wpList Try.prog ops Q (o :: rest) a w := by
  refine wpList_plain hg fun K' hK' => ?_
  unfold Oper.wp
  simp [execOp, hop, hm, hx, h.look1 ht hz hk, Result.andThen]
  exact hK' _ _ hK

theorem MapIs.mono {κ : Type} {kt : TypeId} {K : KeyG κ kt} {w : World} {b n n' : Nat} {f : κ → Option Value} (h : MapIs K w b n f) (hn : n ≤ n') : MapIs K w b n' f := by
  obtain ⟨E, h3, h4⟩ := h
  exact ⟨E, h3.mono hn, h4⟩

set_option maxRecDepth 100000 in
/-- A store: the map then holds whatever is v at the key and as it was elsewhere. -/
theorem wpList_putG {κ : Type} {kt : TypeId} {K : KeyG κ kt} {w : World} {ops : Array Oper} {rest : List Oper} {o : Oper} {a : Act} {Q : Exit → Act → World → Prop} (hg : o.guard = none) (m x u : Operand) (t e : TypeId) (hop : o.op = Op.mapUpdate t m x u) (ht : Try.prog.underlying t = some (.map kt e))
    {b n : Nat} {f : κ → Option Value} (h : MapIs K w b n f) (hn : n < maxLen) (k : κ) (hk : K.ok k) (v : Value) (hm : a.eval m = .map (some b)) (hx : a.eval x = K.v k) (hu : a.eval u = v)
    (hK : ∀ w', (∀ g : κ → Option Value, g k = some v → (∀ j, j ≠ k → g j = f j) → MapIs K w' b (n + 1) g) → w.mapTurned w' b → wpList Try.prog ops Q rest (a.put o.dst undef) w') : wpList Try.prog ops Q (o :: rest) a w := by
  obtain ⟨D, h1, h2⟩ := h
  refine wpList_mapUpdate_in w hg m x u _ hop _ _ K.law ht asItself b n D hm h1 hn _ v (K.l k) hx hu (K.key k hk) (.held v) [] rfl fun w' h3 h4 => hK w' (fun g g1 g2 => ⟨_, h3, fun j hj => ?_⟩) h4
  by_cases e : j = k
  · subst e
    refine ⟨fun h => (by rw [g1] at h; cases h), fun v' h => ?_⟩
    · rw [g1] at h
      have : v = v' := by simpa using h
      subst this
      exact ⟨has_put_same h1.isMap (K.lit hj) _, fun z => atKey_put_same h1.isMap (K.lit hj) _ _⟩
  · have hne : K.l j ≠ K.l k := fun e' => e (K.linj hj hk e')
    rw [g2 j e]
    exact ⟨fun h => by rw [has_put_other hne]; exact (h2 j hj).1 h, fun v' h => by
      rw [has_put_other hne]
      exact ⟨((h2 j hj).2 v' h).1, fun z => by rw [atKey_put_other hne]; exact ((h2 j hj).2 v' h).2 z⟩⟩

set_option maxRecDepth 100000 in
/-- A key struck out. -/
theorem wpList_delG {κ : Type} {kt : TypeId} {K : KeyG κ kt} {w : World} {ops : Array Oper} {rest : List Oper} {o : Oper} {a : Act} {Q : Exit → Act → World → Prop} (hg : o.guard = none) (m x : Operand) (t e : TypeId) (hop : o.op = Op.call { callee := Callee.builtin Builtin.delete, args := #[m, x], argTypes := #[t, kt] }) (ht : Try.prog.underlying t = some (.map kt e))
    {b n : Nat} {f : κ → Option Value} (h : MapIs K w b n f) (k : κ) (hk : K.ok k) (hm : a.eval m = .map (some b)) (hx : a.eval x = K.v k)
    (hK : ∀ w', (∀ g : κ → Option Value, g k = none → (∀ j, j ≠ k → g j = f j) → MapIs K w' b n g) → w.mapTurned w' b → wpList Try.prog ops Q rest (a.put o.dst (.tuple #[])) w') : wpList Try.prog ops Q (o :: rest) a w := by
  obtain ⟨D, h1, h2⟩ := h
  refine wpList_delete_own w hg m x t kt hop e K.law ht asItself b n D hm h1 _ (K.l k) hx (K.key k hk) fun w' h3 h4 => hK w' (fun g g1 g2 => ⟨_, h3, fun j hj => ?_⟩) h4
  by_cases e : j = k
  · subst e
    exact ⟨fun _ => has_del_same, fun v' h => (by rw [g1] at h; cases h)⟩
  · have hne : K.l j ≠ K.l k := fun e' => e (K.linj hj hk e')
    rw [g2 j e]
    exact ⟨fun h => by rw [has_del_other hne]; exact (h2 j hj).1 h, fun v' h => by
      rw [has_del_other hne]
      exact ⟨((h2 j hj).2 v' h).1, fun z => by rw [atKey_del_other hne]; exact ((h2 j hj).2 v' h).2 z⟩⟩

end Go.Proofs.Ytolmlcbgdihcbaa

/- The bounds of numbers, of dependencies and of writes. -/
namespace Go.Proofs.Ytolmlcbgdihcbaa
open Go.ChangeShapes Go.WideShapes Go.ChangeAt Go.RowKit Go.Joins

/-- A number that an int can be. -/
def R64 (n : Int) : Prop := -9223372036854775808 ≤ n ∧ n ≤ 9223372036854775807

theorem r64_wf {n : Int} (h : R64 n) : (Lit.int .i64 n).wf = true := by
  simp only [Lit.wf, Bool.and_eq_true, decide_eq_true_eq]
  exact h

theorem wf_r64 {n : Int} (h : (Lit.int .i64 n).wf = true) : R64 n := by
  simp only [Lit.wf, Bool.and_eq_true, decide_eq_true_eq] at h
  exact h

def DpR (d : Dp) : Prop := R64 d.k ∧ R64 d.c ∧ R64 d.s ∧ R64 d.q

def WrR (x : Wr) : Prop := R64 x.k ∧ R64 x.c ∧ R64 x.s ∧ R64 x.q ∧ R64 x.v ∧ ∀ j, j < x.xs.length → DpR (x.xs.getD j dz)

def WsR (ws : List Wr) : Prop := ∀ j, j < ws.length → WrR (ws.getD j wz)

end Go.Proofs.Ytolmlcbgdihcbaa

/- Maps with struct keys: an entry read and stored ('m[k] = append(m[k], ..)'). -/
namespace Go.Proofs.Ytolmlcbgdihcbaa
open Go.ChangeShapes Go.WideShapes Go.ChangeAt Go.RowKit Go.Joins Go.Maps
open Go.ChangeMaps (setBlock heap_setBlock_same heap_setBlock_other)
open Go.WideElems (rg rg_of rd_mk rd_key rd_val)

set_option maxRecDepth 100000 in
/-- The entry that mapEntry finds or makes, and what a store by its stamp then does. -/
theorem MapIs.entry {κ : Type} {kt : TypeId} {K : KeyG κ kt} (KL : WideMaps.KeyLaw Try.prog kt) {w : World} {b n : Nat} {f : κ → Option Value} (h : MapIs K w b n f) (hn : n < maxLen) {t e : TypeId} (ht : Try.prog.underlying t = some (.map kt e)) {z : Value} (hz : ∀ u : World, (zeroValue e).run Try.prog u = .ok z u) {k : κ} (hk : K.ok k) :
    ∃ (st : Nat) (w1 : World), (Instr.mapEntry t (.map (some b)) (K.v k)).run Try.prog w = .ok (.tuple #[(f k).getD z, goInt st]) w1 ∧ w.grownBy w1 (some b) ∧
      ∀ (w2 : World) (val : Value), w2.heap[b]? = w1.heap[b]? → ∃ w3, (Instr.entryStore t (.map (some b)) (goInt st) val).run Try.prog w2 = .ok () w3 ∧ w2.grownBy w3 (some b) ∧
        ∀ g : κ → Option Value, g k = some val → (∀ j, j ≠ k → g j = f j) → MapIs K w3 b (n + 1) g := by
  have hl := h.look1 ht (hz w) hk
  obtain ⟨D, hD, h2⟩ := h
  obtain ⟨es, clock, hb, F, hs, rfl⟩ := hD
  obtain ⟨v0, st, es1, c1, hrun, hdis, hst⟩ := WideElems.entry_then_store KL ht hz hb F (K.key k hk)
  have hblt : b < w.heap.size := (Array.getElem?_eq_some_iff.1 hb).1
  have hv0 : v0 = (f k).getD z := by
    have hat := atKey_sorted (es.toList.map (rg Try.prog kt asItself)) (fit_rising K.law F) (K.l k) (K.lit hk)
    rcases hdis with ⟨e0, m1, m2, rfl⟩ | ⟨m1, rfl⟩
    · have hr : rg Try.prog kt asItself e0 = (K.l k, .held e0.val) := by
        have hd : WideElems.rd Try.prog kt asItself ⟨e0.key, e0.val, e0.born⟩ = some (K.l k, .held e0.val) := rd_mk (yv := (.held e0.val, [])) (by rw [m2]; exact K.key k hk) rfl
        exact rg_of hd
      have h3 := hat.2 _ (List.mem_map.2 ⟨e0, m1, hr⟩) rfl
      cases hf : f k with
      | none =>
        have h4 := atKey_of_not_has ((h2 k hk).1 hf) (z := (.map [] : DataW Value))
        rw [h3] at h4
        cases h4
      | some u =>
        have h4 := ((h2 k hk).2 u hf).2 (.map [])
        rw [h3] at h4
        injection h4
    · cases hf : f k with
      | none => rfl
      | some u =>
        have h4 := ((h2 k hk).2 u hf).2 (.map [])
        rw [hat.1 fun p hp e1 => ?_] at h4
        · cases h4
        · obtain ⟨x, hx, rfl⟩ := List.mem_map.1 hp
          obtain ⟨y, hy⟩ := F.reads x hx
          have m2 := rd_key hy
          rw [rg_of hy] at e1
          rw [e1] at m2
          exact m1 x hx (K.law.inj m2 (K.key k hk))
  refine ⟨st, setBlock w b (.map es1 c1), by rw [← hv0]; exact hrun, ⟨rfl, rfl, rfl, by simp [setBlock], fun i _ hi => heap_setBlock_other hb _ (fun e => hi (by rw [e]))⟩, fun w2 val hw2 => ?_⟩
  have hb1 : (setBlock w b (.map es1 c1)).heap[b]? = some (.map es1 c1) := heap_setBlock_same hb _
  rw [hb1] at hw2
  obtain ⟨es', c', hrun2, hup⟩ := hst w2 val hw2
  refine ⟨_, hrun2, ⟨rfl, rfl, rfl, by simp [setBlock], fun i _ hi => heap_setBlock_other hw2 _ (fun e => hi (by rw [e]))⟩, fun g g1 g2 => ?_⟩
  have hDD : w.ownsMap Try.prog kt asItself b n (.map ((es.toList.map (WideElems.rg Try.prog kt asItself)).foldr DataW.insert [])) := ⟨es, clock, hb, F, hs, rfl⟩
  obtain ⟨w', hrun3, ⟨es3, c3, hb3, F3, hs3, hD3⟩, -⟩ := hDD.store K.law ht hn (K.key k hk) (hv := (rfl : asItself val = some (.held val, [])))
  rw [hup] at hrun3
  have e3 : setBlock w b (.map es' c') = w' := by injection hrun3
  subst e3
  rw [heap_setBlock_same hb _] at hb3
  injection hb3 with hb3
  injection hb3 with e1 e2
  subst e1 e2
  refine ⟨_, ⟨es', c', heap_setBlock_same hw2 _, F3, hs3, rfl⟩, fun j hj => ?_⟩
  rw [← hD3]
  have hm := hDD.isMap
  by_cases e : j = k
  · subst e
    refine ⟨fun h => (by rw [g1] at h; cases h), fun v' h => ?_⟩
    · rw [g1] at h
      have : val = v' := by simpa using h
      subst this
      exact ⟨has_put_same hm (K.lit hj) _, fun z => atKey_put_same hm (K.lit hj) _ _⟩
  · have hne : K.l j ≠ K.l k := fun e' => e (K.linj hj hk e')
    rw [g2 j e]
    exact ⟨fun h => by rw [has_put_other hne]; exact (h2 j hj).1 h, fun v' h => by
      rw [has_put_other hne]
      exact ⟨((h2 j hj).2 v' h).1, fun z => by rw [atKey_put_other hne]; exact ((h2 j hj).2 v' h).2 z⟩⟩

end Go.Proofs.Ytolmlcbgdihcbaa

/- Lists of posts in memory; the contracts of szPostS, toPostS, eqPostS. -/
namespace Go.Proofs.Ytolmlcbgdihcbaa
open Go.ChangeShapes Go.WideShapes Go.ChangeAt Go.RowKit Go.Joins
attribute [local go_sem ↓] Go.wp_at_zero Go.wp_at_succ

structure Pst where
  f : Int
  xs : List Int
  y : Int

def pz : Pst := ⟨0, [], 0⟩

/-- A post's cells from place o of block b on, its numbers at a. -/
def PstAt (w : World) (b o : Nat) (x : Pst) (a : Option Addr) (cap : Nat) : Prop :=
  w.cell? ⟨b, o, none⟩ = some (.int .i64 x.f) ∧ w.cell? ⟨b, o + 1, none⟩ = some (.slice a x.xs.length cap) ∧ w.cell? ⟨b, o + 2, none⟩ = some (.int .i64 x.y)

theorem PstAt.of_block {w w' : World} {b o : Nat} {x : Pst} {a : Option Addr} {cap : Nat} (h : PstAt w b o x a cap) (hb : w'.heap[b]? = w.heap[b]?) : PstAt w' b o x a cap := by
  obtain ⟨h0, h1, h2⟩ := h
  have e : ∀ i, w'.cell? ⟨b, i, none⟩ = w.cell? ⟨b, i, none⟩ := fun i => World.cell?_of_block (a := ⟨b, i, none⟩) hb
  exact ⟨(e _).trans h0, (e _).trans h1, (e _).trans h2⟩

/-- What a slice of posts leads to, wherever its posts' numbers lie. -/
def IsPs (w : World) (a : Option Addr) (ps : List Pst) : Prop :=
  ps = [] ∨ ∃ b o, a = some ⟨b, o, none⟩ ∧ b < w.heap.size ∧ ∀ i, i < ps.length → ∃ a' cap, PstAt w b (o + i * 3) (ps.getD i pz) a' cap ∧ (ps.getD i pz).xs.length ≤ maxLen ∧ IsIs w a' (ps.getD i pz).xs

theorem IsPs.below {w w' : World} {a : Option Addr} {ps : List Pst} (h : IsPs w a ps) (hb : Below w.heap.size w w') : IsPs w' a ps := by
  rcases h with h | ⟨b, o, ha, hlt, hh⟩
  · exact .inl h
  · refine .inr ⟨b, o, ha, Nat.lt_of_lt_of_le hlt hb.size, fun i hi => ?_⟩
    obtain ⟨a', cap, h1, h2, h3⟩ := hh i hi
    exact ⟨a', cap, h1.of_block (hb.block _ hlt), h2, h3.below hb⟩

/-- How much a list of posts is: the numbers of its posts. -/
def bulkP : List Pst → Nat
  | [] => 0
  | x :: r => x.xs.length + bulkP r

theorem bulkP_take (ps : List Pst) (k : Nat) (h : k < ps.length) : bulkP (ps.take (k + 1)) = bulkP (ps.take k) + (ps.getD k pz).xs.length := by
  induction ps generalizing k with
  | nil => simp at h
  | cons x r ih =>
    cases k with
    | zero => simp [bulkP]
    | succ k =>
      have := ih k (by simpa using h)
      simp only [List.take_succ_cons, bulkP, List.getD_cons_succ] at this ⊢
      omega

theorem bulkP_one (ps : List Pst) (k : Nat) (h : k < ps.length) : (ps.getD k pz).xs.length ≤ bulkP ps := by
  induction ps generalizing k with
  | nil => simp at h
  | cons x r ih =>
    cases k with
    | zero => simp [bulkP]
    | succ k =>
      have := ih k (by simpa using h)
      simp only [bulkP, List.getD_cons_succ]
      omega

theorem ps_at {w w' : World} {a : Option Addr} {ps : List Pst} {n : Nat} (h : IsPs w a ps) (hb : Below w.heap.size w w') (hn : ps.length = n) {k : Nat} (hk : k < n) :
    ∃ b o a' cap, a = some ⟨b, o, none⟩ ∧ b < w'.heap.size ∧ PstAt w' b (o + k * 3) (ps.getD k pz) a' cap ∧ (ps.getD k pz).xs.length ≤ maxLen ∧ IsIs w' a' (ps.getD k pz).xs := by
  rcases h.below hb with h | ⟨b, o, ha, hlt, hh⟩
  · subst h
    simp at hn
    omega
  · obtain ⟨a', cap, h1, h2, h3⟩ := hh k (by omega)
    exact ⟨b, o, a', cap, ha, hlt, h1, h2, h3⟩

set_option maxRecDepth 100000 in
set_option maxHeartbeats 1000000 in
theorem szPostS_any (a : Option Addr) (len cap : Nat) (left : Int) (ps : List Pst) (w : World) (h0 : 0 ≤ left) (h1 : left ≤ 1048576) (hm : len ≤ maxLen) (hl : ps.length = len) (hi : IsPs w a ps) :
    Calls Try.prog 27 #[.slice a len cap, .int .i64 left] w fun e w' => ∃ r : Int, e = .returned (.int .i64 r) ∧ (r = -1 ∨ (0 ≤ r ∧ r = left - len - bulkP ps)) ∧ Below w.heap.size w w' := by
  have HI : Hid (IsPs w a ps) := hi
  have HL : Hid (ps.length = len) := hl
  clear hi hl
  unfold maxLen at hm
  go_enter Try.func27, Try.ntmps27
  by_cases hbig : left < (len : Int)
  · go_wp2
    go_ret
    exact ⟨_, rfl, .inl rfl, Below.refl _ _⟩
  go_wp2
  go_loopw [1, 5] (fun l i wr => ∃ (k : Nat) (r : Int), k ≤ len ∧ i = .int .i64 k ∧ l = .int .i64 r ∧ 0 ≤ r ∧ r ≤ 1048576 ∧ Hid (r = left - len - bulkP (ps.take k)) ∧ Hid (Below w.heap.size w wr)) (fun _ i _ => len - (intOf i).toNat)
  case atStart => exact ⟨0, left - len, by omega, rfl, rfl, by omega, by omega, by simp [Hid, bulkP], Below.refl _ _⟩
  case round =>
    obtain ⟨k, r, hk, rfl, rfl, r0, r1, HR, HB⟩ := hrel
    by_cases hk' : k < len
    · obtain ⟨b, o, a', cp, rfl, hz, hw, hmx, hd⟩ := ps_at HI.out HB.out HL.out hk'
      obtain ⟨e0, e1, e2⟩ := hw
      have HT := Lib.hid (bulkP_take ps k (by rw [HL.out]; exact hk'))
      have i1 : (0 : Int) ≤ (k : Int) := by omega
      have i2 : (k : Int) < (len : Int) := by omega
      clear hd
      generalize ps.getD k pz = x at *
      by_cases hx : (x.xs.length : Int) ≤ r
      · go_wp2_with fail
        refine (szPost_small _ _ _ _ _ _ _ r0 r1 hx).mono ?_
        rintro e w2 ⟨rfl, hb⟩
        have HB2 : Hid (Below w.heap.size w w2) := below_step HB.out HB.out.size hb
        clear hb
        go_wp2
        exact ⟨⟨k + 1, _, by omega, by go_num, rfl, by omega, by omega, by have := HT.out; have := HR.out; exact Lib.hid (by omega), HB2⟩, by simp [intOf]; omega⟩
      · go_wp2_with fail
        refine (szPost_big _ _ _ _ _ _ _ r0 r1 (by omega) hmx).mono ?_
        rintro e w2 ⟨rfl, hb⟩
        have HB2 : Hid (Below w.heap.size w w2) := below_step HB.out HB.out.size hb
        clear hb
        go_wp2
        go_ret
        exact ⟨_, rfl, .inl rfl, HB2.out⟩
    · have hkk : k = len := by omega
      subst hkk
      go_wp2
      go_ret
      refine ⟨_, rfl, .inr ⟨r0, ?_⟩, HB.out⟩
      have := HR.out
      rw [show ps.take k = ps from List.take_of_length_le (by rw [HL.out]; exact Nat.le_refl _)] at this
      exact this

/-- Cell j of a row of posts. -/
def psCell (ps : List Pst) (γ : Nat → Nat) (j : Nat) : Value :=
  if j % 3 = 0 then .int .i64 (ps.getD (j / 3) pz).f else if j % 3 = 1 then .slice (some ⟨γ (j / 3), 0, none⟩) (ps.getD (j / 3) pz).xs.length (ps.getD (j / 3) pz).xs.length else .int .i64 (ps.getD (j / 3) pz).y

/-- Cell j of a row of zero posts. -/
def zeroP (j : Nat) : Value := if j % 3 = 1 then .slice none 0 0 else .int .i64 0

def psFill (ps : List Pst) (γ : Nat → Nat) (k j : Nat) : Value := if j < k * 3 then psCell ps γ j else zeroP j

def updP (γ : Nat → Nat) (k g : Nat) : Nat → Nat := fun i => if i = k then g else γ i

theorem updP_at (γ : Nat → Nat) (k g : Nat) : updP γ k g k = g := by simp [updP]

theorem updP_off (γ : Nat → Nat) {k i : Nat} (g : Nat) (h : i ≠ k) : updP γ k g i = γ i := by simp [updP, h]

theorem psCell0 (ps : List Pst) (γ : Nat → Nat) (k : Nat) : psCell ps γ (k * 3) = .int .i64 (ps.getD k pz).f := by
  unfold psCell
  rw [if_pos (by omega), show k * 3 / 3 = k by omega]

theorem psCell1 (ps : List Pst) (γ : Nat → Nat) (k : Nat) : psCell ps γ (k * 3 + 1) = .slice (some ⟨γ k, 0, none⟩) (ps.getD k pz).xs.length (ps.getD k pz).xs.length := by
  unfold psCell
  rw [if_neg (by omega), if_pos (by omega), show (k * 3 + 1) / 3 = k by omega]

theorem psCell2 (ps : List Pst) (γ : Nat → Nat) (k : Nat) : psCell ps γ (k * 3 + 2) = .int .i64 (ps.getD k pz).y := by
  unfold psCell
  rw [if_neg (by omega), if_neg (by omega), show (k * 3 + 2) / 3 = k by omega]

theorem psCell_off (ps : List Pst) (γ : Nat → Nat) (k g j : Nat) (h : j < k * 3) : psCell ps (updP γ k g) j = psCell ps γ j := by
  unfold psCell
  rw [updP_off γ g (show j / 3 ≠ k by omega)]

theorem psFill_step (ps : List Pst) (γ : Nat → Nat) (k g j : Nat) :
    (if j = k * 3 + 2 then Value.int .i64 (ps.getD k pz).y else if j = k * 3 + 1 then Value.slice (some ⟨g, 0, none⟩) (ps.getD k pz).xs.length (ps.getD k pz).xs.length else if j = k * 3 then Value.int .i64 (ps.getD k pz).f else psFill ps γ k j) = psFill ps (updP γ k g) (k + 1) j := by
  unfold psFill
  by_cases h2 : j = k * 3 + 2
  · rw [if_pos h2, if_pos (by omega), h2, psCell2]
  rw [if_neg h2]
  by_cases h1 : j = k * 3 + 1
  · rw [if_pos h1, if_pos (by omega), h1, psCell1, updP_at]
  rw [if_neg h1]
  by_cases h0 : j = k * 3
  · rw [if_pos h0, if_pos (by omega), h0, psCell0]
  rw [if_neg h0]
  by_cases hl : j < k * 3
  · rw [if_pos hl, if_pos (by omega), psCell_off _ _ _ _ _ hl]
  · rw [if_neg hl, if_neg (by omega)]

theorem pstAt_of_row {w : World} {b t n : Nat} {ps : List Pst} {γ : Nat → Nat} (h : w.rowIs b t (n * 3) (psFill ps γ n)) {i : Nat} (hi : i < n) : PstAt w b (i * 3) (ps.getD i pz) (some ⟨γ i, 0, none⟩) (ps.getD i pz).xs.length := by
  refine ⟨?_, ?_, ?_⟩
  · rw [h.cell (by omega), psFill, if_pos (by omega), psCell0]
  · rw [h.cell (by omega), psFill, if_pos (by omega), psCell1]
  · rw [h.cell (by omega), psFill, if_pos (by omega), psCell2]

theorem prow_start (w : World) (t n : Nat) (ps : List Pst) (γ : Nat → Nat) : (w.alloc (.cells (madeCells #[.int .i64 0, .slice none 0 0, .int .i64 0] (n * 3)) t)).rowIs w.heap.size t (n * 3) (psFill ps γ 0) := by
  refine ⟨_, Go.Deep.blk_alloc_new _ _, size_madeCells _ _, fun i hi => ?_⟩
  have e : psFill ps γ 0 i = zeroP i := by unfold psFill; rw [if_neg (by omega)]
  rw [e]
  have h3 : i % 3 = 0 ∨ i % 3 = 1 ∨ i % 3 = 2 := by omega
  rcases h3 with h | h | h <;> simp [madeCells, zeroP, hi, h]

abbrev set3 (w : World) (g o : Nat) (x : Pst) (a : Option Addr) (len cap : Nat) : World :=
  ((w.setCell ⟨g, o, none⟩ (.int .i64 x.f)).setCell ⟨g, o + 1, none⟩ (.slice a len cap)).setCell ⟨g, o + 2, none⟩ (.int .i64 x.y)

theorem prow_step {w : World} {b t n : Nat} {ps : List Pst} {γ : Nat → Nat} {k : Nat} (g : Nat) (h : w.rowIs b t n (psFill ps γ k)) :
    (set3 w b (k * 3) (ps.getD k pz) (some ⟨g, 0, none⟩) (ps.getD k pz).xs.length (ps.getD k pz).xs.length).rowIs b t n (psFill ps (updP γ k g) (k + 1)) :=
  (((h.set _ _).set _ _).set _ _).congr (fun j _ => psFill_step ps γ k g j)

theorem below_set3 {B : Nat} {a w : World} {g : Nat} (h : Below B a w) (hg : B ≤ g) (o : Nat) (x : Pst) (ad : Option Addr) (len cap : Nat) : Below B a (set3 w g o x ad len cap) :=
  ((h.setCell (p := ⟨g, o, none⟩) hg _).setCell (p := ⟨g, o + 1, none⟩) hg _).setCell (p := ⟨g, o + 2, none⟩) hg _

theorem set3_block (w : World) (g o : Nat) (x : Pst) (a : Option Addr) (len cap : Nat) {b : Nat} (hb : b ≠ g) : (set3 w g o x a len cap).heap[b]? = w.heap[b]? := by
  unfold set3
  simp only [Below.heap_setCell _ _ _ _ (show b ≠ (⟨g, _, none⟩ : Addr).block from hb)]

theorem infoPst : (Try.prog.info? 42).map (fun i => (i.zero, i.size, i.bytes)) = some (some (postV 0 none 0 0 0), 3, 40) := by kernel_rfl

theorem run_make_ps (n : Nat) (hn : n ≤ 1048576) (w : World) :
    (Instr.makeSlice 48 (.int .i64 (n : Int)) (.int .i64 (n : Int))).run Try.prog w = .ok (.slice (some ⟨w.heap.size, 0, none⟩) n n) (w.alloc (.cells (madeCells #[.int .i64 0, .slice none 0 0, .int .i64 0] (n * 3)) 42)) := by
  obtain ⟨i, hi, hzz⟩ := Option.map_eq_some_iff.1 infoPst
  simp only [Prod.mk.injEq] at hzz
  obtain ⟨hz, hs, hb⟩ := hzz
  have hr := run_make (P := Try.prog) w 48 42 i _ Try.underlying48 hi hz .i64 .i64 n n (by omega) (Int.le_refl _) (by rw [hb]; omega) (by omega)
  simp only [Int.toNat_natCast, hs] at hr
  exact hr

/-- A list of numbers that lies at a block's begin, open. -/
def NumsAt (w : World) (g : Nat) (xs : List Int) : Prop := g < w.heap.size ∧ (∀ i, i < xs.length → w.cell? ⟨g, i, none⟩ = some (.int .i64 (xs.getD i 0))) ∧ ∀ o, w.frozen? ⟨g, o, none⟩ = false

theorem NumsAt.of_block {w w' : World} {g : Nat} {xs : List Int} (h : NumsAt w g xs) (hb : w'.heap[g]? = w.heap[g]?) (hs : g < w'.heap.size) : NumsAt w' g xs :=
  ⟨hs, fun i hi => (World.cell?_of_block (a := ⟨g, i, none⟩) hb).trans (h.2.1 i hi), fun o => (World.frozen?_of_block (a := ⟨g, o, none⟩) hb).trans (h.2.2 o)⟩

/-- The blocks of the numbers of the first k posts: each of its own, behind block B, where there are some. -/
def Rows3 (w : World) (B : Nat) (ps : List Pst) (γ : Nat → Nat) (k : Nat) : Prop :=
  (∀ i, i < k → 0 < (ps.getD i pz).xs.length → B < γ i ∧ NumsAt w (γ i) (ps.getD i pz).xs) ∧ ∀ i j, i < k → j < k → 0 < (ps.getD i pz).xs.length → 0 < (ps.getD j pz).xs.length → γ i = γ j → i = j

theorem Rows3.below {w w' : World} {B : Nat} {ps : List Pst} {γ : Nat → Nat} {k : Nat} (h : Rows3 w B ps γ k) (hb : Below w.heap.size w w') : Rows3 w' B ps γ k :=
  ⟨fun i hi hp => ⟨(h.1 i hi hp).1, (h.1 i hi hp).2.of_block (hb.block _ (h.1 i hi hp).2.1) (Nat.lt_of_lt_of_le (h.1 i hi hp).2.1 hb.size)⟩, h.2⟩

theorem Rows3.step {w w' : World} {B : Nat} {ps : List Pst} {γ : Nat → Nat} {k g lo hi : Nat} (h : Rows3 w B ps γ k) (hb : Below w.heap.size w w') (hB : B < w.heap.size) (hlo : w.heap.size ≤ lo) (ho : OwnI w' lo hi (some ⟨g, 0, none⟩) (ps.getD k pz).xs) (o : Nat) (x : Pst) (a : Option Addr) (len cap : Nat) :
    Rows3 (set3 w' B o x a len cap) B ps (updP γ k g) (k + 1) := by
  have h' := h.below hb
  have hk : 0 < (ps.getD k pz).xs.length → w.heap.size ≤ g ∧ NumsAt w' g (ps.getD k pz).xs := fun hp => by
    rcases ho with h0 | ⟨b, he, h1, h2, h3, h4, h5⟩
    · rw [h0] at hp
      simp at hp
    · injection he with he
      injection he with he
      subst he
      exact ⟨by omega, h3, h4, h5⟩
  have hs : ∀ b, b ≠ B → b < w'.heap.size → ∀ xs, NumsAt w' b xs → NumsAt (set3 w' B o x a len cap) b xs := fun b hb' hs' xs hx => hx.of_block (set3_block _ _ _ _ _ _ _ hb') (by simpa using hs')
  refine ⟨fun i hi hp => ?_, fun i j hi hj hp hq he => ?_⟩
  · by_cases hik : i = k
    · subst hik
      rw [updP_at]
      obtain ⟨h1, h2⟩ := hk hp
      exact ⟨by omega, hs _ (by omega) h2.1 _ h2⟩
    · rw [updP_off γ g hik]
      obtain ⟨h1, h2⟩ := h'.1 i (by omega) hp
      exact ⟨h1, hs _ (by omega) h2.1 _ h2⟩
  · by_cases hik : i = k
    · by_cases hjk : j = k
      · omega
      · rw [hik, updP_at, updP_off γ g hjk] at he
        rw [hik] at hp
        have h1 := (hk hp).1
        have h2 := (h.1 j (by omega) hq).2.1
        omega
    · by_cases hjk : j = k
      · rw [hjk, updP_at, updP_off γ g hik] at he
        rw [hjk] at hq
        have h1 := (hk hq).1
        have h2 := (h.1 i (by omega) hp).2.1
        omega
      · rw [updP_off γ g hik, updP_off γ g hjk] at he
        exact h.2 i j (by omega) (by omega) hp hq he

/-- Posts of one's own, from block number base on: the row's block and, where there are some, those of the numbers, all apart, none of them shut. -/
structure OwnP (w : World) (base b : Nat) (ps : List Pst) (γ : Nat → Nat) : Prop where
  lt : b < w.heap.size
  le : base ≤ b
  open_ : ∀ o, w.frozen? ⟨b, o, none⟩ = false
  at_ : ∀ i, i < ps.length → ∃ a cap, PstAt w b (i * 3) (ps.getD i pz) a cap ∧ (0 < (ps.getD i pz).xs.length → a = some ⟨γ i, 0, none⟩)
  nums : ∀ i, i < ps.length → 0 < (ps.getD i pz).xs.length → base ≤ γ i ∧ γ i ≠ b ∧ NumsAt w (γ i) (ps.getD i pz).xs
  inj : ∀ i j, i < ps.length → j < ps.length → 0 < (ps.getD i pz).xs.length → 0 < (ps.getD j pz).xs.length → γ i = γ j → i = j

theorem OwnP.below {w w' : World} {base b : Nat} {ps : List Pst} {γ : Nat → Nat} (h : OwnP w base b ps γ) (hb : Below w.heap.size w w') : OwnP w' base b ps γ where
  lt := Nat.lt_of_lt_of_le h.lt hb.size
  le := h.le
  open_ := fun o => (hb.frozen (p := ⟨b, o, none⟩) h.lt).trans (h.open_ o)
  at_ := fun i hi => by
    obtain ⟨a, cap, h1, h2⟩ := h.at_ i hi
    exact ⟨a, cap, h1.of_block (hb.block _ h.lt), h2⟩
  nums := fun i hi hp => by
    obtain ⟨h1, h2, h3⟩ := h.nums i hi hp
    exact ⟨h1, h2, h3.of_block (hb.block _ h3.1) (Nat.lt_of_lt_of_le h3.1 hb.size)⟩
  inj := h.inj

theorem OwnP.isPs {w : World} {base b : Nat} {ps : List Pst} {γ : Nat → Nat} (h : OwnP w base b ps γ) (hx : ∀ i, i < ps.length → (ps.getD i pz).xs.length ≤ maxLen) : IsPs w (some ⟨b, 0, none⟩) ps := by
  refine .inr ⟨b, 0, rfl, h.lt, fun i hi => ?_⟩
  obtain ⟨a, cap, h1, h2⟩ := h.at_ i hi
  refine ⟨a, cap, by rw [Nat.zero_add]; exact h1, hx i hi, ?_⟩
  by_cases hp : 0 < (ps.getD i pz).xs.length
  · obtain ⟨h3, h4, h5⟩ := h.nums i hi hp
    exact .inr ⟨_, 0, h2 hp, h5.1, fun j hj => by rw [Nat.zero_add]; exact h5.2.1 j hj⟩
  · exact .inl (List.length_eq_zero_iff.1 (by omega))

set_option maxRecDepth 100000 in
set_option maxHeartbeats 2000000 in
theorem toPostS_any (a : Option Addr) (len cap : Nat) (ps : List Pst) (w : World) (hn : len ≤ 1048576) (hl : ps.length = len) (hx : ∀ i, i < len → (ps.getD i pz).xs.length ≤ 1048576) (hi : IsPs w a ps) :
    Calls Try.prog 29 #[.slice a len cap] w fun e w' => ∃ γ, e = .returned (.slice (some ⟨w.heap.size, 0, none⟩) len len) ∧ OwnP w' w.heap.size w.heap.size ps γ ∧ Below w.heap.size w w' := by
  have HI : Hid (IsPs w a ps) := hi
  have HL : Hid (ps.length = len) := hl
  have HX : Hid (∀ i, i < len → (ps.getD i pz).xs.length ≤ 1048576) := hx
  clear hi hl hx
  have hmk := run_make_ps len hn
  go_enter Try.func29, Try.ntmps29
  go_wp2
  clear hmk
  go_loopw [4] (fun i wr => ∃ (k : Nat) (γ : Nat → Nat), k ≤ len ∧ i = .int .i64 k ∧ Hid (wr.rowIs w.heap.size 42 (len * 3) (psFill ps γ k)) ∧ Hid (Rows3 wr w.heap.size ps γ k) ∧ Hid (Below w.heap.size w wr)) (fun i _ => len - (intOf i).toNat)
  case atStart => exact ⟨0, fun _ => 0, Nat.zero_le _, rfl, prow_start _ _ _ _ _, ⟨fun i hi => absurd hi (Nat.not_lt_zero i), fun i j hi => absurd hi (Nat.not_lt_zero i)⟩, (Below.refl _ _).alloc (Nat.le_refl _) _⟩
  case round =>
    obtain ⟨k, γ, hk, rfl, HR, HG, HB⟩ := hrel
    by_cases hk' : k < len
    · obtain ⟨b, o, a', cp, rfl, hz, hw, hmx, hd⟩ := ps_at HI.out HB.out HL.out hk'
      obtain ⟨e0, e1, e2⟩ := hw
      have HD : Hid (IsIs wr a' (ps.getD k pz).xs) := hd
      have hxl := HX.out k hk'
      have i1 : (0 : Int) ≤ (k : Int) := by omega
      have i2 : (k : Int) < (len : Int) := by omega
      clear hd hmx
      have HS : Hid (∀ (w2 : World) (g : Nat), w2.rowIs w.heap.size 42 (len * 3) (psFill ps γ k) → (set3 w2 w.heap.size (k * 3) (ps.getD k pz) (some ⟨g, 0, none⟩) (ps.getD k pz).xs.length (ps.getD k pz).xs.length).rowIs w.heap.size 42 (len * 3) (psFill ps (updP γ k g) (k + 1))) := fun w2 g h2 => prow_step g h2
      have HG2 : Hid (∀ (w2 : World) (g lo hi : Nat), Below wr.heap.size wr w2 → wr.heap.size ≤ lo → OwnI w2 lo hi (some ⟨g, 0, none⟩) (ps.getD k pz).xs → Rows3 (set3 w2 w.heap.size (k * 3) (ps.getD k pz) (some ⟨g, 0, none⟩) (ps.getD k pz).xs.length (ps.getD k pz).xs.length) w.heap.size ps (updP γ k g) (k + 1)) := fun w2 g lo hi h2 h3 h4 => HG.out.step h2 HR.out.lt h3 h4 _ _ _ _ _
      generalize ps.getD k pz = x at *
      obtain ⟨xf, xx, xy⟩ := x
      simp only at e0 e1 e2 hxl HS HG2 HD
      go_wp2_with fail
      refine (toPost_own xf a' xx.length cp xy xx _ rfl hxl HD.out).mono ?_
      rintro e w2 ⟨g, rfl, ho, hb⟩
      have HR2 : Hid (w2.rowIs w.heap.size 42 (len * 3) (psFill ps γ k)) := HR.out.of_block (hb.block _ HR.out.lt)
      have HB2 : Hid (Below w.heap.size w w2) := below_step HB.out HB.out.size hb
      have HG3 := Lib.hid (HG2.out w2 g _ _ hb (Nat.le_refl _) ho)
      have c0 := HR2.out.cell (i := k * 3) (by omega)
      have c1 := HR2.out.cell (i := k * 3 + 1) (by omega)
      have c2 := HR2.out.cell (i := k * 3 + 2) (by omega)
      have fz := HR2.out.frozen
      clear hb ho HG2
      go_wp2
      exact ⟨⟨k + 1, updP γ k g, by omega, by go_num, HS.out _ g HR2.out, HG3.out, below_set3 HB2.out (Nat.le_refl _) (k * 3) ⟨xf, xx, xy⟩ (some ⟨g, 0, none⟩) xx.length xx.length⟩, by simp [intOf]; omega⟩
    · have hkk : k = len := by omega
      subst hkk
      go_wp2
      go_ret
      have hr := HR.out
      have hz := hr.lt
      have HL' := HL.out
      exact ⟨γ, rfl, ⟨hz, Nat.le_refl _, hr.frozen, fun i hi => ⟨_, _, pstAt_of_row hr (by omega), fun _ => rfl⟩, fun i hi hp => by
        have h1 := HG.out.1 i (by omega) hp
        exact ⟨by omega, by omega, h1.2⟩, fun i j hi hj => HG.out.2 i j (by omega) (by omega)⟩, HB.out⟩

/-- What a slice of posts leads to, where its posts' numbers lie at blocks' begins. -/
def IsPn (w : World) (a : Option Addr) (ps : List Pst) : Prop :=
  ps = [] ∨ ∃ b, a = some ⟨b, 0, none⟩ ∧ b < w.heap.size ∧ ∀ i, i < ps.length → ∃ a' cap, PstAt w b (i * 3) (ps.getD i pz) a' cap ∧ IsInts w a' (ps.getD i pz).xs

theorem IsPn.below {w w' : World} {a : Option Addr} {ps : List Pst} (h : IsPn w a ps) (hb : Below w.heap.size w w') : IsPn w' a ps := by
  rcases h with h | ⟨b, ha, hlt, hh⟩
  · exact .inl h
  · refine .inr ⟨b, ha, Nat.lt_of_lt_of_le hlt hb.size, fun i hi => ?_⟩
    obtain ⟨a', cap, h1, h3⟩ := hh i hi
    exact ⟨a', cap, h1.of_block (hb.block _ hlt), h3.below hb⟩

theorem pn_at {w w' : World} {a : Option Addr} {ps : List Pst} {n : Nat} (h : IsPn w a ps) (hb : Below w.heap.size w w') (hn : ps.length = n) {k : Nat} (hk : k < n) :
    ∃ b a' cap, a = some ⟨b, 0, none⟩ ∧ b < w'.heap.size ∧ PstAt w' b (k * 3) (ps.getD k pz) a' cap ∧ IsInts w' a' (ps.getD k pz).xs := by
  rcases h.below hb with h | ⟨b, ha, hlt, hh⟩
  · subst h
    simp at hn
    omega
  · obtain ⟨a', cap, h1, h3⟩ := hh k (by omega)
    exact ⟨b, a', cap, ha, hlt, h1, h3⟩

theorem OwnP.isPn {w : World} {base b : Nat} {ps : List Pst} {γ : Nat → Nat} (h : OwnP w base b ps γ) : IsPn w (some ⟨b, 0, none⟩) ps := by
  refine .inr ⟨b, rfl, h.lt, fun i hi => ?_⟩
  obtain ⟨a, cap, h1, h2⟩ := h.at_ i hi
  refine ⟨a, cap, h1, ?_⟩
  by_cases hp : 0 < (ps.getD i pz).xs.length
  · obtain ⟨h3, h4, h5⟩ := h.nums i hi hp
    exact .inr ⟨_, h2 hp, h5.1, h5.2.1⟩
  · exact .inl (List.length_eq_zero_iff.1 (by omega))

theorem IsPn.isPs {w : World} {a : Option Addr} {ps : List Pst} (h : IsPn w a ps) (hx : ∀ i, i < ps.length → (ps.getD i pz).xs.length ≤ maxLen) : IsPs w a ps := by
  rcases h with h | ⟨b, ha, hlt, hh⟩
  · exact .inl h
  · refine .inr ⟨b, 0, ha, hlt, fun i hi => ?_⟩
    obtain ⟨a', cap, h1, h3⟩ := hh i hi
    exact ⟨a', cap, by rw [Nat.zero_add]; exact h1, hx i hi, h3.isIs⟩

set_option maxRecDepth 100000 in
set_option maxHeartbeats 2000000 in
theorem eqPostS_same (a a' : Option Addr) (n cap cap' : Nat) (ps : List Pst) (w : World) (hl : ps.length = n) (hn : n ≤ 1048576) (hx : ∀ i, i < n → (ps.getD i pz).xs.length ≤ 1048576) (hh : IsPn w a ps) (hh' : IsPn w a' ps) :
    Calls Try.prog 31 #[.slice a n cap, .slice a' n cap'] w fun e w' => e = .returned (.bool true) ∧ Below w.heap.size w w' := by
  have HH : Hid (IsPn w a ps) := hh
  have HH' : Hid (IsPn w a' ps) := hh'
  have HN : Hid (ps.length = n) := hl
  have HX := Lib.hid hx
  clear hh hh' hl hx
  go_enter Try.func31, Try.ntmps31
  go_wp2
  go_loopw [5] (fun i wr => ∃ k : Nat, k ≤ n ∧ i = .int .i64 k ∧ Hid (Below w.heap.size w wr)) (fun i _ => n - (intOf i).toNat)
  case atStart => exact ⟨0, Nat.zero_le _, rfl, Below.refl _ _⟩
  case round =>
    obtain ⟨k, hk, rfl, HB⟩ := hrel
    by_cases hk' : k < n
    · obtain ⟨b, ad, cp, rfl, hz, ⟨e0, e1, e2⟩, hd⟩ := pn_at HH.out HB.out HN.out hk'
      obtain ⟨b', ad', cp', rfl, hz', ⟨f0, f1, f2⟩, hd'⟩ := pn_at HH'.out HB.out HN.out hk'
      have hxl := HX.out k hk'
      have i1 : (0 : Int) ≤ (k : Int) := by omega
      have i2 : (k : Int) < (n : Int) := by omega
      have HC : Hid (∀ p : Aft wr.heap.size wr, Calls Try.prog 26 #[postV (ps.getD k pz).f ad (ps.getD k pz).xs.length cp (ps.getD k pz).y, postV (ps.getD k pz).f ad' (ps.getD k pz).xs.length cp' (ps.getD k pz).y] p.now fun e w' => e = .returned (.bool true) ∧ Below p.now.heap.size p.now w') := fun p =>
        eqPost_same _ _ _ _ _ _ _ _ p.now rfl hxl (hd.below p.below) (hd'.below p.below)
      clear HH HH' hd hd'
      generalize ps.getD k pz = x at *
      obtain ⟨xf, xx, xy⟩ := x
      simp only at e0 e1 e2 f0 f1 f2 hxl HC
      go_wp2_with fail
      have ge0 := aft_cell hz e0
      have ge1 := aft_cell hz e1
      have ge2 := aft_cell hz e2
      have gf0 := aft_cell hz' f0
      have gf1 := aft_cell hz' f1
      have gf2 := aft_cell hz' f2
      have ne := aft_some wr
      refine wp_region_aft (by kernel_rfl) (by kernel_rfl) ?_
      repeat (first | go_big_quiet_step (first | (go_at_call 26; exact aft_of (HC.out _))))
      refine wpQuiet_nil ?_
      intro wq hq
      have HBQ : Hid (Below w.heap.size w wq) := below_step HB.out HB.out.size hq
      clear hq
      go_wp2
      exact ⟨⟨k + 1, by omega, by go_num, HBQ⟩, by simp [intOf]; omega⟩
    · have hkk : k = n := by omega
      subst hkk
      go_wp2
      go_ret
      exact ⟨rfl, HB.out⟩

end Go.Proofs.Ytolmlcbgdihcbaa

/- Marks: what markPostS writes, heldPostS finds. -/
namespace Go.Proofs.Ytolmlcbgdihcbaa
open Go.ChangeShapes Go.WideShapes Go.ChangeAt Go.RowKit Go.Joins
attribute [local go_sem ↓] Go.wp_at_zero Go.wp_at_succ

/-- The number that post i's marks begin with. -/
def markP (ps : List Pst) (k : Int) (i : Nat) : Int := k + 2 * i + bulkP (ps.take i)

theorem markP_zero (ps : List Pst) (k : Int) : markP ps k 0 = k := by simp [markP, bulkP]

theorem markP_next (ps : List Pst) (k : Int) (i : Nat) (h : i < ps.length) : markP ps k (i + 1) = markP ps k i + 2 + (ps.getD i pz).xs.length := by
  unfold markP
  rw [bulkP_take ps i h]
  push_cast
  omega

theorem bulkP_take_le (ps : List Pst) (i : Nat) : bulkP (ps.take i) ≤ bulkP ps := by
  induction ps generalizing i with
  | nil => simp
  | cons x r ih =>
    cases i with
    | zero => simp [bulkP]
    | succ i =>
      have := ih i
      simp only [List.take_succ_cons, bulkP]
      omega

theorem markP_bounds (ps : List Pst) (k : Int) (i : Nat) (h0 : 0 ≤ k) (h1 : k ≤ 1073741824) (hi : i ≤ 1048576) (hb : bulkP ps ≤ 1048576) : 0 ≤ markP ps k i ∧ markP ps k i ≤ 1099511627000 := by
  have := bulkP_take_le ps i
  unfold markP
  omega

/-- Cell o of a marked row; f: what was there. -/
def mkCellP (ps : List Pst) (k : Int) (f : Nat → Value) (o : Nat) : Value :=
  if o % 3 = 0 then .int .i64 (markP ps k (o / 3)) else if o % 3 = 2 then .int .i64 (markP ps k (o / 3) + 1 + (ps.getD (o / 3) pz).xs.length) else f o

theorem mkP_step (ps : List Pst) (k : Int) (f : Nat → Value) (j o : Nat) :
    (if o = j * 3 + 2 then Value.int .i64 (markP ps k j + 1 + (ps.getD j pz).xs.length) else if o = j * 3 then Value.int .i64 (markP ps k j) else if o < j * 3 then mkCellP ps k f o else f o) = (if o < (j + 1) * 3 then mkCellP ps k f o else f o) := by
  by_cases h2 : o = j * 3 + 2
  · rw [if_pos h2, if_pos (by omega), h2]
    unfold mkCellP
    rw [if_neg (by omega), if_pos (by omega), show (j * 3 + 2) / 3 = j by omega]
  rw [if_neg h2]
  by_cases h0 : o = j * 3
  · rw [if_pos h0, if_pos (by omega), h0]
    unfold mkCellP
    rw [if_pos (by omega), show j * 3 / 3 = j by omega]
  rw [if_neg h0]
  by_cases hl : o < j * 3
  · rw [if_pos hl, if_pos (by omega)]
  · rw [if_neg hl]
    by_cases h6 : o < (j + 1) * 3
    · rw [if_pos h6]
      unfold mkCellP
      rw [if_neg (by omega), if_neg (by omega)]
    · rw [if_neg h6]

/-- The blocks that a row of posts takes up. -/
def TakenP (b : Nat) (ps : List Pst) (γ : Nat → Nat) (x : Nat) : Prop := x = b ∨ ∃ i, i < ps.length ∧ 0 < (ps.getD i pz).xs.length ∧ x = γ i

/-- While a row is being marked: of its posts the first j are. -/
structure MarkQ (w wr : World) (b : Nat) (ps : List Pst) (γ : Nat → Nat) (k : Int) (f : Nat → Value) (j : Nat) : Prop where
  row : CellsAre wr b (ps.length * 3) (fun o => if o < j * 3 then mkCellP ps k f o else f o)
  nums : ∀ i, i < ps.length → 0 < (ps.getD i pz).xs.length → CellsAre wr (γ i) (ps.getD i pz).xs.length (fun o => if i < j then markFn (markP ps k i + 1) o else .int .i64 ((ps.getD i pz).xs.getD o 0))
  only : Only (TakenP b ps γ) w wr

theorem markQ_round {w wr w2 : World} {base b : Nat} {ps : List Pst} {γ : Nat → Nat} {k : Int} {f : Nat → Value} {j : Nat} (hO : OwnP w base b ps γ) (hj : j < ps.length) (h : MarkQ w wr b ps γ k f j)
    (h2 : 0 < (ps.getD j pz).xs.length → CellsAre w2 (γ j) (ps.getD j pz).xs.length (markFn (markP ps k j + 1))) (h3 : Only (fun x => 0 < (ps.getD j pz).xs.length ∧ x = γ j) (wr.setCell ⟨b, j * 3, none⟩ (.int .i64 (markP ps k j))) w2) :
    MarkQ w (w2.setCell ⟨b, j * 3 + 2, none⟩ (.int .i64 (markP ps k j + 1 + (ps.getD j pz).xs.length))) b ps γ k f (j + 1) where
  row := by
    have h4 : CellsAre (wr.setCell ⟨b, j * 3, none⟩ (.int .i64 (markP ps k j))) b (ps.length * 3) (fun o => if o = j * 3 then .int .i64 (markP ps k j) else if o < j * 3 then mkCellP ps k f o else f o) := h.row.set (by omega) _
    have h5 := h4.of_block (h3.block b (fun e => (hO.nums j hj e.1).2.1 e.2.symm))
    exact (h5.set (by omega) _).congr (fun o _ => mkP_step ps k f j o)
  nums := by
    intro i hi hp
    have hb := (hO.nums i hi hp).2.1
    by_cases hij : i = j
    · subst hij
      exact ((h2 hp).of_block (Below.heap_setCell _ _ _ _ hb)).congr (fun o _ => by rw [if_pos (by omega)])
    · have e : ¬ (0 < (ps.getD j pz).xs.length ∧ γ i = γ j) := fun e => hij (hO.inj i j hi hj hp e.1 e.2)
      refine ((h.nums i hi hp).of_block ((Below.heap_setCell _ _ _ _ hb).trans ((h3.block (γ i) e).trans (Below.heap_setCell _ _ _ _ hb)))).congr (fun o _ => ?_)
      by_cases hl : i < j
      · rw [if_pos hl, if_pos (by omega)]
      · rw [if_neg hl, if_neg (by omega)]
  only := (Only.trans (h.only.set (.inl rfl) _ _) h3 fun x hx => .inr ⟨j, hj, hx.1, hx.2⟩).set (.inl rfl) _ _

theorem markQ_start {w : World} {base b : Nat} {ps : List Pst} {γ : Nat → Nat} (k : Int) (hO : OwnP w base b ps γ) : MarkQ w w b ps γ k (fun o => (w.cell? ⟨b, o, none⟩).getD undef) 0 where
  row := by
    intro o ho
    dsimp only
    rw [if_neg (by omega)]
    obtain ⟨a, cap, ⟨h0, h1, h2⟩, _⟩ := hO.at_ (o / 3) (by omega)
    have h7 : o % 3 = 0 ∨ o % 3 = 1 ∨ o % 3 = 2 := by omega
    have hx : ∃ v, w.cell? ⟨b, o, none⟩ = some v := by
      rcases h7 with e | e | e
      · exact ⟨_, by rw [show o = o / 3 * 3 by omega]; exact h0⟩
      · exact ⟨_, by rw [show o = o / 3 * 3 + 1 by omega]; exact h1⟩
      · exact ⟨_, by rw [show o = o / 3 * 3 + 2 by omega]; exact h2⟩
    obtain ⟨v, hv⟩ := hx
    simp [hv]
  nums := by
    intro i hi hp o ho
    dsimp only
    rw [if_neg (by omega)]
    exact (hO.nums i hi hp).2.2.2.1 o ho
  only := Only.refl _ _

theorem markQ_slice {w wr : World} {base b : Nat} {ps : List Pst} {γ : Nat → Nat} {k : Int} {j i : Nat} (hO : OwnP w base b ps γ) (h : MarkQ w wr b ps γ k (fun o => (w.cell? ⟨b, o, none⟩).getD undef) j) (hi : i < ps.length) :
    ∃ a cp, wr.cell? ⟨b, i * 3 + 1, none⟩ = some (.slice a (ps.getD i pz).xs.length cp) ∧ (0 < (ps.getD i pz).xs.length → a = some ⟨γ i, 0, none⟩) := by
  obtain ⟨a, cap, ⟨_, h6, _⟩, ha⟩ := hO.at_ i hi
  refine ⟨a, cap, ?_, ha⟩
  rw [h.row (i * 3 + 1) (by omega)]
  have e : mkCellP ps k (fun o => (w.cell? ⟨b, o, none⟩).getD undef) (i * 3 + 1) = (w.cell? ⟨b, i * 3 + 1, none⟩).getD undef := by
    unfold mkCellP
    rw [if_neg (by omega), if_neg (by omega)]
  simp only [e, ite_self, h6]
  rfl

/-- A row of posts that is marked, from k on. -/
def MarkedP (w : World) (b : Nat) (ps : List Pst) (γ : Nat → Nat) (k : Int) : Prop :=
  ∀ i, i < ps.length → (w.cell? ⟨b, i * 3, none⟩ = some (.int .i64 (markP ps k i)) ∧ (∃ a cp, w.cell? ⟨b, i * 3 + 1, none⟩ = some (.slice a (ps.getD i pz).xs.length cp) ∧ (0 < (ps.getD i pz).xs.length → a = some ⟨γ i, 0, none⟩)) ∧ w.cell? ⟨b, i * 3 + 2, none⟩ = some (.int .i64 (markP ps k i + 1 + (ps.getD i pz).xs.length))) ∧
    (0 < (ps.getD i pz).xs.length → γ i < w.heap.size ∧ CellsAre w (γ i) (ps.getD i pz).xs.length (markFn (markP ps k i + 1)))

theorem MarkedP.below {w w' : World} {b : Nat} {ps : List Pst} {γ : Nat → Nat} {k : Int} {B : Nat} (h : MarkedP w b ps γ k) (hb : Below B w w') (h1 : b < B) (h2 : ∀ i, i < ps.length → 0 < (ps.getD i pz).xs.length → γ i < B) : MarkedP w' b ps γ k := by
  intro i hi
  obtain ⟨⟨e0, ⟨a, cp, e1, e3⟩, e2⟩, hd⟩ := h i hi
  have c : ∀ o, w'.cell? ⟨b, o, none⟩ = w.cell? ⟨b, o, none⟩ := fun o => hb.cell (p := ⟨b, o, none⟩) h1
  exact ⟨⟨(c _).trans e0, ⟨a, cp, (c _).trans e1, e3⟩, (c _).trans e2⟩, fun hp => ⟨Nat.lt_of_lt_of_le (hd hp).1 hb.size, (hd hp).2.of_block (hb.block _ (h2 i hi hp))⟩⟩

theorem markQ_end {w wr : World} {base b : Nat} {ps : List Pst} {γ : Nat → Nat} {k : Int} (hO : OwnP w base b ps γ) (h : MarkQ w wr b ps γ k (fun o => (w.cell? ⟨b, o, none⟩).getD undef) ps.length) : MarkedP wr b ps γ k := by
  intro i hi
  have r : ∀ c, c < 3 → wr.cell? ⟨b, i * 3 + c, none⟩ = some (mkCellP ps k (fun o => (w.cell? ⟨b, o, none⟩).getD undef) (i * 3 + c)) := fun c hc => by
    rw [h.row _ (by omega)]
    dsimp only
    rw [if_pos (by omega)]
  refine ⟨⟨?_, markQ_slice hO h hi, ?_⟩, fun hp => ⟨by rw [h.only.size]; exact (hO.nums i hi hp).2.2.1, (h.nums i hi hp).congr (fun o _ => by rw [if_pos hi])⟩⟩
  · rw [show i * 3 = i * 3 + 0 from rfl, r 0 (by omega)]
    unfold mkCellP
    rw [if_pos (by omega), show (i * 3 + 0) / 3 = i by omega]
  · rw [r 2 (by omega)]
    unfold mkCellP
    rw [if_neg (by omega), if_pos (by omega), show (i * 3 + 2) / 3 = i by omega]

theorem numsOwn {w : World} {g : Nat} {xs : List Int} {a : Option Addr} (h : 0 < xs.length → NumsAt w g xs) (ha : 0 < xs.length → a = some ⟨g, 0, none⟩) : ∃ lo hi, OwnI w lo hi a xs ∧ ∀ x, lo ≤ x ∧ x < hi → 0 < xs.length ∧ x = g := by
  by_cases hp : 0 < xs.length
  · obtain ⟨h1, h2, h3⟩ := h hp
    exact ⟨g, g + 1, .inr ⟨g, ha hp, Nat.le_refl _, Nat.lt_succ_self _, h1, h2, h3⟩, fun x hx => ⟨hp, by omega⟩⟩
  · exact ⟨0, 0, .inl (List.length_eq_zero_iff.1 (by omega)), fun x hx => by omega⟩

set_option maxRecDepth 100000 in
set_option maxHeartbeats 4000000 in
theorem markPostS_any (base b n cap : Nat) (k : Int) (ps : List Pst) (γ : Nat → Nat) (w : World) (hn : ps.length = n) (hm : n ≤ 1048576) (hbk : bulkP ps ≤ 1048576) (h0 : 0 ≤ k) (h1 : k ≤ 1073741824) (ho : OwnP w base b ps γ) :
    Calls Try.prog 32 #[.slice (some ⟨b, 0, none⟩) n cap, .int .i64 k] w fun e w' => e = .returned (.int .i64 (markP ps k n)) ∧ MarkedP w' b ps γ k ∧ Only (TakenP b ps γ) w w' := by
  have HO : Hid (OwnP w base b ps γ) := ho
  have HN : Hid (ps.length = n) := hn
  clear ho hn
  have HB : Hid (∀ i, i ≤ n → 0 ≤ markP ps k i ∧ markP ps k i ≤ 1099511627000) := fun i hi => markP_bounds ps k i h0 h1 (by omega) hbk
  go_enter Try.func32, Try.ntmps32
  go_wp2
  go_loopw [1, 5] (fun l i wr => ∃ (j : Nat), j ≤ n ∧ i = .int .i64 j ∧ l = .int .i64 (markP ps k j) ∧ Hid (MarkQ w wr b ps γ k (fun o => (w.cell? ⟨b, o, none⟩).getD undef) j)) (fun _ i _ => n - (intOf i).toNat)
  case atStart => exact ⟨0, Nat.zero_le _, rfl, by rw [markP_zero], markQ_start k HO.out⟩
  case round =>
    obtain ⟨j, hj, rfl, rfl, HI⟩ := hrel
    by_cases hj' : j < n
    · have hjw : j < ps.length := by rw [HN.out]; exact hj'
      have c0 := HI.out.row (j * 3) (by omega)
      have c2 := HI.out.row (j * 3 + 2) (by omega)
      obtain ⟨aj, cp, c1, haj⟩ := markQ_slice HO.out HI.out hjw
      have HAJ := Lib.hid haj
      clear haj
      have fz : ∀ o, wr.frozen? ⟨b, o, none⟩ = false := fun o => (HI.out.only.frozen _).trans (HO.out.open_ o)
      have i1 : (0 : Int) ≤ (j : Int) := by omega
      have i2 : (j : Int) < (n : Int) := by omega
      obtain ⟨m0, m1⟩ := HB.out j hj
      have hln : (ps.getD j pz).xs.length ≤ 1048576 := Nat.le_trans (bulkP_one ps j hjw) hbk
      have HNA : Hid (0 < (ps.getD j pz).xs.length → NumsAt (wr.setCell ⟨b, j * 3, none⟩ (.int .i64 (markP ps k j))) (γ j) (ps.getD j pz).xs) := fun hp => by
        obtain ⟨q1, q2, q3⟩ := HO.out.nums j hjw hp
        refine ⟨by simpa using (show γ j < wr.heap.size by rw [HI.out.only.size]; exact q3.1), fun i hi => ?_, fun o => by rw [World.frozen?_setCell]; exact (HI.out.only.frozen _).trans (q3.2.2 o)⟩
        have h5 := HI.out.nums j hjw hp i hi
        dsimp only at h5
        rw [if_neg (Nat.lt_irrefl j)] at h5
        exact (World.cell?_of_block (a := ⟨γ j, i, none⟩) (Below.heap_setCell _ _ _ _ q2)).trans h5
      obtain ⟨lo, hi, hown, hlh⟩ := numsOwn HNA.out HAJ.out
      have HOWN := Lib.hid hown
      have HLH := Lib.hid hlh
      have HK : Hid (markP ps k (j + 1) = markP ps k j + 2 + (ps.getD j pz).xs.length) := markP_next ps k j hjw
      have HS : Hid (∀ w2, (MarkedI w2 aj (ps.getD j pz).xs.length (markP ps k j + 1)) → Only (fun x => lo ≤ x ∧ x < hi) (wr.setCell ⟨b, j * 3, none⟩ (.int .i64 (markP ps k j))) w2 → MarkQ w (w2.setCell ⟨b, j * 3 + 2, none⟩ (.int .i64 (markP ps k j + 1 + (ps.getD j pz).xs.length))) b ps γ k (fun o => (w.cell? ⟨b, o, none⟩).getD undef) (j + 1) ∧ w2.cell? ⟨b, j * 3 + 2, none⟩ = (wr.cell? ⟨b, j * 3 + 2, none⟩) ∧ ∀ o, w2.frozen? ⟨b, o, none⟩ = false) := fun w2 h2 h3 => by
        have hne : ¬ (lo ≤ b ∧ b < hi) := fun e => (HO.out.nums j hjw (HLH.out b e).1).2.1 (HLH.out b e).2.symm
        refine ⟨markQ_round HO.out hjw HI.out (fun hp => ?_) ⟨h3.os, h3.tape, h3.output, h3.size, fun x hx => h3.block x fun e => hx (HLH.out x e), h3.frozen⟩, ?_, fun o => (h3.frozen _).trans (by rw [World.frozen?_setCell]; exact fz o)⟩
        · rcases h2 with h2 | ⟨g, hg, _, h2⟩
          · omega
          · rw [HAJ.out hp] at hg
            injection hg with hg
            injection hg with hg
            rw [hg]
            exact h2
        · exact (World.cell?_of_block (a := ⟨b, j * 3 + 2, none⟩) (h3.block b hne)).trans (World.cell?_setCell_other _ _ _ _ (fun e => by injection e with _ e2; omega))
      clear HI hown hlh HNA HLH
      generalize markP ps k j = m at *
      generalize (ps.getD j pz).xs = ys at *
      go_wp2_with fail
      refine (markIntS_any lo hi ys.length cp aj (m + 1) ys _ rfl hln (by omega) (by omega) HOWN.out).mono ?_
      rintro e w2 ⟨rfl, h2, h3⟩
      obtain ⟨hq, hc, hf⟩ := HS.out w2 h2 h3
      have HI2 := Lib.hid hq
      have c3 := hc.trans c2
      clear hq h2 h3 HS hc c2
      go_wp2
      exact ⟨⟨j + 1, by omega, by go_num, by rw [HK.out]; congr 1; omega, HI2⟩, by simp [intOf]; omega⟩
    · have hjj : j = n := by omega
      subst hjj
      go_wp2
      go_ret
      refine ⟨rfl, markQ_end HO.out ?_, HI.out.only⟩
      rw [HN.out]
      exact HI.out

set_option maxRecDepth 100000 in
set_option maxHeartbeats 4000000 in
theorem heldPostS_any (b n cap : Nat) (k : Int) (ps : List Pst) (γ : Nat → Nat) (w : World) (hn : ps.length = n) (hm : n ≤ 1048576) (hbk : bulkP ps ≤ 1048576) (h0 : 0 ≤ k) (h1 : k ≤ 1073741824) (ho : MarkedP w b ps γ k) :
    Calls Try.prog 33 #[.slice (some ⟨b, 0, none⟩) n cap, .int .i64 k] w fun e w' => e = .returned (.int .i64 (markP ps k n)) ∧ w' = w := by
  have HO : Hid (MarkedP w b ps γ k) := ho
  have HN : Hid (ps.length = n) := hn
  clear ho hn
  have HB : Hid (∀ i, i ≤ n → 0 ≤ markP ps k i ∧ markP ps k i ≤ 1099511627000) := fun i hi => markP_bounds ps k i h0 h1 (by omega) hbk
  go_enter Try.func33, Try.ntmps33
  go_wp2
  go_loopw [1, 5] (fun l i wr => ∃ (j : Nat), j ≤ n ∧ i = .int .i64 j ∧ l = .int .i64 (markP ps k j) ∧ wr = w) (fun _ i _ => n - (intOf i).toNat)
  case atStart => exact ⟨0, Nat.zero_le _, rfl, by rw [markP_zero], rfl⟩
  case round =>
    obtain ⟨j, hj, rfl, rfl, rfl⟩ := hrel
    by_cases hj' : j < n
    · have hjw : j < ps.length := by rw [HN.out]; exact hj'
      obtain ⟨⟨c0, ⟨aj, cp, c1, haj⟩, c2⟩, hd⟩ := HO.out j hjw
      have HM : Hid (MarkedI wr aj (ps.getD j pz).xs.length (markP ps k j + 1)) := by
        by_cases hp : 0 < (ps.getD j pz).xs.length
        · exact .inr ⟨γ j, haj hp, (hd hp).1, (hd hp).2⟩
        · exact .inl (by omega)
      clear hd haj
      have i1 : (0 : Int) ≤ (j : Int) := by omega
      have i2 : (j : Int) < (n : Int) := by omega
      obtain ⟨m0, m1⟩ := HB.out j hj
      have HK : Hid (markP ps k (j + 1) = markP ps k j + 2 + (ps.getD j pz).xs.length) := markP_next ps k j hjw
      have hln : (ps.getD j pz).xs.length ≤ 1048576 := Nat.le_trans (bulkP_one ps j hjw) hbk
      generalize markP ps k j = m at *
      generalize (ps.getD j pz).xs.length = ln at *
      go_wp2_with fail
      refine (heldIntS_any ln cp aj (m + 1) _ hln (by omega) (by omega) HM.out).mono ?_
      rintro e w2 ⟨rfl, hw⟩
      subst w2
      have hnn : ¬ m + 1 + (ln : Int) < 0 := by omega
      go_wp2
      exact ⟨⟨j + 1, by omega, by go_num, by rw [HK.out]; congr 1; omega, trivial⟩, by simp [intOf]; omega⟩
    · have hjj : j = n := by omega
      subst hjj
      go_wp2
      go_ret
      exact ⟨rfl, rfl⟩

end Go.Proofs.Ytolmlcbgdihcbaa

/- InOrder as plain facts: the course of the posts. -/
namespace Go.Proofs.Ytolmlcbgdihcbaa
open Go.ChangeShapes Go.WideShapes Go.ChangeAt Go.RowKit Go.Joins

/-- Whether the post may come to one who has seen v. -/
def comesB (v : List Int) (p : Pst) : Bool := mayB v p.xs p.f

/-- The first place that may come. -/
def firstC (v : List Int) (ps : List Pst) : Nat := ps.findIdx (comesB v)

def z4 : List Int := [0, 0, 0, 0]

/-- The places that came in n rounds, and the vector behind them. -/
def runC (ps : List Pst) : Nat → List Nat × List Int
  | 0 => ([], z4)
  | n + 1 => ((runC ps n).1 ++ [firstC (runC ps n).2 ps], joinV (runC ps n).2 (ps.getD (firstC (runC ps n).2 ps) pz).xs)

/-- In each of the first n rounds one came. -/
def GoC (ps : List Pst) (n : Nat) : Prop := ∀ m, m < n → firstC (runC ps m).2 ps < ps.length

theorem goC_zero (ps : List Pst) : GoC ps 0 := fun m h => absurd h (Nat.not_lt_zero m)

theorem GoC.more {ps : List Pst} {n : Nat} (h : GoC ps n) (hf : firstC (runC ps n).2 ps < ps.length) : GoC ps (n + 1) := fun m hm => by
  by_cases e : m = n
  · rw [e]
    exact hf
  · exact h m (by omega)

theorem GoC.less {ps : List Pst} {n m : Nat} (h : GoC ps n) (hm : m ≤ n) : GoC ps m := fun k hk => h k (by omega)

theorem firstC_comes {v : List Int} {ps : List Pst} (h : firstC v ps < ps.length) : comesB v (ps.getD (firstC v ps) pz) = true := by
  have := List.findIdx_getElem (p := comesB v) (xs := ps) (w := h)
  rw [show ps.getD (firstC v ps) pz = ps[firstC v ps] by simp [List.getD, h]]
  exact this

theorem firstC_before {v : List Int} {ps : List Pst} {i : Nat} (h : i < firstC v ps) (hi : i < ps.length) : comesB v (ps.getD i pz) = false := by
  have := List.not_of_lt_findIdx (p := comesB v) (xs := ps) h
  rw [show ps.getD i pz = ps[i] by simp [List.getD, hi]]
  simpa using this

theorem firstC_le (v : List Int) (ps : List Pst) : firstC v ps ≤ ps.length := List.findIdx_le_length

theorem firstC_is {v : List Int} {ps : List Pst} {k : Nat} (hk : k < ps.length) (hc : comesB v (ps.getD k pz) = true) (hb : ∀ i, i < k → comesB v (ps.getD i pz) = false) : firstC v ps = k := by
  have hle : firstC v ps ≤ k := by
    by_cases h : firstC v ps ≤ k
    · exact h
    · have := firstC_before (v := v) (ps := ps) (i := k) (by omega) hk
      rw [hc] at this
      cases this
  by_cases h : firstC v ps < k
  · have := hb _ h
    rw [firstC_comes (by omega)] at this
    cases this
  · omega

theorem firstC_none {v : List Int} {ps : List Pst} (hb : ∀ i, i < ps.length → comesB v (ps.getD i pz) = false) : firstC v ps = ps.length := by
  by_cases h : firstC v ps < ps.length
  · have := hb _ h
    rw [firstC_comes h] at this
    cases this
  · have := firstC_le v ps
    omega

/-- Two courses that are at their end are one. -/
theorem goC_end {ps : List Pst} {n m : Nat} (h : GoC ps n) (h' : GoC ps m) (e : firstC (runC ps n).2 ps = ps.length) (e' : firstC (runC ps m).2 ps = ps.length) : n = m := by
  by_cases h1 : n < m
  · have := h' n h1
    omega
  · by_cases h2 : m < n
    · have := h m h2
      omega
    · omega

theorem mayAt_four (xs ys : List Int) (q : Nat) : mayAt xs ys q 4 = (mayOne xs ys q 0 && mayOne xs ys q 1 && mayOne xs ys q 2 && mayOne xs ys q 3) := by
  simp only [mayAt_next, show mayAt xs ys q 0 = true from rfl, Bool.true_and]

def sum4 (v : List Int) : Int := v.getD 0 0 + v.getD 1 0 + v.getD 2 0 + v.getD 3 0

/-- What one coming does to the vector. -/
theorem comes_join {v : List Int} {p : Pst} (h : comesB v p = true) :
    vecB v = true ∧ vecB p.xs = true ∧ vecB (joinV v p.xs) = true ∧ (joinV v p.xs).length = 4 ∧ sum4 (joinV v p.xs) = sum4 v + 1 ∧ (0 ≤ p.f ∧ p.f ≤ 3) ∧
      p.xs.getD p.f.toNat 0 = v.getD p.f.toNat 0 + 1 ∧ (joinV v p.xs).getD p.f.toNat 0 = p.xs.getD p.f.toNat 0 ∧ ∀ j, j < 4 → v.getD j 0 ≤ (joinV v p.xs).getD j 0 := by
  unfold comesB mayB at h
  simp only [Bool.and_eq_true] at h
  obtain ⟨hv, hx, hs, hm⟩ := h
  obtain ⟨x0, x1, x2, x3, e, hx0, hx1, hx2, hx3⟩ := vecB_four hv
  obtain ⟨y0, y1, y2, y3, e', hy0, hy1, hy2, hy3⟩ := vecB_four hx
  have hj := joinV_good hv hx
  rw [e'] at hm hj ⊢
  rw [e] at hm hj ⊢
  have hf : 0 ≤ p.f ∧ p.f ≤ 3 := by
    unfold btw at hs
    simpa using hs
  have hq : p.f.toNat = 0 ∨ p.f.toNat = 1 ∨ p.f.toNat = 2 ∨ p.f.toNat = 3 := by omega
  rw [hj]
  rw [mayAt_four] at hm
  simp only [Bool.and_eq_true, mayOne] at hm
  obtain ⟨⟨⟨m0, m1⟩, m2⟩, m3⟩ := hm
  refine ⟨(vecB_is _ _ _ _).2 ⟨hx0, hx1, hx2, hx3⟩, (vecB_is _ _ _ _).2 ⟨hy0, hy1, hy2, hy3⟩, (vecB_is _ _ _ _).2 ⟨by omega, by omega, by omega, by omega⟩, rfl, ?_, hf, ?_, ?_, ?_⟩
  · rcases hq with q | q | q | q <;> rw [q] at m0 m1 m2 m3 <;> simp at m0 m1 m2 m3 <;> simp [sum4] <;> omega
  · rcases hq with q | q | q | q <;> rw [q] at m0 m1 m2 m3 ⊢ <;> simp at m0 m1 m2 m3 <;> simp <;> omega
  · rcases hq with q | q | q | q <;> rw [q] at m0 m1 m2 m3 ⊢ <;> simp at m0 m1 m2 m3 <;> simp <;> omega
  · intro j hj'
    have : j = 0 ∨ j = 1 ∨ j = 2 ∨ j = 3 := by omega
    rcases this with rfl | rfl | rfl | rfl <;> simp <;> omega

theorem runC_vec {ps : List Pst} : ∀ {n : Nat}, GoC ps n → vecB (runC ps n).2 = true ∧ sum4 (runC ps n).2 = (n : Int) ∧ (runC ps n).1.length = n
  | 0, _ => ⟨rfl, rfl, rfl⟩
  | n + 1, h => by
    obtain ⟨h1, h2, h3⟩ := runC_vec (h.less (Nat.le_succ n))
    obtain ⟨-, -, c3, -, c5, -⟩ := comes_join (firstC_comes (h n (Nat.lt_succ_self n)))
    refine ⟨c3, ?_, by simp [runC, h3]⟩
    show sum4 (joinV _ _) = _
    rw [c5, h2]
    omega

theorem runC_four {ps : List Pst} {n : Nat} (h : GoC ps n) : (runC ps n).2.length = 4 := by
  obtain ⟨x0, x1, x2, x3, e, -⟩ := vecB_four (runC_vec h).1
  rw [e]
  rfl

theorem GoC.bound {ps : List Pst} {n : Nat} (h : GoC ps n) : n ≤ 4000000 := by
  obtain ⟨h1, h2, -⟩ := runC_vec h
  obtain ⟨x0, x1, x2, x3, e, hx0, hx1, hx2, hx3⟩ := vecB_four h1
  rw [e] at h2
  simp [sum4] at h2
  omega

/-- A place that came: a post of range whose tick is past. -/
theorem came_past {ps : List Pst} : ∀ {n : Nat}, GoC ps n → ∀ i, i ∈ (runC ps n).1 → i < ps.length ∧ vecB (ps.getD i pz).xs = true ∧ (0 ≤ (ps.getD i pz).f ∧ (ps.getD i pz).f ≤ 3) ∧ (ps.getD i pz).xs.getD (ps.getD i pz).f.toNat 0 ≤ (runC ps n).2.getD (ps.getD i pz).f.toNat 0
  | 0, _, i, h => by simp [runC] at h
  | n + 1, hg, i, h => by
    have hc := comes_join (firstC_comes (hg n (Nat.lt_succ_self n)))
    have h' : i ∈ (runC ps n).1 ∨ i = firstC (runC ps n).2 ps := by simpa [runC] using h
    rcases h' with h' | h'
    · obtain ⟨h1, h2, h3, h4⟩ := came_past (hg.less (Nat.le_succ n)) i h'
      refine ⟨h1, h2, h3, Int.le_trans h4 ?_⟩
      exact hc.2.2.2.2.2.2.2.2 _ (by omega)
    · subst h'
      refine ⟨hg n (Nat.lt_succ_self n), hc.2.1, hc.2.2.2.2.2.1, ?_⟩
      show _ ≤ (joinV _ _).getD _ 0
      rw [hc.2.2.2.2.2.2.2.1]
      exact Int.le_refl _

/-- Who came doesn't come again. -/
theorem came_not {ps : List Pst} {n : Nat} (h : GoC ps n) {i : Nat} (hi : i ∈ (runC ps n).1) : comesB (runC ps n).2 (ps.getD i pz) = false := by
  cases hc : comesB (runC ps n).2 (ps.getD i pz)
  · rfl
  · have h1 := (came_past h i hi).2.2.2
    have h2 := (comes_join hc).2.2.2.2.2.2.1
    omega

theorem runC_nodup {ps : List Pst} : ∀ {n : Nat}, GoC ps n → (runC ps n).1.Nodup
  | 0, _ => by simp [runC]
  | n + 1, h => by
    have hn := h.less (Nat.le_succ n)
    show ((runC ps n).1 ++ [_]).Nodup
    rw [List.nodup_append]
    refine ⟨runC_nodup hn, by simp, fun a ha b hb e => ?_⟩
    have hb' : b = firstC (runC ps n).2 ps := by simpa using hb
    have := came_not hn ha
    rw [e, hb', firstC_comes (h n (Nat.lt_succ_self n))] at this
    cases this

/-- The posts that came, in their order. -/
def outC (ps : List Pst) (n : Nat) : List Pst := (runC ps n).1.map fun i => ps.getD i pz

theorem outC_len {ps : List Pst} {n : Nat} (h : GoC ps n) : (outC ps n).length = n := by
  unfold outC
  rw [List.length_map]
  exact (runC_vec h).2.2

theorem outC_next (ps : List Pst) (n : Nat) : outC ps (n + 1) = outC ps n ++ [ps.getD (firstC (runC ps n).2 ps) pz] := by
  simp [outC, runC]

theorem outC_four {ps : List Pst} {n : Nat} (h : GoC ps n) : ∀ x ∈ outC ps n, x.xs.length = 4 := by
  intro x hx
  obtain ⟨i, hi, rfl⟩ := List.mem_map.1 hx
  obtain ⟨x0, x1, x2, x3, e, -⟩ := vecB_four (came_past h i hi).2.1
  rw [e]
  rfl

theorem bulkP_append (xs ys : List Pst) : bulkP (xs ++ ys) = bulkP xs + bulkP ys := by
  induction xs with
  | nil => simp [bulkP]
  | cons x r ih => simp [bulkP, ih]; omega

theorem bulk_places (ps : List Pst) : ∀ (tr : List Nat) (rs : List Nat), tr.Nodup → (∀ i ∈ tr, i ∈ rs) → bulkP (tr.map fun i => ps.getD i pz) ≤ bulkP (rs.map fun i => ps.getD i pz) ∧ tr.length ≤ rs.length
  | [], rs, _, _ => ⟨by simp [bulkP], by simp⟩
  | i :: tr, rs, hn, hm => by
    obtain ⟨l1, l2, e⟩ := List.append_of_mem (hm i (by simp))
    subst e
    have hn' := List.nodup_cons.1 hn
    have h := bulk_places ps tr (l1 ++ l2) hn'.2 fun j hj => by
      have hj1 := hm j (by simp [hj])
      have hne : j ≠ i := fun e => hn'.1 (e ▸ hj)
      simp [hne] at hj1
      simpa using hj1
    simp only [List.map_append, List.map_cons, bulkP_append, bulkP, List.length_append, List.length_cons] at h ⊢
    omega

theorem range_posts (ps : List Pst) : (List.range ps.length).map (fun i => ps.getD i pz) = ps := by
  apply List.ext_getElem (by simp)
  intro i h1 h2
  simp [List.getD, h2]

theorem outC_bulk {ps : List Pst} {n : Nat} (h : GoC ps n) : bulkP (outC ps n) ≤ bulkP ps ∧ n ≤ ps.length := by
  have := bulk_places ps (runC ps n).1 (List.range ps.length) (runC_nodup h) fun i hi => List.mem_range.2 (came_past h i hi).1
  rw [range_posts, List.length_range, (runC_vec h).2.2] at this
  exact this

/-- Looking from the end: the least place from j on that comes. -/
def FromC (v : List Int) (ps : List Pst) (j : Nat) (k : Int) : Prop :=
  (k = -1 ∧ ∀ i, j ≤ i → i < ps.length → comesB v (ps.getD i pz) = false) ∨ (∃ q : Nat, k = (q : Int) ∧ j ≤ q ∧ q < ps.length ∧ comesB v (ps.getD q pz) = true ∧ ∀ i, j ≤ i → i < q → comesB v (ps.getD i pz) = false)

theorem fromC_start (v : List Int) (ps : List Pst) : FromC v ps ps.length (-1) := .inl ⟨rfl, fun i h1 h2 => by omega⟩

theorem FromC.yes {v : List Int} {ps : List Pst} {j : Nat} (hj : j < ps.length) (hc : comesB v (ps.getD j pz) = true) : FromC v ps j (j : Int) := .inr ⟨j, rfl, Nat.le_refl _, hj, hc, fun i h1 h2 => by omega⟩

theorem FromC.no {v : List Int} {ps : List Pst} {j : Nat} {k : Int} (h : FromC v ps (j + 1) k) (hc : comesB v (ps.getD j pz) = false) : FromC v ps j k := by
  have step : ∀ {i : Nat}, j ≤ i → ¬ j + 1 ≤ i → comesB v (ps.getD i pz) = false := fun {i} h1 h2 => by
    rw [show i = j by omega]
    exact hc
  rcases h with ⟨h1, h2⟩ | ⟨q, h1, h2, h3, h4, h5⟩
  · exact .inl ⟨h1, fun i a b => if e : j + 1 ≤ i then h2 i e b else step a e⟩
  · exact .inr ⟨q, h1, by omega, h3, h4, fun i a b => if e : j + 1 ≤ i then h5 i e b else step a e⟩

theorem FromC.end_ {v : List Int} {ps : List Pst} {k : Int} (h : FromC v ps 0 k) : (k = -1 ∧ firstC v ps = ps.length) ∨ (k = (firstC v ps : Int) ∧ firstC v ps < ps.length) := by
  rcases h with ⟨h1, h2⟩ | ⟨q, h1, -, h3, h4, h5⟩
  · exact .inl ⟨h1, firstC_none fun i hi => h2 i (Nat.zero_le _) hi⟩
  · have := firstC_is h3 h4 fun i hi => h5 i (Nat.zero_le _) hi
    rw [this]
    exact .inr ⟨h1, h3⟩

end Go.Proofs.Ytolmlcbgdihcbaa
