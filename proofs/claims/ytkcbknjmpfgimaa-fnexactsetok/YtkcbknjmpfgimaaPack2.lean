import Derived.Maps.AppendAt
import Derived.Deep.AppendLies
import Derived.Test.YtkcbknjmpfgimaaPack1
import Derived.Deep.Slices
namespace Go.Proofs.Ytkcbknjmpfgimaa
open Go.ChangeShapes Go.WideShapes Go.ChangeAt Go.RowKit Go.Joins

structure Flat (α : Type) where
  ty : TypeId
  sl : TypeId
  k : Nat
  by8 : Nat
  vals : α → List Value
  z : α
  zv : Value
  len : ∀ x, (vals x).length = k
  one : ∀ x, ∀ u ∈ vals x, u.oneCell' = true
  pos : 0 < k
  und : Try.prog.underlying sl = some (.slice ty)
  info : (Try.prog.info? ty).map (fun i => (i.zero, i.size, i.bytes)) = some (some zv, k, by8)
  zc : zv.cells.size = k
  low : by8 ≤ 1024

section
variable {α : Type} (F : Flat α)

def Flat.At (w : World) (b o : Nat) (x : α) : Prop := ∀ c u, (F.vals x)[c]? = some u → w.cell? ⟨b, o + c, none⟩ = some u

def Flat.Is (w : World) (a : Option Addr) (xs : List α) : Prop :=
  xs = [] ∨ ∃ b o, a = some ⟨b, o, none⟩ ∧ b < w.heap.size ∧ ∀ i, i < xs.length → F.At w b (o + i * F.k) (xs.getD i F.z)

def Flat.Row (w : World) (base : Nat) (v : Value) (xs : List α) : Prop := w.ownsRow base F.ty F.k v xs.length (xs.flatMap F.vals)

def Flat.Own (w : World) (lo hi : Nat) (a : Option Addr) (xs : List α) : Prop :=
  xs = [] ∨ ∃ g, a = some ⟨g, 0, none⟩ ∧ lo ≤ g ∧ g < hi ∧ g < w.heap.size ∧ (∀ i, i < xs.length → F.At w g (i * F.k) (xs.getD i F.z)) ∧ ∀ o, w.frozen? ⟨g, o, none⟩ = false

variable {F}

theorem Flat.vals_len : ∀ xs : List α, (xs.flatMap F.vals).length = xs.length * F.k
  | [] => by simp
  | x :: r => by
    have h := Flat.vals_len r
    rw [List.flatMap_cons, List.length_append, F.len, h, List.length_cons, Nat.succ_mul]
    omega

theorem Flat.vals_at : ∀ (xs : List α) (i c : Nat), i < xs.length → c < F.k → (xs.flatMap F.vals)[i * F.k + c]? = (F.vals (xs.getD i F.z))[c]?
  | [], i, c, hi, _ => by simp at hi
  | x :: r, 0, c, _, hc => by
    rw [List.flatMap_cons, List.getElem?_append_left (by rw [F.len]; omega)]
    simp
  | x :: r, i + 1, c, hi, hc => by
    have e : (i + 1) * F.k + c = F.k + (i * F.k + c) := by rw [Nat.succ_mul]; omega
    rw [List.flatMap_cons, e, List.getElem?_append_right (by rw [F.len]; omega), F.len, Nat.add_sub_cancel_left, Flat.vals_at r i c (by simpa using hi) hc]
    simp

theorem Flat.vals_one (xs : List α) : ∀ u ∈ xs.flatMap F.vals, u.oneCell' = true := by
  intro u hu
  obtain ⟨x, _, hx⟩ := List.mem_flatMap.1 hu
  exact F.one x u hx

theorem Flat.At.block {w w' : World} {b o : Nat} {x : α} (h : F.At w b o x) (hb : w'.heap[b]? = w.heap[b]?) : F.At w' b o x := fun c u hu => (World.cell?_of_block (a := ⟨b, o + c, none⟩) hb).trans (h c u hu)

theorem Flat.Is.nil {w : World} {a : Option Addr} : F.Is w a [] := .inl rfl

theorem Flat.Is.below {w w' : World} {a : Option Addr} {xs : List α} (h : F.Is w a xs) (hb : Below w.heap.size w w') : F.Is w' a xs := by
  rcases h with h | ⟨b, o, ha, hlt, hh⟩
  · exact .inl h
  · exact .inr ⟨b, o, ha, Nat.lt_of_lt_of_le hlt hb.size, fun i hi => (hh i hi).block (hb.block b hlt)⟩

theorem Flat.Is.at {w w' : World} {a : Option Addr} {xs : List α} (h : F.Is w a xs) (hb : Below w.heap.size w w') {k : Nat} (hk : k < xs.length) : ∃ b o, a = some ⟨b, o, none⟩ ∧ b < w'.heap.size ∧ F.At w' b (o + k * F.k) (xs.getD k F.z) := by
  rcases h.below hb with h | ⟨b, o, ha, hlt, hh⟩
  · subst h
    simp at hk
  · exact ⟨b, o, ha, hlt, hh k hk⟩

theorem Flat.Is.news {w : World} {b o : Nat} {xs : List α} (h : F.Is w (some ⟨b, o, none⟩) xs) : ∀ j u, (xs.flatMap F.vals)[j]? = some u → w.cell? ((⟨b, o, none⟩ : Addr).add j) = some u := by
  intro j u hu
  have hj : j < xs.length * F.k := by
    have := (List.getElem?_eq_some_iff.1 hu).1
    rwa [Flat.vals_len] at this
  have hp := F.pos
  have hi : j / F.k < xs.length := Nat.div_lt_of_lt_mul (by rw [Nat.mul_comm]; exact hj)
  have hc : j % F.k < F.k := Nat.mod_lt _ hp
  have hd : j / F.k * F.k + j % F.k = j := by rw [Nat.mul_comm]; exact Nat.div_add_mod _ _
  have hadd : (⟨b, o, none⟩ : Addr).add j = ⟨b, o + j, none⟩ := by
    unfold Addr.add
    split
    · rename_i h0
      rw [h0]
      rfl
    · rfl
  rcases h with h | ⟨b', o', he, hlt, hh⟩
  · subst h
    simp at hj
  · injection he with he
    injection he with e1 e2
    subst e1 e2
    have h1 := Flat.vals_at xs (j / F.k) (j % F.k) hi hc
    rw [hd, hu] at h1
    have h2 := hh _ hi _ _ h1.symm
    rw [Nat.add_assoc, hd] at h2
    rw [hadd]
    exact h2

theorem Flat.Is.take {w : World} {a : Option Addr} {xs : List α} (h : F.Is w a xs) (n : Nat) : F.Is w a (xs.take n) := by
  rcases h with h | ⟨b, o, ha, hlt, hh⟩
  · exact .inl (by rw [h]; simp)
  · refine .inr ⟨b, o, ha, hlt, fun i hi => ?_⟩
    have h1 : i < n ∧ i < xs.length := by
      rw [List.length_take] at hi
      omega
    have e : (xs.take n).getD i F.z = xs.getD i F.z := by simp [List.getD, h1.1]
    rw [e]
    exact hh i h1.2

theorem Flat.Own.is {w : World} {lo hi : Nat} {a : Option Addr} {xs : List α} (h : F.Own w lo hi a xs) : F.Is w a xs := by
  rcases h with h | ⟨g, ha, _, _, hlt, hh, _⟩
  · exact .inl h
  · exact .inr ⟨g, 0, ha, hlt, fun i hi => by rw [Nat.zero_add]; exact hh i hi⟩

theorem Flat.Own.below {w w' : World} {lo hi : Nat} {a : Option Addr} {xs : List α} (h : F.Own w lo hi a xs) (hb : Below w.heap.size w w') : F.Own w' lo hi a xs := by
  rcases h with h | ⟨g, ha, h1, h2, hlt, hh, hf⟩
  · exact .inl h
  · exact .inr ⟨g, ha, h1, h2, Nat.lt_of_lt_of_le hlt hb.size, fun i hi => (hh i hi).block (hb.block g hlt), fun o => (World.frozen?_of_block (a := ⟨g, o, none⟩) (hb.block g hlt)).trans (hf o)⟩

theorem Flat.Own.wider {w : World} {lo hi lo' hi' : Nat} {a : Option Addr} {xs : List α} (h : F.Own w lo hi a xs) (hl : lo' ≤ lo) (hh : hi ≤ hi') : F.Own w lo' hi' a xs := by
  rcases h with h | ⟨g, ha, h1, h2, h3⟩
  · exact .inl h
  · exact .inr ⟨g, ha, by omega, by omega, h3⟩

theorem Flat.Own.only {w w' : World} {S : Nat → Prop} {lo hi : Nat} {a : Option Addr} {xs : List α} (h : F.Own w lo hi a xs) (ho : Only S w w') (hS : ∀ x, S x → x < lo ∨ hi ≤ x) : F.Own w' lo hi a xs := by
  rcases h with h | ⟨g, ha, h1, h2, hlt, hh, hf⟩
  · exact .inl h
  · have hb := ho.block g fun e => by have := hS g e; omega
    exact .inr ⟨g, ha, h1, h2, by rw [ho.size]; exact hlt, fun i hi => (hh i hi).block hb, fun o => (ho.frozen _).trans (hf o)⟩

theorem Flat.Row.below {w w' : World} {base : Nat} {v : Value} {xs : List α} (h : F.Row w base v xs) (hb : Below w.heap.size w w') : F.Row w' base v xs :=
  World.ownsRow.kept (row := none) h ⟨hb.os, hb.tape, hb.output, hb.size, fun k hk _ => hb.block k hk⟩ (by
    by_cases e : v.ownBlock = none
    · exact .inl e
    · exact .inr e)

theorem Flat.Row.mono {w : World} {base base' : Nat} {v : Value} {xs : List α} (h : F.Row w base v xs) (hb : base' ≤ base) : F.Row w base' v xs := by
  refine ⟨h.1, ?_⟩
  rcases h.2 with h1 | ⟨g, cap, cur, h1, h2, h3⟩
  · exact .inl h1
  · exact .inr ⟨g, cap, cur, h1, Nat.le_trans hb h2, h3⟩

theorem Flat.Row.form {w : World} {base : Nat} {v : Value} {xs : List α} (h : F.Row w base v xs) : ∃ a cap, v = .slice a xs.length cap ∧ F.Own w base w.heap.size a xs := by
  rcases h.2 with ⟨h1, h2⟩ | ⟨g, cap, cur, h1, h2, h3, _⟩
  · exact ⟨none, 0, by rw [h1, h2], .inl (List.length_eq_zero_iff.1 h2)⟩
  · have hlt : g < w.heap.size := (Array.getElem?_eq_some_iff.1 h3).1
    subst h1
    refine ⟨_, cap, rfl, .inr ⟨g, rfl, h2, hlt, hlt, fun i hi c u hu => ?_, fun o => World.ownsRow.frozenAt h o⟩⟩
    have hc : c < F.k := by
      have := (List.getElem?_eq_some_iff.1 hu).1
      rwa [F.len] at this
    have hj : i * F.k + c < xs.length * F.k := by
      have := Nat.mul_le_mul_right F.k (show i + 1 ≤ xs.length by omega)
      rw [Nat.succ_mul] at this
      omega
    rw [World.ownsRow.cellAt h _ hj, Flat.vals_at xs i c hi hc, hu]

theorem Flat.row_nil (w : World) (base : Nat) : F.Row w base (.slice none 0 0) [] := World.ownsRow_nil w base _ _

structure Flat.Grew (F : Flat α) (base : Nat) (v v' : Value) (w w' : World) (xs ys : List α) : Prop where
  row : F.Row w' base v' (xs ++ ys)
  grown : w.grownBy w' v.ownBlock
  place : v'.ownBlock = v.ownBlock ∨ v'.ownBlock = some w.heap.size

theorem Flat.run_app {w : World} {base : Nat} {v : Value} {xs : List α} (ty : TypeId) (row : F.Row w base v xs) (sa : Option Addr) (m c : Nat) (ys : List α) (hm : ys.length = m) (src : F.Is w sa ys) (hb : xs.length + m ≤ 8388608) (hbase : base ≤ w.heap.size) :
    ∃ v' w', (Builtin.append_ #[F.sl, F.sl] ty #[v, .slice sa m c]).run Try.prog w = .ok v' w' ∧ F.Grew base v v' w w' xs ys := by
  obtain ⟨i0, hi0, hx0⟩ := Option.map_eq_some_iff.1 F.info
  simp only [Prod.mk.injEq] at hx0
  subst hm
  have go : ∀ ad : Addr, (∀ j u, (ys.flatMap F.vals)[j]? = some u → w.cell? (ad.add j) = some u) → ∃ v' w', (Builtin.append_ #[F.sl, F.sl] ty #[v, .slice (some ad) ys.length c]).run Try.prog w = .ok v' w' ∧ F.Grew base v v' w w' xs ys := fun ad hn => by
    obtain ⟨v', w', hr, h2, h3, _, h5⟩ := run_append_own_at (P := Try.prog) w base F.sl ty F.ty i0 F.zv F.k F.by8 F.und hi0 hx0.1 hx0.2.1 hx0.2.2 F.zc F.pos v xs.length (xs.flatMap F.vals) row ad ys.length c (ys.flatMap F.vals) (Flat.vals_len ys) hn (Flat.vals_one ys) (by unfold maxLen; omega) (Nat.le_trans (Nat.mul_le_mul hb F.low) (by omega)) hbase
    refine ⟨v', w', hr, ⟨?_, h3, h5⟩⟩
    unfold Flat.Row
    rw [List.length_append, List.flatMap_append]
    exact h2
  by_cases h0 : ys.length = 0
  · have e : ys = [] := List.length_eq_zero_iff.1 h0
    subst e
    cases sa with
    | some ad => exact go ad fun j u hu => by simp at hu
    | none =>
      obtain ⟨v', w', hr, h⟩ := go ⟨0, 0, none⟩ fun j u hu => by simp at hu
      refine ⟨v, w, ?_, ⟨by simpa using row, ⟨rfl, rfl, rfl, Nat.le_refl _, fun _ _ _ => rfl⟩, .inl rfl⟩⟩
      obtain ⟨a, cap, rfl, hown⟩ := row.form
      have hle : xs.length ≤ cap := by
        rcases row.2 with ⟨q1, q2⟩ | ⟨g, cap', cur, q1, _, _, q4, _⟩
        · omega
        · injection q1 with _ _ q1
          omega
      cases a <;> simp [Builtin.append_, run_underlying F.und, sizeOf, typeInfo, hi0, Builtin.lenOf, Builtin.firstCells, hle, storeCells, loadCells]
  · rcases src with h | ⟨b, o, rfl, hlt, hh⟩
    · rw [h] at h0
      simp at h0
    · exact go _ (Flat.Is.news (.inr ⟨b, o, rfl, hlt, hh⟩))

theorem Flat.wp_app {w : World} {ops : Array Oper} {rest : List Oper} {o : Oper} {a : Act} {Q : Exit → Act → World → Prop} (hgd : o.guard = none) (s x : Operand)
    (ho : o.op = .call { callee := .builtin .append, args := #[s, x], argTypes := #[F.sl, F.sl] }) (base : Nat) (v : Value) (xs : List α) (hs : a.eval s = v) (row : F.Row w base v xs)
    (sa : Option Addr) (m c : Nat) (ys : List α) (hm : ys.length = m) (hx : a.eval x = .slice sa m c) (src : F.Is w sa ys) (hb : xs.length + m ≤ 8388608) (hbase : base ≤ w.heap.size)
    (h : ∀ v' w', F.Grew base v v' w w' xs ys → wpList Try.prog ops Q rest (a.put o.dst v') w') : wpList Try.prog ops Q (o :: rest) a w := by
  refine wpList_plain hgd fun K hK => ?_
  obtain ⟨v', w', hr, hg⟩ := Flat.run_app o.type row sa m c ys hm src hb hbase
  unfold Oper.wp execOp
  simp only [ho, resolve, invoke, builtin, Sem.run_bind, Sem.run_pure, Result.andThen_ok, List.map_toArray, List.map_cons, List.map_nil, hs, hx, hr]
  exact hK _ _ (h v' w' hg)

theorem Flat.Grew.below {base B : Nat} {v v' : Value} {w w' : World} {xs ys : List α} (h : F.Grew base v v' w w' xs ys) (hv : ∀ g, v.ownBlock = some g → B ≤ g) (hB : B ≤ w.heap.size) : Below B w w' :=
  ⟨h.grown.os, h.grown.tape, h.grown.output, h.grown.size, fun k hk => h.grown.block k (by omega) (fun e => by have := hv k e.symm; omega)⟩

theorem Flat.Row.block {w : World} {base g : Nat} {v : Value} {xs : List α} (h : F.Row w base v xs) (hv : v.ownBlock = some g) : base ≤ g ∧ g < w.heap.size := by
  rcases h.2 with ⟨h1, _⟩ | ⟨g', cap, cur, h1, h2, h3, _⟩
  · rw [h1] at hv
    simp [Value.ownBlock] at hv
  · rw [h1] at hv
    simp only [Value.ownBlock, Option.some.injEq] at hv
    subst hv
    exact ⟨h2, (Array.getElem?_eq_some_iff.1 h3).1⟩

theorem Flat.Own.far {w : World} {lo hi : Nat} {a : Option Addr} {xs : List α} {p : Addr} (h : F.Own w lo hi a xs) (hp : p.block < lo ∨ hi ≤ p.block) (v : Value) : F.Own (w.setCell p v) lo hi a xs := by
  rcases h with h | ⟨g, ha, h1, h2, hlt, hh, hf⟩
  · exact .inl h
  · refine .inr ⟨g, ha, h1, h2, by simpa using hlt, fun i hi c u hu => (World.cell?_setCell_other _ _ _ _ (fun e => ?_)).trans (hh i hi c u hu), fun o => by rw [World.frozen?_setCell]; exact hf o⟩
    have : p.block = g := by rw [e]
    omega

theorem Flat.vals_head (x : α) : ∃ u r, F.vals x = u :: r := by
  have h := F.len x
  have hp := F.pos
  cases hv : F.vals x with
  | nil =>
    rw [hv] at h
    simp at h
    omega
  | cons u r => exact ⟨u, r, rfl⟩

theorem Flat.Own.off {w : World} {lo hi b : Nat} {a : Option Addr} {xs : List α} (h : F.Own w lo hi a xs) {s t : Value} {ty : TypeId} (hs : ∀ x : α, (F.vals x)[0]? ≠ some s) (hb : w.heap[b]? = some (.cells #[s, t] ty (0, 0))) (i : Nat) (v : Value) : F.Own (w.setCell ⟨b, i, none⟩ v) lo hi a xs := by
  rcases h with h | ⟨g, ha, h1, h2, hlt, hh, hf⟩
  · exact .inl h
  · by_cases hz : xs = []
    · exact .inl hz
    · refine .inr ⟨g, ha, h1, h2, by simpa using hlt, fun j hj c u hu => (World.cell?_setCell_other _ _ _ _ (fun e => ?_)).trans (hh j hj c u hu), fun o => by rw [World.frozen?_setCell]; exact hf o⟩
      have e1 : b = g := by injection e
      subst e1
      obtain ⟨u0, r0, hu0⟩ := F.vals_head (xs.getD 0 F.z)
      have h0 := hh 0 (List.length_pos_iff.2 hz) 0 u0 (by rw [hu0]; rfl)
      rw [Nat.zero_mul, cell_of_row w b _ _ _ (0, 0) hb] at h0
      simp at h0
      exact hs (xs.getD 0 F.z) (by rw [hu0, h0]; rfl)

theorem Flat.Own.range {w : World} {lo hi : Nat} {a : Option Addr} {xs : List α} (h : F.Own w lo hi a xs) : xs.length = 0 ∨ ∃ c, a = some ⟨c, 0, none⟩ ∧ lo ≤ c ∧ c < hi := by
  rcases h with h | ⟨b, ha, h1, h2, -⟩
  · exact .inl (by rw [h]; rfl)
  · exact .inr ⟨b, ha, h1, h2⟩

theorem Flat.Own.marked {S : Nat → Prop} {w w' : World} {o : Obj} {lo hi : Nat} {a : Option Addr} {xs : List α} (ho : Only S (w.alloc o) w') (h : F.Own w lo hi a xs) (hS : ∀ x, S x → x < lo ∨ hi ≤ x) : F.Own w' lo hi a xs :=
  (h.below ((Below.refl _ _).alloc (Nat.le_refl _) o)).only ho hS

variable (F)

def Flat.Marked (w : World) (a : Option Addr) (n : Nat) (k : Int) : Prop := n = 0 ∨ ∃ g, a = some ⟨g, 0, none⟩ ∧ g < w.heap.size ∧ CellsAre w g (n * F.k) (markFn k)

variable {F}

theorem Flat.Marked.below {w w' : World} {a : Option Addr} {n : Nat} {k : Int} (h : F.Marked w a n k) (hb : Below w.heap.size w w') : F.Marked w' a n k := by
  rcases h with h | ⟨g, h1, h2, h3⟩
  · exact .inl h
  · exact .inr ⟨g, h1, Nat.lt_of_lt_of_le h2 hb.size, h3.of_block (hb.block g h2)⟩

theorem Flat.Marked.only {S : Nat → Prop} {w w' : World} {a : Option Addr} {n : Nat} {k : Int} {lo hi : Nat} (h : F.Marked w a n k) (hr : n = 0 ∨ ∃ c, a = some ⟨c, 0, none⟩ ∧ lo ≤ c ∧ c < hi) (ho : Only S w w') (hS : ∀ x, S x → x < lo ∨ hi ≤ x) : F.Marked w' a n k := by
  rcases h with h | ⟨b, hb, hlt, hc⟩
  · exact .inl h
  · rcases hr with hr | ⟨c, he, h1, h2⟩
    · exact .inl hr
    · rw [hb] at he
      injection he with he
      injection he with he
      subst he
      exact .inr ⟨b, hb, by rw [ho.size]; exact hlt, hc.of_block (ho.block b fun e => by have := hS b e; omega)⟩

theorem Flat.Marked.lt {w : World} {a : Option Addr} {n : Nat} {k : Int} (h : F.Marked w a n k) : ∀ c, a = some ⟨c, 0, none⟩ → n ≠ 0 → c < w.heap.size := by
  intro c hc hn
  rcases h with h | ⟨b, hb, hlt, -⟩
  · exact absurd h hn
  · rw [hc] at hb
    injection hb with hb
    injection hb with hb
    rw [hb]
    exact hlt

theorem Flat.Marked.far {w : World} {c B : Nat} {a : Option Addr} {n : Nat} {k : Int} {p : Addr} (h : F.Marked w a n k) (hl : ∀ c, a = some ⟨c, 0, none⟩ → n ≠ 0 → c < B) (hc : B ≤ c) (hp : p.block = c) (v : Value) : F.Marked (w.setCell p v) a n k := by
  rcases h with h | ⟨b, hb, hlt, hcs⟩
  · exact .inl h
  · by_cases hn : n = 0
    · exact .inl hn
    · have := hl b hb hn
      exact .inr ⟨b, hb, by simpa using hlt, hcs.of_block (Below.heap_setCell _ _ _ _ (by show b ≠ p.block; omega))⟩

end

/-! ### Boxes of two cells; what stays while a list is marked -/

def FlR (w w' : World) : Prop := Below w.heap.size w w'

theorem flR_refl (w : World) : FlR w w := Below.refl _ _

theorem fl_cells {w w' : World} {b : Nat} {v : Value} {o : Nat} (hb : Below w.heap.size w w') (hlt : b < w.heap.size) (h : w.cell? ⟨b, o, none⟩ = some v) : w'.cell? ⟨b, o, none⟩ = some v := (hb.cell (p := ⟨b, o, none⟩) hlt).trans h

end Go.Proofs.Ytkcbknjmpfgimaa

namespace Go.Proofs.Ytkcbknjmpfgimaa
open Go.ChangeShapes Go.WideShapes Go.ChangeAt Go.RowKit Go.Joins Go.Deep
set_option maxRecDepth 100000
attribute [local go_sem ↓] Go.wp_at_zero Go.wp_at_succ

structure Tm where
  c : Int
  s : Int
  q : Int

abbrev tmV (x : Tm) : Value := .agg #[.int .i64 x.c, .int .i64 x.s, .int .i64 x.q]

def tmZ : Tm := ⟨0, 0, 0⟩

def tmF : Flat Tm where
  ty := 46
  sl := 29
  k := 3
  by8 := 24
  vals := fun x => [.int .i64 x.c, .int .i64 x.s, .int .i64 x.q]
  z := tmZ
  zv := .agg #[.int .i64 0, .int .i64 0, .int .i64 0]
  len := fun _ => rfl
  one := fun x u hu => by
    simp only [List.mem_cons, List.not_mem_nil, or_false] at hu
    rcases hu with rfl | rfl | rfl <;> rfl
  pos := by omega
  und := Try.underlying29
  info := by kernel_rfl
  zc := by kernel_rfl
  low := by omega

theorem tm_at {w : World} {b o : Nat} {x : Tm} (h : tmF.At w b o x) : w.cell? ⟨b, o, none⟩ = some (.int .i64 x.c) ∧ w.cell? ⟨b, o + 1, none⟩ = some (.int .i64 x.s) ∧ w.cell? ⟨b, o + 2, none⟩ = some (.int .i64 x.q) :=
  ⟨h 0 _ rfl, h 1 _ rfl, h 2 _ rfl⟩

theorem tm_mk {w : World} {b o : Nat} {x : Tm} (h : w.cell? ⟨b, o, none⟩ = some (.int .i64 x.c) ∧ w.cell? ⟨b, o + 1, none⟩ = some (.int .i64 x.s) ∧ w.cell? ⟨b, o + 2, none⟩ = some (.int .i64 x.q)) : tmF.At w b o x := by
  obtain ⟨h0, h1, h2⟩ := h
  intro c u hu
  match c, hu with
  | 0, hu => (cases hu; exact h0)
  | 1, hu => (cases hu; exact h1)
  | 2, hu => (cases hu; exact h2)

def tmC (x : Tm) (c : Nat) : Int := if c = 0 then x.c else if c = 1 then x.s else x.q

def tmFill (xs : List Tm) (k j : Nat) : Value := .int .i64 (if j < k * 3 then tmC (xs.getD (j / 3) tmZ) (j % 3) else 0)

theorem tmFill_step (xs : List Tm) (k j : Nat) : (if j = k * 3 + 2 then Value.int .i64 (xs.getD k tmZ).q else if j = k * 3 + 1 then Value.int .i64 (xs.getD k tmZ).s else if j = k * 3 then Value.int .i64 (xs.getD k tmZ).c else tmFill xs k j) = tmFill xs (k + 1) j := by
  unfold tmFill
  have hr : ∀ r, r < 3 → j = k * 3 + r → (Value.int .i64 (if j < (k + 1) * 3 then tmC (xs.getD (j / 3) tmZ) (j % 3) else 0)) = Value.int .i64 (tmC (xs.getD k tmZ) r) := fun r h1 h2 => by
    rw [if_pos (by omega), show j / 3 = k by omega, show j % 3 = r by omega]
  by_cases h2 : j = k * 3 + 2
  · rw [if_pos h2, hr 2 (by omega) h2]
    rfl
  rw [if_neg h2]
  by_cases h1 : j = k * 3 + 1
  · rw [if_pos h1, hr 1 (by omega) h1]
    rfl
  rw [if_neg h1]
  by_cases h0 : j = k * 3
  · rw [if_pos h0, hr 0 (by omega) h0]
    rfl
  rw [if_neg h0]
  by_cases hl : j < k * 3
  · rw [if_pos hl, if_pos (by omega)]
  · rw [if_neg hl, if_neg (by omega)]

theorem tm_filled {w : World} {g t N : Nat} {xs : List Tm} (h : w.rowIs g t N (tmFill xs xs.length)) (hN : N = xs.length * 3) : ∀ i, i < xs.length → tmF.At w g (i * 3) (xs.getD i tmZ) := fun i hi => by
  have c : ∀ r, r < 3 → w.cell? ⟨g, i * 3 + r, none⟩ = some (.int .i64 (tmC (xs.getD i tmZ) r)) := fun r hr => by
    rw [h.cell (i := i * 3 + r) (by omega)]
    unfold tmFill
    rw [if_pos (by omega), show (i * 3 + r) / 3 = i by omega, show (i * 3 + r) % 3 = r by omega]
  exact tm_mk ⟨c 0 (by omega), c 1 (by omega), c 2 (by omega)⟩

theorem run_make_tm (n : Nat) (hn : n ≤ 4194304) (w : World) :
    (Instr.makeSlice 29 (.int .i64 (n : Int)) (.int .i64 (n : Int))).run Try.prog w = .ok (.slice (some ⟨w.heap.size, 0, none⟩) n n) (w.alloc (.cells (madeCells (tmV tmZ).cells (n * 3)) 46)) := by
  obtain ⟨i, hi, hzz⟩ := Option.map_eq_some_iff.1 tmF.info
  simp only [Prod.mk.injEq] at hzz
  obtain ⟨hz, hs, hb⟩ := hzz
  have hr := run_make (P := Try.prog) w 29 46 i _ Try.underlying29 hi hz .i64 .i64 n n (by omega) (Int.le_refl _) (by rw [hb, show tmF.by8 = 24 from rfl]; omega) (by omega)
  simp only [Int.toNat_natCast, hs] at hr
  exact hr

theorem row_tm (w : World) (t n : Nat) (xs : List Tm) : (w.alloc (.cells (madeCells (tmV tmZ).cells (n * 3)) t)).rowIs w.heap.size t (n * 3) (tmFill xs 0) := by
  refine ⟨_, Go.Deep.blk_alloc_new _ _, size_madeCells _ _, fun i hi => ?_⟩
  have e : (tmV tmZ).cells = #[.int .i64 0, .int .i64 0, .int .i64 0] := by kernel_rfl
  have h6 : i % 3 = 0 ∨ i % 3 = 1 ∨ i % 3 = 2 := by omega
  rw [e]
  rcases h6 with h6 | h6 | h6 <;> simp [madeCells, hi, h6, tmFill]

theorem szTagS_small (a : Option Addr) (n cap : Nat) (left : Int) (w : World) (h0 : 0 ≤ left) (h1 : left ≤ 1048576) (h : (n : Int) ≤ left) :
    Calls Try.prog 31 #[.slice a n cap, .int .i64 left] w fun e w' => e = .returned (.int .i64 (left - n)) ∧ w' = w := by
  go_enter Try.func31, Try.ntmps31
  go_wp2
  go_ret
  exact ⟨rfl, rfl⟩

theorem szTagS_big (a : Option Addr) (n cap : Nat) (left : Int) (w : World) (h0 : 0 ≤ left) (h1 : left ≤ 1048576) (h : left < (n : Int)) (hm : n ≤ maxLen) :
    Calls Try.prog 31 #[.slice a n cap, .int .i64 left] w fun e w' => e = .returned (.int .i64 (-1)) ∧ w' = w := by
  unfold maxLen at hm
  go_enter Try.func31, Try.ntmps31
  go_wp2
  go_ret
  exact ⟨rfl, rfl⟩

theorem toTag_any' (x : Tm) (w : World) :
    Calls Try.prog 23 #[tmV x] w fun e w' => e = .returned (tmV x) ∧ Below w.heap.size w w' := toTag_any x.c x.s x.q w

set_option maxHeartbeats 4000000 in
theorem toTagS_any (a : Option Addr) (n cap : Nat) (xs : List Tm) (w : World) (hn : xs.length = n) (hm : n ≤ 4194304) (h : tmF.Is w a xs) :
    Calls Try.prog 36 #[.slice a n cap] w fun e w' => e = .returned (.slice (some ⟨w.heap.size, 0, none⟩) n n) ∧ w.heap.size < w'.heap.size ∧ tmF.Own w' w.heap.size w'.heap.size (some ⟨w.heap.size, 0, none⟩) xs ∧ Below w.heap.size w w' := by
  have H := Lib.hid h
  have HN := Lib.hid hn
  clear h hn
  have hmk := run_make_tm n hm
  go_enter Try.func36, Try.ntmps36
  go_wp2
  clear hmk
  go_loopw [4] (fun i wr => ∃ k : Nat, k ≤ n ∧ i = .int .i64 k ∧ Hid (wr.rowIs w.heap.size 46 (n * 3) (tmFill xs k)) ∧ Hid (Below w.heap.size w wr)) (fun i _ => n - (intOf i).toNat)
  case atStart => exact ⟨0, Nat.zero_le _, rfl, row_tm _ _ _ _, (Below.refl _ _).alloc (Nat.le_refl _) _⟩
  case round =>
    obtain ⟨k, hk, rfl, HR, HB⟩ := hrel
    by_cases hk' : k < n
    · have i1 : (0 : Int) ≤ (k : Int) := by omega
      have i2 : (k : Int) < (n : Int) := by omega
      obtain ⟨b, o, rfl, hz, hat⟩ := H.out.at HB.out (k := k) (by rw [HN.out]; exact hk')
      obtain ⟨c0, c1, c2⟩ := tm_at hat
      simp only [show tmF.k = 3 from rfl] at c0 c1 c2
      have HST := Lib.hid (tmFill_step xs k)
      clear hat
      simp only [show tmF.z = tmZ from rfl] at c0 c1 c2
      generalize xs.getD k tmZ = x at *
      go_wp2_with fail
      refine (toTag_any' ⟨x.c, x.s, x.q⟩ _).mono ?_
      rintro e w2 ⟨rfl, hb⟩
      have HR2 := Lib.hid (HR.out.of_block (hb.block _ HR.out.lt))
      have HB2 := Lib.hid (below_step HB.out HB.out.size hb)
      have d0 := HR2.out.cell (i := k * 3) (by omega)
      have d1 := HR2.out.cell (i := k * 3 + 1) (by omega)
      have d2 := HR2.out.cell (i := k * 3 + 2) (by omega)
      have fz := HR2.out.frozen
      have HP := Lib.hid ((((HR2.out.set (k * 3) (.int .i64 x.c)).set (k * 3 + 1) (.int .i64 x.s)).set (k * 3 + 2) (.int .i64 x.q)).congr fun j _ => HST.out j)
      have HB3 := Lib.hid ((((HB2.out.setCell (p := ⟨w.heap.size, k * 3, none⟩) (Nat.le_refl _) (.int .i64 x.c)).setCell (p := ⟨w.heap.size, k * 3 + 1, none⟩) (Nat.le_refl _) (.int .i64 x.s)).setCell (p := ⟨w.heap.size, k * 3 + 2, none⟩) (Nat.le_refl _) (.int .i64 x.q)))
      clear hb HR HR2 HB HST c0 c1 c2
      go_wp2
      exact ⟨⟨k + 1, by omega, by go_num, HP, HB3⟩, by simp [intOf]; omega⟩
    · obtain rfl : k = n := by omega
      go_wp2
      go_ret
      have hr := HR.out
      have e := HN.out
      refine ⟨rfl, HR.out.lt, .inr ⟨w.heap.size, rfl, Nat.le_refl _, HR.out.lt, HR.out.lt, tm_filled (by rw [e]; exact hr) (by rw [e]), HR.out.frozen⟩, HB.out⟩

set_option maxHeartbeats 4000000 in
theorem eqTagS_same (a a' : Option Addr) (n cap cap' : Nat) (xs : List Tm) (w : World) (hn : xs.length = n) (hm : n ≤ 4194304) (h : tmF.Is w a xs) (h' : tmF.Is w a' xs) :
    Calls Try.prog 40 #[.slice a n cap, .slice a' n cap'] w fun e w' => e = .returned (.bool true) ∧ Below w.heap.size w w' := by
  have HH := Lib.hid h
  have HH' := Lib.hid h'
  have HN := Lib.hid hn
  clear h h' hn
  go_enter Try.func40, Try.ntmps40
  go_wp2
  go_loopw [5] (fun i wr => ∃ k : Nat, k ≤ n ∧ i = .int .i64 k ∧ Hid (Below w.heap.size w wr)) (fun i _ => n - (intOf i).toNat)
  case atStart => exact ⟨0, Nat.zero_le _, rfl, Below.refl _ _⟩
  case round =>
    obtain ⟨k, hk, rfl, HB⟩ := hrel
    by_cases hk' : k < n
    · have hkk : k < xs.length := by rw [HN.out]; exact hk'
      obtain ⟨b, o, rfl, hz, hat⟩ := HH.out.at HB.out hkk
      obtain ⟨b', o', rfl, hz', hat'⟩ := HH'.out.at HB.out hkk
      obtain ⟨e0, e1, e2⟩ := tm_at hat
      obtain ⟨f0, f1, f2⟩ := tm_at hat'
      clear HH HH' hat hat' HN hkk
      simp only [show tmF.k = 3 from rfl, show tmF.z = tmZ from rfl] at e0 e1 e2 f0 f1 f2
      have i1 : (0 : Int) ≤ (k : Int) := by omega
      have i2 : (k : Int) < (n : Int) := by omega
      generalize (xs.getD k tmZ).c = yc at *
      generalize (xs.getD k tmZ).s = ys at *
      generalize (xs.getD k tmZ).q = yq at *
      go_wp2_with fail
      have ge0 := aft_cell hz e0
      have gf0 := aft_cell hz' f0
      have ge1 := aft_cell hz e1
      have gf1 := aft_cell hz' f1
      have ge2 := aft_cell hz e2
      have gf2 := aft_cell hz' f2
      have ne := aft_some wr
      refine wp_region_aft (by kernel_rfl) (by kernel_rfl) ?_
      repeat (first | go_big_quiet_step (first | (go_at_call 66; exact aft_of (eqTag_same _ _ _ _))))
      refine wpQuiet_nil ?_
      intro wq hq
      go_wp2
      exact ⟨⟨k + 1, by omega, by go_num, below_step HB.out HB.out.size hq⟩, by simp [intOf]; omega⟩
    · obtain rfl : k = n := by omega
      go_wp2
      go_ret
      exact ⟨rfl, HB.out⟩

structure Mk where
  e : Int
  c : Int
  s : Int
  q : Int

abbrev mkV (x : Mk) : Value := .agg #[.int .i64 x.e, .int .i64 x.c, .int .i64 x.s, .int .i64 x.q]

def mkZ : Mk := ⟨0, 0, 0, 0⟩

def mkF : Flat Mk where
  ty := 56
  sl := 28
  k := 4
  by8 := 32
  vals := fun x => [.int .i64 x.e, .int .i64 x.c, .int .i64 x.s, .int .i64 x.q]
  z := mkZ
  zv := .agg #[.int .i64 0, .int .i64 0, .int .i64 0, .int .i64 0]
  len := fun _ => rfl
  one := fun x u hu => by
    simp only [List.mem_cons, List.not_mem_nil, or_false] at hu
    rcases hu with rfl | rfl | rfl | rfl <;> rfl
  pos := by omega
  und := Try.underlying28
  info := by kernel_rfl
  zc := by kernel_rfl
  low := by omega

theorem mk_at {w : World} {b o : Nat} {x : Mk} (h : mkF.At w b o x) : w.cell? ⟨b, o, none⟩ = some (.int .i64 x.e) ∧ w.cell? ⟨b, o + 1, none⟩ = some (.int .i64 x.c) ∧ w.cell? ⟨b, o + 2, none⟩ = some (.int .i64 x.s) ∧ w.cell? ⟨b, o + 3, none⟩ = some (.int .i64 x.q) :=
  ⟨h 0 _ rfl, h 1 _ rfl, h 2 _ rfl, h 3 _ rfl⟩

theorem mk_mk {w : World} {b o : Nat} {x : Mk} (h : w.cell? ⟨b, o, none⟩ = some (.int .i64 x.e) ∧ w.cell? ⟨b, o + 1, none⟩ = some (.int .i64 x.c) ∧ w.cell? ⟨b, o + 2, none⟩ = some (.int .i64 x.s) ∧ w.cell? ⟨b, o + 3, none⟩ = some (.int .i64 x.q)) : mkF.At w b o x := by
  obtain ⟨h0, h1, h2, h3⟩ := h
  intro c u hu
  match c, hu with
  | 0, hu => (cases hu; exact h0)
  | 1, hu => (cases hu; exact h1)
  | 2, hu => (cases hu; exact h2)
  | 3, hu => (cases hu; exact h3)

def mkC (x : Mk) (c : Nat) : Int := if c = 0 then x.e else if c = 1 then x.c else if c = 2 then x.s else x.q

def mkFill (xs : List Mk) (k j : Nat) : Value := .int .i64 (if j < k * 4 then mkC (xs.getD (j / 4) mkZ) (j % 4) else 0)

theorem mkFill_step (xs : List Mk) (k j : Nat) : (if j = k * 4 + 3 then Value.int .i64 (xs.getD k mkZ).q else if j = k * 4 + 2 then Value.int .i64 (xs.getD k mkZ).s else if j = k * 4 + 1 then Value.int .i64 (xs.getD k mkZ).c else if j = k * 4 then Value.int .i64 (xs.getD k mkZ).e else mkFill xs k j) = mkFill xs (k + 1) j := by
  unfold mkFill
  have hr : ∀ r, r < 4 → j = k * 4 + r → (Value.int .i64 (if j < (k + 1) * 4 then mkC (xs.getD (j / 4) mkZ) (j % 4) else 0)) = Value.int .i64 (mkC (xs.getD k mkZ) r) := fun r h1 h2 => by
    rw [if_pos (by omega), show j / 4 = k by omega, show j % 4 = r by omega]
  by_cases h3 : j = k * 4 + 3
  · rw [if_pos h3, hr 3 (by omega) h3]
    rfl
  rw [if_neg h3]
  by_cases h2 : j = k * 4 + 2
  · rw [if_pos h2, hr 2 (by omega) h2]
    rfl
  rw [if_neg h2]
  by_cases h1 : j = k * 4 + 1
  · rw [if_pos h1, hr 1 (by omega) h1]
    rfl
  rw [if_neg h1]
  by_cases h0 : j = k * 4
  · rw [if_pos h0, hr 0 (by omega) h0]
    rfl
  rw [if_neg h0]
  by_cases hl : j < k * 4
  · rw [if_pos hl, if_pos (by omega)]
  · rw [if_neg hl, if_neg (by omega)]

theorem mk_filled {w : World} {g t N : Nat} {xs : List Mk} (h : w.rowIs g t N (mkFill xs xs.length)) (hN : N = xs.length * 4) : ∀ i, i < xs.length → mkF.At w g (i * 4) (xs.getD i mkZ) := fun i hi => by
  have c : ∀ r, r < 4 → w.cell? ⟨g, i * 4 + r, none⟩ = some (.int .i64 (mkC (xs.getD i mkZ) r)) := fun r hr => by
    rw [h.cell (i := i * 4 + r) (by omega)]
    unfold mkFill
    rw [if_pos (by omega), show (i * 4 + r) / 4 = i by omega, show (i * 4 + r) % 4 = r by omega]
  exact mk_mk ⟨c 0 (by omega), c 1 (by omega), c 2 (by omega), c 3 (by omega)⟩

theorem run_make_mk (n : Nat) (hn : n ≤ 4194304) (w : World) :
    (Instr.makeSlice 28 (.int .i64 (n : Int)) (.int .i64 (n : Int))).run Try.prog w = .ok (.slice (some ⟨w.heap.size, 0, none⟩) n n) (w.alloc (.cells (madeCells (mkV mkZ).cells (n * 4)) 56)) := by
  obtain ⟨i, hi, hzz⟩ := Option.map_eq_some_iff.1 mkF.info
  simp only [Prod.mk.injEq] at hzz
  obtain ⟨hz, hs, hb⟩ := hzz
  have hr := run_make (P := Try.prog) w 28 56 i _ Try.underlying28 hi hz .i64 .i64 n n (by omega) (Int.le_refl _) (by rw [hb, show mkF.by8 = 32 from rfl]; omega) (by omega)
  simp only [Int.toNat_natCast, hs] at hr
  exact hr

theorem row_mk (w : World) (t n : Nat) (xs : List Mk) : (w.alloc (.cells (madeCells (mkV mkZ).cells (n * 4)) t)).rowIs w.heap.size t (n * 4) (mkFill xs 0) := by
  refine ⟨_, Go.Deep.blk_alloc_new _ _, size_madeCells _ _, fun i hi => ?_⟩
  have e : (mkV mkZ).cells = #[.int .i64 0, .int .i64 0, .int .i64 0, .int .i64 0] := by kernel_rfl
  have h6 : i % 4 = 0 ∨ i % 4 = 1 ∨ i % 4 = 2 ∨ i % 4 = 3 := by omega
  rw [e]
  rcases h6 with h6 | h6 | h6 | h6 <;> simp [madeCells, hi, h6, mkFill]

theorem szMarkS_small (a : Option Addr) (n cap : Nat) (left : Int) (w : World) (h0 : 0 ≤ left) (h1 : left ≤ 1048576) (h : (n : Int) ≤ left) :
    Calls Try.prog 30 #[.slice a n cap, .int .i64 left] w fun e w' => e = .returned (.int .i64 (left - n)) ∧ w' = w := by
  go_enter Try.func30, Try.ntmps30
  go_wp2
  go_ret
  exact ⟨rfl, rfl⟩

theorem szMarkS_big (a : Option Addr) (n cap : Nat) (left : Int) (w : World) (h0 : 0 ≤ left) (h1 : left ≤ 1048576) (h : left < (n : Int)) (hm : n ≤ maxLen) :
    Calls Try.prog 30 #[.slice a n cap, .int .i64 left] w fun e w' => e = .returned (.int .i64 (-1)) ∧ w' = w := by
  unfold maxLen at hm
  go_enter Try.func30, Try.ntmps30
  go_wp2
  go_ret
  exact ⟨rfl, rfl⟩

set_option maxHeartbeats 400000 in
theorem eqMark_same (k c s q : Int) (w : World) :
    Calls Try.prog 65 #[mkV ⟨k, c, s, q⟩, mkV ⟨k, c, s, q⟩] w fun e w' => e = .returned (.bool true) ∧ Below w.heap.size w w' := by
  go_enter Try.func65, Try.ntmps65
  go_wp2_with fail
  refine (eqTag_same _ _ _ _).mono ?_
  rintro e w1 ⟨rfl, hb1⟩
  have HB : Hid (Below w.heap.size w w1) := below_step (((Below.refl _ _).alloc (Nat.le_refl _) _).alloc (by simp) _) (by simp; omega) hb1
  clear hb1
  go_wp2
  go_ret
  exact ⟨rfl, HB.out⟩

set_option maxHeartbeats 400000 in
theorem toMark_any' (x : Mk) (w : World) :
    Calls Try.prog 62 #[mkV x] w fun e w' => e = .returned (mkV x) ∧ Below w.heap.size w w' := by
  obtain ⟨k, c, s, q⟩ := x
  go_enter Try.func62, Try.ntmps62
  go_wp2_with fail
  refine (toTag_any _ _ _ _).mono ?_
  rintro e w1 ⟨rfl, hb1⟩
  obtain ⟨hc, hf⟩ := bcell hb1
  have hz : w.heap.size + 1 + 1 < w1.heap.size := by have := hb1.size; simp at this; omega
  have HB : Hid (Below w.heap.size w w1) := below_step ((((Below.refl _ _).alloc (Nat.le_refl _) _).alloc (by simp) _).alloc (by simp; omega) _) (by simp; omega) hb1
  clear hb1
  go_wp2
  exact bodyPost_ret (v := mkV ⟨k, c, s, q⟩) (by simp [results, Try.results62, go_sem, hc]) rfl ⟨rfl, ((((((HB.out.setCell (by simp; omega) _).setCell (by simp; omega) _).setCell (by simp; omega) _).setCell (by simp) _).setCell (by simp) _).setCell (by simp) _).setCell (by simp) _⟩

set_option maxHeartbeats 4000000 in
theorem toMarkS_any (a : Option Addr) (n cap : Nat) (xs : List Mk) (w : World) (hn : xs.length = n) (hm : n ≤ 4194304) (h : mkF.Is w a xs) :
    Calls Try.prog 35 #[.slice a n cap] w fun e w' => e = .returned (.slice (some ⟨w.heap.size, 0, none⟩) n n) ∧ w.heap.size < w'.heap.size ∧ mkF.Own w' w.heap.size w'.heap.size (some ⟨w.heap.size, 0, none⟩) xs ∧ Below w.heap.size w w' := by
  have H := Lib.hid h
  have HN := Lib.hid hn
  clear h hn
  have hmk := run_make_mk n hm
  go_enter Try.func35, Try.ntmps35
  go_wp2
  clear hmk
  go_loopw [4] (fun i wr => ∃ k : Nat, k ≤ n ∧ i = .int .i64 k ∧ Hid (wr.rowIs w.heap.size 56 (n * 4) (mkFill xs k)) ∧ Hid (Below w.heap.size w wr)) (fun i _ => n - (intOf i).toNat)
  case atStart => exact ⟨0, Nat.zero_le _, rfl, row_mk _ _ _ _, (Below.refl _ _).alloc (Nat.le_refl _) _⟩
  case round =>
    obtain ⟨k, hk, rfl, HR, HB⟩ := hrel
    by_cases hk' : k < n
    · have i1 : (0 : Int) ≤ (k : Int) := by omega
      have i2 : (k : Int) < (n : Int) := by omega
      obtain ⟨b, o, rfl, hz, hat⟩ := H.out.at HB.out (k := k) (by rw [HN.out]; exact hk')
      obtain ⟨c0, c1, c2, c3⟩ := mk_at hat
      simp only [show mkF.k = 4 from rfl] at c0 c1 c2 c3
      have HST := Lib.hid (mkFill_step xs k)
      clear hat
      simp only [show mkF.z = mkZ from rfl] at c0 c1 c2 c3
      generalize xs.getD k mkZ = x at *
      go_wp2_with fail
      refine (toMark_any' ⟨x.e, x.c, x.s, x.q⟩ _).mono ?_
      rintro e w2 ⟨rfl, hb⟩
      have HR2 := Lib.hid (HR.out.of_block (hb.block _ HR.out.lt))
      have HB2 := Lib.hid (below_step HB.out HB.out.size hb)
      have d0 := HR2.out.cell (i := k * 4) (by omega)
      have d1 := HR2.out.cell (i := k * 4 + 1) (by omega)
      have d2 := HR2.out.cell (i := k * 4 + 2) (by omega)
      have d3 := HR2.out.cell (i := k * 4 + 3) (by omega)
      have fz := HR2.out.frozen
      have HP := Lib.hid (((((HR2.out.set (k * 4) (.int .i64 x.e)).set (k * 4 + 1) (.int .i64 x.c)).set (k * 4 + 2) (.int .i64 x.s)).set (k * 4 + 3) (.int .i64 x.q)).congr fun j _ => HST.out j)
      have HB3 := Lib.hid (((((HB2.out.setCell (p := ⟨w.heap.size, k * 4, none⟩) (Nat.le_refl _) (.int .i64 x.e)).setCell (p := ⟨w.heap.size, k * 4 + 1, none⟩) (Nat.le_refl _) (.int .i64 x.c)).setCell (p := ⟨w.heap.size, k * 4 + 2, none⟩) (Nat.le_refl _) (.int .i64 x.s)).setCell (p := ⟨w.heap.size, k * 4 + 3, none⟩) (Nat.le_refl _) (.int .i64 x.q)))
      clear hb HR HR2 HB HST c0 c1 c2 c3
      go_wp2
      exact ⟨⟨k + 1, by omega, by go_num, HP, HB3⟩, by simp [intOf]; omega⟩
    · obtain rfl : k = n := by omega
      go_wp2
      go_ret
      have hr := HR.out
      have e := HN.out
      refine ⟨rfl, HR.out.lt, .inr ⟨w.heap.size, rfl, Nat.le_refl _, HR.out.lt, HR.out.lt, mk_filled (by rw [e]; exact hr) (by rw [e]), HR.out.frozen⟩, HB.out⟩

set_option maxHeartbeats 4000000 in
theorem eqMarkS_same (a a' : Option Addr) (n cap cap' : Nat) (xs : List Mk) (w : World) (hn : xs.length = n) (hm : n ≤ 4194304) (h : mkF.Is w a xs) (h' : mkF.Is w a' xs) :
    Calls Try.prog 39 #[.slice a n cap, .slice a' n cap'] w fun e w' => e = .returned (.bool true) ∧ Below w.heap.size w w' := by
  have HH := Lib.hid h
  have HH' := Lib.hid h'
  have HN := Lib.hid hn
  clear h h' hn
  go_enter Try.func39, Try.ntmps39
  go_wp2
  go_loopw [5] (fun i wr => ∃ k : Nat, k ≤ n ∧ i = .int .i64 k ∧ Hid (Below w.heap.size w wr)) (fun i _ => n - (intOf i).toNat)
  case atStart => exact ⟨0, Nat.zero_le _, rfl, Below.refl _ _⟩
  case round =>
    obtain ⟨k, hk, rfl, HB⟩ := hrel
    by_cases hk' : k < n
    · have hkk : k < xs.length := by rw [HN.out]; exact hk'
      obtain ⟨b, o, rfl, hz, hat⟩ := HH.out.at HB.out hkk
      obtain ⟨b', o', rfl, hz', hat'⟩ := HH'.out.at HB.out hkk
      obtain ⟨e0, e1, e2, e3⟩ := mk_at hat
      obtain ⟨f0, f1, f2, f3⟩ := mk_at hat'
      clear HH HH' hat hat' HN hkk
      simp only [show mkF.k = 4 from rfl, show mkF.z = mkZ from rfl] at e0 e1 e2 e3 f0 f1 f2 f3
      have i1 : (0 : Int) ≤ (k : Int) := by omega
      have i2 : (k : Int) < (n : Int) := by omega
      generalize (xs.getD k mkZ).e = ye at *
      generalize (xs.getD k mkZ).c = yc at *
      generalize (xs.getD k mkZ).s = ys at *
      generalize (xs.getD k mkZ).q = yq at *
      go_wp2_with fail
      have ge0 := aft_cell hz e0
      have gf0 := aft_cell hz' f0
      have ge1 := aft_cell hz e1
      have gf1 := aft_cell hz' f1
      have ge2 := aft_cell hz e2
      have gf2 := aft_cell hz' f2
      have ge3 := aft_cell hz e3
      have gf3 := aft_cell hz' f3
      have ne := aft_some wr
      refine wp_region_aft (by kernel_rfl) (by kernel_rfl) ?_
      repeat (first | go_big_quiet_step (first | (go_at_call 65; exact aft_of (eqMark_same _ _ _ _ _))))
      refine wpQuiet_nil ?_
      intro wq hq
      go_wp2
      exact ⟨⟨k + 1, by omega, by go_num, below_step HB.out HB.out.size hq⟩, by simp [intOf]; omega⟩
    · obtain rfl : k = n := by omega
      go_wp2
      go_ret
      exact ⟨rfl, HB.out⟩

end Go.Proofs.Ytkcbknjmpfgimaa

namespace Go.Proofs.Ytkcbknjmpfgimaa
open Go.ChangeShapes Go.WideShapes Go.ChangeAt Go.RowKit Go.Joins Go.Deep
set_option maxRecDepth 100000

section
variable {H : Type} {enc : TypeId × Value → H} {w : World} {base : Nat} {spare : Nat → Bool} {held : Bool}

theorem tm_cells {fuel : Nat} {cs : List Value} {x : DataW H × List MemPlace} (h : DataW.trod enc Try.prog w base spare held fuel 43 cs = some x) : ∃ y : Tm, cs = [.int .i64 y.c, .int .i64 y.s, .int .i64 y.q] := by
  obtain ⟨c, s, q, e⟩ := tag_cells h
  exact ⟨⟨c, s, q⟩, e⟩

theorem tms_cells {fuel : Nat} {a : Option Addr} {len cap : Nat} {x : DataW H × List MemPlace} (h : DataW.trod enc Try.prog w base spare held fuel 23 [.slice a len cap] = some x) :
    ∃ es : List Tm, es.length = len ∧ len ≤ maxLen ∧ tmF.Is w a es := by
  rcases open_slice Try.underlying23 h with ⟨hcs, _⟩ | ⟨a', len', cap', m, n, D, Pl, hcs, _, hl, hm, hmm, _, hel⟩
  · simp at hcs
    obtain ⟨rfl, rfl, rfl⟩ := hcs
    exact ⟨[], rfl, Nat.zero_le _, .inl rfl⟩
  · simp at hcs
    obtain ⟨rfl, rfl, rfl⟩ := hcs
    have hml : len ≤ m := by rw [hmm]; split <;> omega
    have hd : ∀ i, i < len → ∃ y : Tm, w.cell? (a'.add (i * 3)) = some (.int .i64 y.c) ∧ w.cell? (a'.add (i * 3 + 1)) = some (.int .i64 y.s) ∧ w.cell? (a'.add (i * 3 + 2)) = some (.int .i64 y.q) := by
      intro i hi
      obtain ⟨cs', h1, h2⟩ := hel i (by omega)
      rw [cellsTag] at h1
      obtain ⟨_, _, hc⟩ := World.cells?_some h1
      obtain ⟨y, hdd⟩ := tm_cells h2
      rw [hdd] at hc
      have c0 := hc 0 (by omega)
      have c1 := hc 1 (by omega)
      have c2 := hc 2 (by omega)
      rw [add_add] at c0 c1 c2
      exact ⟨y, by simpa using c0, by simpa using c1, by simpa using c2⟩
    by_cases h0 : len = 0
    · subst h0
      exact ⟨[], rfl, Nat.zero_le _, .inl rfl⟩
    have : Inhabited Tm := ⟨tmZ⟩
    obtain ⟨f, hf⟩ := choose_lt hd
    have ha : a' = ⟨a'.block, a'.off, none⟩ := by
      have h1 := (hf 0 (by omega)).1
      simp [Addr.add] at h1
      exact add_form h1
    have hg : ∀ i, i < len → ((List.range len).map f).getD i tmZ = f i := fun i hi => by simp [List.getD, hi]
    refine ⟨(List.range len).map f, by simp, by omega, .inr ⟨a'.block, a'.off, by rw [← ha], ?_, fun i hi => ?_⟩⟩
    · obtain ⟨cs', h1, _⟩ := hel 0 (by omega)
      rw [cellsTag] at h1
      have h2 := World.cells?_block h1 (by omega)
      simpa [Addr.add] using h2
    · have hi' : i < len := by simpa using hi
      simp only [show tmF.z = tmZ from rfl, show tmF.k = 3 from rfl]
      rw [hg i hi']
      obtain ⟨h0, h1, h2⟩ := hf i hi'
      rw [ha] at h0 h1 h2
      rw [add_plain] at h0 h1 h2
      exact tm_mk ⟨h0, h1, h2⟩

theorem cellsMark : Try.prog.cellsOf 90 = 4 := by kernel_rfl

theorem mk_cells {fuel : Nat} {cs : List Value} {x : DataW H × List MemPlace} (h : DataW.trod enc Try.prog w base spare held fuel 90 cs = some x) : ∃ y : Mk, cs = [.int .i64 y.e, .int .i64 y.c, .int .i64 y.s, .int .i64 y.q] := by
  obtain ⟨y0, y1, n, _, hl, h0, h1⟩ := trod_struct2 Try.underlying90 h
  rw [cellsMark] at hl
  match cs, hl with
  | [v0, v1, v2, v3], _ =>
    obtain ⟨a0, e0, _, _⟩ := DataW.trod_int Try.underlying3 h0
    obtain ⟨c, s, q, e1⟩ := tag_cells h1
    simp [cellsInt] at e0
    simp [cellsTag] at e1
    obtain ⟨e1, e2, e3⟩ := e1
    subst e0 e1 e2 e3
    exact ⟨⟨a0, c, s, q⟩, rfl⟩

theorem mks_cells {fuel : Nat} {a : Option Addr} {len cap : Nat} {x : DataW H × List MemPlace} (h : DataW.trod enc Try.prog w base spare held fuel 22 [.slice a len cap] = some x) :
    ∃ es : List Mk, es.length = len ∧ len ≤ maxLen ∧ mkF.Is w a es := by
  rcases open_slice Try.underlying22 h with ⟨hcs, _⟩ | ⟨a', len', cap', m, n, D, Pl, hcs, _, hl, hm, hmm, _, hel⟩
  · simp at hcs
    obtain ⟨rfl, rfl, rfl⟩ := hcs
    exact ⟨[], rfl, Nat.zero_le _, .inl rfl⟩
  · simp at hcs
    obtain ⟨rfl, rfl, rfl⟩ := hcs
    have hml : len ≤ m := by rw [hmm]; split <;> omega
    have hd : ∀ i, i < len → ∃ y : Mk, w.cell? (a'.add (i * 4)) = some (.int .i64 y.e) ∧ w.cell? (a'.add (i * 4 + 1)) = some (.int .i64 y.c) ∧ w.cell? (a'.add (i * 4 + 2)) = some (.int .i64 y.s) ∧ w.cell? (a'.add (i * 4 + 3)) = some (.int .i64 y.q) := by
      intro i hi
      obtain ⟨cs', h1, h2⟩ := hel i (by omega)
      rw [cellsMark] at h1
      obtain ⟨_, _, hc⟩ := World.cells?_some h1
      obtain ⟨y, hdd⟩ := mk_cells h2
      rw [hdd] at hc
      have c0 := hc 0 (by omega)
      have c1 := hc 1 (by omega)
      have c2 := hc 2 (by omega)
      have c3 := hc 3 (by omega)
      rw [add_add] at c0 c1 c2 c3
      exact ⟨y, by simpa using c0, by simpa using c1, by simpa using c2, by simpa using c3⟩
    by_cases h0 : len = 0
    · subst h0
      exact ⟨[], rfl, Nat.zero_le _, .inl rfl⟩
    have : Inhabited Mk := ⟨mkZ⟩
    obtain ⟨f, hf⟩ := choose_lt hd
    have ha : a' = ⟨a'.block, a'.off, none⟩ := by
      have h1 := (hf 0 (by omega)).1
      simp [Addr.add] at h1
      exact add_form h1
    have hg : ∀ i, i < len → ((List.range len).map f).getD i mkZ = f i := fun i hi => by simp [List.getD, hi]
    refine ⟨(List.range len).map f, by simp, by omega, .inr ⟨a'.block, a'.off, by rw [← ha], ?_, fun i hi => ?_⟩⟩
    · obtain ⟨cs', h1, _⟩ := hel 0 (by omega)
      rw [cellsMark] at h1
      have h2 := World.cells?_block h1 (by omega)
      simpa [Addr.add] using h2
    · have hi' : i < len := by simpa using hi
      simp only [show mkF.z = mkZ from rfl, show mkF.k = 4 from rfl]
      rw [hg i hi']
      obtain ⟨h0, h1, h2, h3⟩ := hf i hi'
      rw [ha] at h0 h1 h2 h3
      rw [add_plain] at h0 h1 h2 h3
      exact mk_mk ⟨h0, h1, h2, h3⟩

end
end Go.Proofs.Ytkcbknjmpfgimaa

namespace Go.Proofs.Ytkcbknjmpfgimaa

@[simp] def factsAtU (U : Tmp → Option Tmp) (vs : Tmp → Value) (w : World) : Facts → Prop
  | [] => True
  | (d, p) :: r => (U d = none → p (vs d) w) ∧ factsAtU U vs w r

end Go.Proofs.Ytkcbknjmpfgimaa

namespace Go.Proofs.Ytkcbknjmpfgimaa
open Go.ChangeShapes Go.WideShapes Go.ChangeAt Go.RowKit Go.Joins Go.Deep
attribute [local go_sem ↓] Go.wp_at_zero Go.wp_at_succ
set_option maxRecDepth 100000

abbrev setV (a : Option Addr) (n cap : Nat) (b : Option Addr) (m cb : Nat) : Value := .agg #[.slice a n cap, .slice b m cb]

def IsSt (w : World) (a b : Option Addr) (us : List Mk) (ds : List Tm) : Prop := mkF.Is w a us ∧ tmF.Is w b ds

theorem IsSt.below {w w' : World} {a b : Option Addr} {us : List Mk} {ds : List Tm} (h : IsSt w a b us ds) (hb : Below w.heap.size w w') : IsSt w' a b us ds := ⟨h.1.below hb, h.2.below hb⟩

def OwnSt (w : World) (lo hi : Nat) (a b : Option Addr) (us : List Mk) (ds : List Tm) : Prop :=
  ∃ l1 h1 l2 h2, lo ≤ l1 ∧ h1 ≤ hi ∧ lo ≤ l2 ∧ h2 ≤ hi ∧ (h1 ≤ l2 ∨ h2 ≤ l1) ∧ mkF.Own w l1 h1 a us ∧ tmF.Own w l2 h2 b ds

theorem OwnSt.below {w w' : World} {lo hi : Nat} {a b : Option Addr} {us : List Mk} {ds : List Tm} (h : OwnSt w lo hi a b us ds) (hb : Below w.heap.size w w') : OwnSt w' lo hi a b us ds := by
  obtain ⟨l1, h1, l2, h2, k1, k2, k3, k4, k5, o1, o2⟩ := h
  exact ⟨l1, h1, l2, h2, k1, k2, k3, k4, k5, o1.below hb, o2.below hb⟩

theorem OwnSt.wider {w : World} {lo hi lo' hi' : Nat} {a b : Option Addr} {us : List Mk} {ds : List Tm} (h : OwnSt w lo hi a b us ds) (hl : lo' ≤ lo) (hh : hi ≤ hi') : OwnSt w lo' hi' a b us ds := by
  obtain ⟨l1, h1, l2, h2, k1, k2, k3, k4, k5, o1, o2⟩ := h
  exact ⟨l1, h1, l2, h2, by omega, by omega, by omega, by omega, k5, o1, o2⟩

theorem OwnSt.isSt {w : World} {lo hi : Nat} {a b : Option Addr} {us : List Mk} {ds : List Tm} (h : OwnSt w lo hi a b us ds) : IsSt w a b us ds := by
  obtain ⟨l1, h1, l2, h2, k1, k2, k3, k4, k5, o1, o2⟩ := h
  exact ⟨o1.is, o2.is⟩

theorem OwnSt.aside {w : World} {lo hi : Nat} {a b : Option Addr} {us : List Mk} {ds : List Tm} {p : Addr} (h : OwnSt w lo hi a b us ds) (hp : p.block < lo) (v : Value) : OwnSt (w.setCell p v) lo hi a b us ds := by
  obtain ⟨l1, h1, l2, h2, k1, k2, k3, k4, k5, o1, o2⟩ := h
  exact ⟨l1, h1, l2, h2, k1, k2, k3, k4, k5, o1.far (by omega) v, o2.far (by omega) v⟩

theorem cellsSet : Try.prog.cellsOf 25 = 2 := by kernel_rfl

theorem cellsMarkS : Try.prog.cellsOf 22 = 1 := by kernel_rfl

theorem cellsTagS : Try.prog.cellsOf 23 = 1 := by kernel_rfl

def SetIn (w : World) (a : Option Addr) (n : Nat) (b : Option Addr) (m : Nat) (us : List Mk) (ds : List Tm) : Prop := (us.length = n ∧ n ≤ maxLen ∧ mkF.Is w a us) ∧ (ds.length = m ∧ m ≤ maxLen ∧ tmF.Is w b ds)

section
variable {H : Type} {enc : TypeId × Value → H} {w : World} {base : Nat} {held : Bool}

theorem open_set {b0 : Nat} {r : Reach} {v : Value} {d : DataW H} {p : List MemPlace} (hv : Value.okWide Try.prog w r b0 25 v) (h : DataW.Trod enc Try.prog w base (fun _ => true) held 25 v d p) :
    ∃ (a : Option Addr) (n cap : Nat) (b : Option Addr) (m cb : Nat) (us : List Mk) (ds : List Tm), v = setV a n cap b m cb ∧ SetIn w a n b m us ds := by
  obtain ⟨cs, rfl, hsz⟩ := okWide_struct Try.underlying25 hv
  rw [cellsSet] at hsz
  obtain ⟨fuel, hf⟩ := h
  obtain ⟨xs', n, _, _, _, hlen, hfd⟩ := DataW.trod_struct Try.underlying25 hf
  cases cs with
  | mk l =>
    have hl : l.length = 2 := by simpa using hsz
    match l, hl, xs', hlen with
    | [v0, v1], _, [y0, y1], _ =>
      have g0 := hfd 0 _ rfl
      have g1 := hfd 1 _ rfl
      simp [Value.cells, cellsMarkS, cellsTagS] at g0 g1
      obtain ⟨a, n, cap, e0⟩ : ∃ a n cap, v0 = .slice a n cap := by
        rcases open_slice Try.underlying22 g0 with ⟨hcs, _⟩ | ⟨a', len', cap', m, n, D, Pl, hcs, _⟩
        · simp at hcs
          exact ⟨_, _, _, hcs⟩
        · simp at hcs
          exact ⟨_, _, _, hcs⟩
      obtain ⟨b, m, cb, e1⟩ : ∃ a n cap, v1 = .slice a n cap := by
        rcases open_slice Try.underlying23 g1 with ⟨hcs, _⟩ | ⟨a', len', cap', m, n, D, Pl, hcs, _⟩
        · simp at hcs
          exact ⟨_, _, _, hcs⟩
        · simp at hcs
          exact ⟨_, _, _, hcs⟩
      subst e0 e1
      obtain ⟨us, hu⟩ := mks_cells g0
      obtain ⟨ds, hd⟩ := tms_cells g1
      exact ⟨a, n, cap, b, m, cb, us, ds, rfl, hu, hd⟩

end

theorem szSet_small (a : Option Addr) (n cap : Nat) (b : Option Addr) (m cb : Nat) (left : Int) (w : World) (h0 : 0 ≤ left) (h1 : left ≤ 1048576) (h : (n : Int) + m ≤ left) :
    Calls Try.prog 9 #[setV a n cap b m cb, .int .i64 left] w fun e w' => e = .returned (.int .i64 (left - n - m)) ∧ Below w.heap.size w w' := by
  have k1 : ¬ left - (n : Int) < 0 := by omega
  have k2 : ¬ left - (n : Int) - (m : Int) < 0 := by omega
  go_enter Try.func9, Try.ntmps9
  go_wp2_with fail
  refine (szMarkS_small _ _ _ _ _ h0 h1 (by omega)).mono ?_
  rintro e w1 ⟨rfl, rfl⟩
  go_wp2_with fail
  refine (szTagS_small _ _ _ _ _ (by omega) (by omega) (by omega)).mono ?_
  rintro e w1 ⟨rfl, rfl⟩
  go_wp2
  go_ret
  exact ⟨rfl, (Below.refl _ _).alloc (Nat.le_refl _) _⟩

theorem szSet_big (a : Option Addr) (n cap : Nat) (b : Option Addr) (m cb : Nat) (left : Int) (w : World) (h0 : 0 ≤ left) (h1 : left ≤ 1048576) (h : left < (n : Int) + m) (hn : n ≤ maxLen) (hm : m ≤ maxLen) :
    Calls Try.prog 9 #[setV a n cap b m cb, .int .i64 left] w fun e w' => e = .returned (.int .i64 (-1)) ∧ Below w.heap.size w w' := by
  by_cases hs : (n : Int) ≤ left
  · have k1 : ¬ left - (n : Int) < 0 := by omega
    go_enter Try.func9, Try.ntmps9
    go_wp2_with fail
    refine (szMarkS_small _ _ _ _ _ h0 h1 hs).mono ?_
    rintro e w1 ⟨rfl, rfl⟩
    go_wp2_with fail
    refine (szTagS_big _ _ _ _ _ (by omega) (by omega) (by omega) hm).mono ?_
    rintro e w1 ⟨rfl, rfl⟩
    go_wp2
    go_ret
    exact ⟨rfl, (Below.refl _ _).alloc (Nat.le_refl _) _⟩
  · go_enter Try.func9, Try.ntmps9
    go_wp2_with fail
    refine (szMarkS_big _ _ _ _ _ h0 h1 (by omega) hn).mono ?_
    rintro e w1 ⟨rfl, rfl⟩
    go_wp2
    go_ret
    exact ⟨rfl, (Below.refl _ _).alloc (Nat.le_refl _) _⟩

set_option maxHeartbeats 2000000 in
theorem toSet_own (a : Option Addr) (n cap : Nat) (b : Option Addr) (m cb : Nat) (us : List Mk) (ds : List Tm) (w : World) (hl : us.length = n) (hn : n ≤ 4194304) (hl' : ds.length = m) (hm : m ≤ 4194304) (hh : IsSt w a b us ds) :
    Calls Try.prog 11 #[setV a n cap b m cb] w fun e w' => ∃ g g', e = .returned (setV (some ⟨g, 0, none⟩) n n (some ⟨g', 0, none⟩) m m) ∧ OwnSt w' w.heap.size w'.heap.size (some ⟨g, 0, none⟩) (some ⟨g', 0, none⟩) us ds ∧ Below w.heap.size w w' := by
  have HC := Lib.hid hh
  have HL := Lib.hid hl
  have HL' := Lib.hid hl'
  have hres : Try.f11.results = #[.cell 2 31] := by kernel_rfl
  clear hh hl hl'
  go_enter Try.func11, Try.ntmps11
  go_wp2_with fail
  have HB : Hid (Below w.heap.size w (((w.alloc (.cells #[.slice a n cap, .slice b m cb] 25)).alloc (.cells #[.slice none 0 0, .slice none 0 0] 31)).alloc (.cells #[.slice none 0 0, .slice none 0 0] 31))) := ((((Below.refl _ _).alloc (Nat.le_refl _) _).alloc (by simp) _).alloc (by simp <;> omega) _)
  have cb1_0 : (((w.alloc (.cells #[.slice a n cap, .slice b m cb] 25)).alloc (.cells #[.slice none 0 0, .slice none 0 0] 31)).alloc (.cells #[.slice none 0 0, .slice none 0 0] 31)).cell? ⟨w.heap.size, 0, none⟩ = some (.slice a n cap) := by go_simp
  have cb1_1 : (((w.alloc (.cells #[.slice a n cap, .slice b m cb] 25)).alloc (.cells #[.slice none 0 0, .slice none 0 0] 31)).alloc (.cells #[.slice none 0 0, .slice none 0 0] 31)).cell? ⟨w.heap.size, 1, none⟩ = some (.slice b m cb) := by go_simp
  have zb1 : w.heap.size < (((w.alloc (.cells #[.slice a n cap, .slice b m cb] 25)).alloc (.cells #[.slice none 0 0, .slice none 0 0] 31)).alloc (.cells #[.slice none 0 0, .slice none 0 0] 31)).heap.size := by simp <;> omega
  have cr_0 : (((w.alloc (.cells #[.slice a n cap, .slice b m cb] 25)).alloc (.cells #[.slice none 0 0, .slice none 0 0] 31)).alloc (.cells #[.slice none 0 0, .slice none 0 0] 31)).cell? ⟨w.heap.size + 1, 0, none⟩ = some (.slice none 0 0) := by go_simp
  have cr_1 : (((w.alloc (.cells #[.slice a n cap, .slice b m cb] 25)).alloc (.cells #[.slice none 0 0, .slice none 0 0] 31)).alloc (.cells #[.slice none 0 0, .slice none 0 0] 31)).cell? ⟨w.heap.size + 1, 1, none⟩ = some (.slice none 0 0) := by go_simp
  have zr : w.heap.size + 1 < (((w.alloc (.cells #[.slice a n cap, .slice b m cb] 25)).alloc (.cells #[.slice none 0 0, .slice none 0 0] 31)).alloc (.cells #[.slice none 0 0, .slice none 0 0] 31)).heap.size := by simp <;> omega
  have fr : Hid (∀ o, (((w.alloc (.cells #[.slice a n cap, .slice b m cb] 25)).alloc (.cells #[.slice none 0 0, .slice none 0 0] 31)).alloc (.cells #[.slice none 0 0, .slice none 0 0] 31)).frozen? ⟨w.heap.size + 1, o, none⟩ = false) := fun o => by go_simp
  have cx_0 : (((w.alloc (.cells #[.slice a n cap, .slice b m cb] 25)).alloc (.cells #[.slice none 0 0, .slice none 0 0] 31)).alloc (.cells #[.slice none 0 0, .slice none 0 0] 31)).cell? ⟨w.heap.size + 1 + 1, 0, none⟩ = some (.slice none 0 0) := by go_simp
  have cx_1 : (((w.alloc (.cells #[.slice a n cap, .slice b m cb] 25)).alloc (.cells #[.slice none 0 0, .slice none 0 0] 31)).alloc (.cells #[.slice none 0 0, .slice none 0 0] 31)).cell? ⟨w.heap.size + 1 + 1, 1, none⟩ = some (.slice none 0 0) := by go_simp
  have zx : w.heap.size + 1 + 1 < (((w.alloc (.cells #[.slice a n cap, .slice b m cb] 25)).alloc (.cells #[.slice none 0 0, .slice none 0 0] 31)).alloc (.cells #[.slice none 0 0, .slice none 0 0] 31)).heap.size := by simp
  have fx : Hid (∀ o, (((w.alloc (.cells #[.slice a n cap, .slice b m cb] 25)).alloc (.cells #[.slice none 0 0, .slice none 0 0] 31)).alloc (.cells #[.slice none 0 0, .slice none 0 0] 31)).frozen? ⟨w.heap.size + 1 + 1, o, none⟩ = false) := fun o => by go_simp
  have hsV0 : w.heap.size + 1 + 1 < (((w.alloc (.cells #[.slice a n cap, .slice b m cb] 25)).alloc (.cells #[.slice none 0 0, .slice none 0 0] 31)).alloc (.cells #[.slice none 0 0, .slice none 0 0] 31)).heap.size := by simp
  generalize (((w.alloc (.cells #[.slice a n cap, .slice b m cb] 25)).alloc (.cells #[.slice none 0 0, .slice none 0 0] 31)).alloc (.cells #[.slice none 0 0, .slice none 0 0] 31)) = V0 at *
  refine (toMarkS_any a n cap us _ HL.out hn (HC.out.below HB.out).1).mono ?_
  rintro e w1 ⟨rfl, hlt, ho, hb⟩
  have hsw1 : V0.heap.size ≤ w1.heap.size := hb.size
  replace cb1_0 := fl_cells hb zb1 cb1_0
  replace cb1_1 := fl_cells hb zb1 cb1_1
  replace zb1 := Nat.lt_of_lt_of_le zb1 hb.size
  replace fr := Lib.hid (fun o => (hb.frozen (p := ⟨w.heap.size + 1, o, none⟩) zr).trans (fr.out o))
  replace cr_0 := fl_cells hb zr cr_0
  replace cr_1 := fl_cells hb zr cr_1
  replace zr := Nat.lt_of_lt_of_le zr hb.size
  replace fx := Lib.hid (fun o => (hb.frozen (p := ⟨w.heap.size + 1 + 1, o, none⟩) zx).trans (fx.out o))
  replace cx_0 := fl_cells hb zx cx_0
  replace cx_1 := fl_cells hb zx cx_1
  replace zx := Nat.lt_of_lt_of_le zx hb.size
  replace HB := Lib.hid (below_step HB.out HB.out.size hb)
  have HO1 := Lib.hid ho
  clear hb ho
  have frx := fr.out
  have fxx := fx.out
  go_wp2_with fail
  replace HO1 := Lib.hid (HO1.out.far (p := ⟨w.heap.size + 1 + 1, 0, none⟩) (Or.inl (by show w.heap.size + 1 + 1 < V0.heap.size; omega)) (.slice (some ⟨V0.heap.size, 0, none⟩) n n))
  replace HB := Lib.hid (HB.out.setCell (p := ⟨w.heap.size + 1 + 1, 0, none⟩) (Nat.le_add_right _ 2) (.slice (some ⟨V0.heap.size, 0, none⟩) n n))
  replace cb1_0 : (w1.setCell ⟨w.heap.size + 1 + 1, 0, none⟩ (.slice (some ⟨V0.heap.size, 0, none⟩) n n)).cell? ⟨w.heap.size, 0, none⟩ = _ := (World.cell?_setCell_other w1 ⟨w.heap.size + 1 + 1, 0, none⟩ ⟨w.heap.size, 0, none⟩ _ (fun e => by injection e with e1 e2; omega)).trans cb1_0
  replace cb1_1 : (w1.setCell ⟨w.heap.size + 1 + 1, 0, none⟩ (.slice (some ⟨V0.heap.size, 0, none⟩) n n)).cell? ⟨w.heap.size, 1, none⟩ = _ := (World.cell?_setCell_other w1 ⟨w.heap.size + 1 + 1, 0, none⟩ ⟨w.heap.size, 1, none⟩ _ (fun e => by injection e with e1 e2; omega)).trans cb1_1
  replace cr_0 : (w1.setCell ⟨w.heap.size + 1 + 1, 0, none⟩ (.slice (some ⟨V0.heap.size, 0, none⟩) n n)).cell? ⟨w.heap.size + 1, 0, none⟩ = _ := (World.cell?_setCell_other w1 ⟨w.heap.size + 1 + 1, 0, none⟩ ⟨w.heap.size + 1, 0, none⟩ _ (fun e => by injection e with e1 e2; omega)).trans cr_0
  replace cr_1 : (w1.setCell ⟨w.heap.size + 1 + 1, 0, none⟩ (.slice (some ⟨V0.heap.size, 0, none⟩) n n)).cell? ⟨w.heap.size + 1, 1, none⟩ = _ := (World.cell?_setCell_other w1 ⟨w.heap.size + 1 + 1, 0, none⟩ ⟨w.heap.size + 1, 1, none⟩ _ (fun e => by injection e with e1 e2; omega)).trans cr_1
  replace cx_1 : (w1.setCell ⟨w.heap.size + 1 + 1, 0, none⟩ (.slice (some ⟨V0.heap.size, 0, none⟩) n n)).cell? ⟨w.heap.size + 1 + 1, 1, none⟩ = _ := (World.cell?_setCell_other w1 ⟨w.heap.size + 1 + 1, 0, none⟩ ⟨w.heap.size + 1 + 1, 1, none⟩ _ (fun e => by injection e with e1 e2; omega)).trans cx_1
  replace cx_0 : (w1.setCell ⟨w.heap.size + 1 + 1, 0, none⟩ (.slice (some ⟨V0.heap.size, 0, none⟩) n n)).cell? ⟨w.heap.size + 1 + 1, 0, none⟩ = some (.slice (some ⟨V0.heap.size, 0, none⟩) n n) := World.cell?_setCell_same _ _ _ cx_0
  replace fr : Hid (∀ o, (w1.setCell ⟨w.heap.size + 1 + 1, 0, none⟩ (.slice (some ⟨V0.heap.size, 0, none⟩) n n)).frozen? ⟨w.heap.size + 1, o, none⟩ = false) := fun o => (World.frozen?_setCell _ _ _ _).trans (frx o)
  replace fx : Hid (∀ o, (w1.setCell ⟨w.heap.size + 1 + 1, 0, none⟩ (.slice (some ⟨V0.heap.size, 0, none⟩) n n)).frozen? ⟨w.heap.size + 1 + 1, o, none⟩ = false) := fun o => (World.frozen?_setCell _ _ _ _).trans (fxx o)
  have hs1 : (w1.setCell ⟨w.heap.size + 1 + 1, 0, none⟩ (.slice (some ⟨V0.heap.size, 0, none⟩) n n)).heap.size = w1.heap.size := by simp
  replace zb1 : w.heap.size < (w1.setCell ⟨w.heap.size + 1 + 1, 0, none⟩ (.slice (some ⟨V0.heap.size, 0, none⟩) n n)).heap.size := by omega
  replace zr : w.heap.size + 1 < (w1.setCell ⟨w.heap.size + 1 + 1, 0, none⟩ (.slice (some ⟨V0.heap.size, 0, none⟩) n n)).heap.size := by omega
  replace zx : w.heap.size + 1 + 1 < (w1.setCell ⟨w.heap.size + 1 + 1, 0, none⟩ (.slice (some ⟨V0.heap.size, 0, none⟩) n n)).heap.size := by omega
  have hlt2 : V0.heap.size < (w1.setCell ⟨w.heap.size + 1 + 1, 0, none⟩ (.slice (some ⟨V0.heap.size, 0, none⟩) n n)).heap.size := by rw [hs1]; exact hlt
  clear frx fxx hlt
  generalize (w1.setCell ⟨w.heap.size + 1 + 1, 0, none⟩ (.slice (some ⟨V0.heap.size, 0, none⟩) n n)) = W1 at *
  refine (toTagS_any b m cb ds _ HL'.out hm (HC.out.below HB.out).2).mono ?_
  rintro e w2 ⟨rfl, hlt, ho, hb⟩
  have hsw2 : W1.heap.size ≤ w2.heap.size := hb.size
  replace cb1_0 := fl_cells hb zb1 cb1_0
  replace cb1_1 := fl_cells hb zb1 cb1_1
  replace zb1 := Nat.lt_of_lt_of_le zb1 hb.size
  replace fr := Lib.hid (fun o => (hb.frozen (p := ⟨w.heap.size + 1, o, none⟩) zr).trans (fr.out o))
  replace cr_0 := fl_cells hb zr cr_0
  replace cr_1 := fl_cells hb zr cr_1
  replace zr := Nat.lt_of_lt_of_le zr hb.size
  replace fx := Lib.hid (fun o => (hb.frozen (p := ⟨w.heap.size + 1 + 1, o, none⟩) zx).trans (fx.out o))
  replace cx_0 := fl_cells hb zx cx_0
  replace cx_1 := fl_cells hb zx cx_1
  replace zx := Nat.lt_of_lt_of_le zx hb.size
  replace HO1 := Lib.hid (HO1.out.below hb)
  replace HB := Lib.hid (below_step HB.out HB.out.size hb)
  have HO2 := Lib.hid ho
  clear hb ho
  have frx := fr.out
  have fxx := fx.out
  have HOC : Hid (OwnSt w2 V0.heap.size w2.heap.size (some ⟨V0.heap.size, 0, none⟩) (some ⟨W1.heap.size, 0, none⟩) us ds) := ⟨_, _, _, _, Nat.le_refl _, by omega, by omega, by omega, .inl (by omega), HO1.out, HO2.out⟩
  clear HO1 HO2
  go_wp2
  refine bodyPost_ret (v := setV (some ⟨V0.heap.size, 0, none⟩) n n (some ⟨W1.heap.size, 0, none⟩) m m) ?_ rfl ?_
  · simp only [results, hres]
    go_simp
  · refine ⟨V0.heap.size, W1.heap.size, rfl, ?_, ?_⟩
    · exact (((HOC.out.aside (p := ⟨w.heap.size + 1 + 1, 1, none⟩) (by show w.heap.size + 1 + 1 < V0.heap.size; omega) _).aside (p := ⟨w.heap.size + 1, 0, none⟩) (by show w.heap.size + 1 < V0.heap.size; omega) _).aside (p := ⟨w.heap.size + 1, 1, none⟩) (by show w.heap.size + 1 < V0.heap.size; omega) _).wider (by omega) (by simp)
    · exact ((HB.out.setCell (p := ⟨w.heap.size + 1 + 1, 1, none⟩) (Nat.le_add_right _ 2) _).setCell (p := ⟨w.heap.size + 1, 0, none⟩) (Nat.le_add_right _ 1) _).setCell (p := ⟨w.heap.size + 1, 1, none⟩) (Nat.le_add_right _ 1) _

theorem eqSet_same (a : Option Addr) (n cap : Nat) (b : Option Addr) (m cb : Nat) (a' : Option Addr) (cap' : Nat) (b' : Option Addr) (cb' : Nat) (us : List Mk) (ds : List Tm) (w : World) (hl : us.length = n) (hn : n ≤ 4194304) (hl' : ds.length = m) (hm : m ≤ 4194304) (hh : IsSt w a b us ds) (hg : IsSt w a' b' us ds) :
    Calls Try.prog 13 #[setV a n cap b m cb, setV a' n cap' b' m cb'] w fun e w' => e = .returned (.bool true) ∧ Below w.heap.size w w' := by
  have HH := Lib.hid hh
  have HG := Lib.hid hg
  have HL := Lib.hid hl
  have HL' := Lib.hid hl'
  clear hh hg hl hl'
  go_enter Try.func13, Try.ntmps13
  go_wp2_with fail
  have HB : Hid (Below w.heap.size w ((w.alloc (.cells #[.slice a n cap, .slice b m cb] 31)).alloc (.cells #[.slice a' n cap', .slice b' m cb'] 31))) := (((Below.refl _ _).alloc (Nat.le_refl _) _).alloc (by simp) _)
  have cb1_0 : ((w.alloc (.cells #[.slice a n cap, .slice b m cb] 31)).alloc (.cells #[.slice a' n cap', .slice b' m cb'] 31)).cell? ⟨w.heap.size, 0, none⟩ = some (.slice a n cap) := by go_simp
  have cb1_1 : ((w.alloc (.cells #[.slice a n cap, .slice b m cb] 31)).alloc (.cells #[.slice a' n cap', .slice b' m cb'] 31)).cell? ⟨w.heap.size, 1, none⟩ = some (.slice b m cb) := by go_simp
  have zb1 : w.heap.size < ((w.alloc (.cells #[.slice a n cap, .slice b m cb] 31)).alloc (.cells #[.slice a' n cap', .slice b' m cb'] 31)).heap.size := by simp <;> omega
  have cb2_0 : ((w.alloc (.cells #[.slice a n cap, .slice b m cb] 31)).alloc (.cells #[.slice a' n cap', .slice b' m cb'] 31)).cell? ⟨w.heap.size + 1, 0, none⟩ = some (.slice a' n cap') := by go_simp
  have cb2_1 : ((w.alloc (.cells #[.slice a n cap, .slice b m cb] 31)).alloc (.cells #[.slice a' n cap', .slice b' m cb'] 31)).cell? ⟨w.heap.size + 1, 1, none⟩ = some (.slice b' m cb') := by go_simp
  have zb2 : w.heap.size + 1 < ((w.alloc (.cells #[.slice a n cap, .slice b m cb] 31)).alloc (.cells #[.slice a' n cap', .slice b' m cb'] 31)).heap.size := by simp
  have hsV0 : w.heap.size + 1 < ((w.alloc (.cells #[.slice a n cap, .slice b m cb] 31)).alloc (.cells #[.slice a' n cap', .slice b' m cb'] 31)).heap.size := by simp
  generalize ((w.alloc (.cells #[.slice a n cap, .slice b m cb] 31)).alloc (.cells #[.slice a' n cap', .slice b' m cb'] 31)) = V0 at *
  refine (eqMarkS_same a a' n cap cap' us _ HL.out hn (HH.out.1.below HB.out) (HG.out.1.below HB.out)).mono ?_
  rintro e w1 ⟨rfl, hb⟩
  have hsw1 : V0.heap.size ≤ w1.heap.size := hb.size
  replace cb1_0 := fl_cells hb zb1 cb1_0
  replace cb1_1 := fl_cells hb zb1 cb1_1
  replace zb1 := Nat.lt_of_lt_of_le zb1 hb.size
  replace cb2_0 := fl_cells hb zb2 cb2_0
  replace cb2_1 := fl_cells hb zb2 cb2_1
  replace zb2 := Nat.lt_of_lt_of_le zb2 hb.size
  replace HB := Lib.hid (below_step HB.out HB.out.size hb)
  clear hb
  go_wp2_with fail
  refine (eqTagS_same b b' m cb cb' ds _ HL'.out hm (HH.out.2.below HB.out) (HG.out.2.below HB.out)).mono ?_
  rintro e w2 ⟨rfl, hb⟩
  have hsw2 : w1.heap.size ≤ w2.heap.size := hb.size
  replace cb1_0 := fl_cells hb zb1 cb1_0
  replace cb1_1 := fl_cells hb zb1 cb1_1
  replace zb1 := Nat.lt_of_lt_of_le zb1 hb.size
  replace cb2_0 := fl_cells hb zb2 cb2_0
  replace cb2_1 := fl_cells hb zb2 cb2_1
  replace zb2 := Nat.lt_of_lt_of_le zb2 hb.size
  replace HB := Lib.hid (below_step HB.out HB.out.size hb)
  clear hb
  go_wp2
  go_ret
  exact ⟨rfl, HB.out⟩

def MarkedSt (w : World) (a : Option Addr) (n : Nat) (b : Option Addr) (m : Nat) (k : Int) : Prop := mkF.Marked w a n k ∧ tmF.Marked w b m (k + 4 * n)

theorem MarkedSt.below {w w' : World} {a : Option Addr} {n : Nat} {b : Option Addr} {m : Nat} {k : Int} (h : MarkedSt w a n b m k) (hb : Below w.heap.size w w') : MarkedSt w' a n b m k := ⟨h.1.below hb, h.2.below hb⟩

def StF (B n m : Nat) (us : List Mk) (ds : List Tm) : Fact := fun v w => ∃ g h, v = setV (some ⟨g, 0, none⟩) n n (some ⟨h, 0, none⟩) m m ∧ OwnSt w B w.heap.size (some ⟨g, 0, none⟩) (some ⟨h, 0, none⟩) us ds

theorem lasts_stF (B n m : Nat) (us : List Mk) (ds : List Tm) : lasts FlR (StF B n m us ds) := by
  rintro v w w' ⟨g, h, h1, h2⟩ hr
  exact ⟨g, h, h1, (h2.below hr).wider (Nat.le_refl _) hr.size⟩

end Go.Proofs.Ytkcbknjmpfgimaa

namespace Go.Proofs.Ytkcbknjmpfgimaa
open Go.ChangeShapes Go.WideShapes Go.ChangeAt Go.RowKit Go.Joins

end Go.Proofs.Ytkcbknjmpfgimaa

namespace Go.Proofs.Ytkcbknjmpfgimaa

end Go.Proofs.Ytkcbknjmpfgimaa

namespace Go.Proofs.Ytkcbknjmpfgimaa

def lexI (a b : Int) : Int := if a ≠ 0 then a else b

theorem lexI_neg (a b : Int) : lexI (-a) (-b) = -lexI a b := by
  unfold lexI
  by_cases h : a = 0
  · simp [h]
  · have h' : -a ≠ 0 := by omega
    simp [h]

theorem tcmp_lex (c s q c' s' q' : Int) : tcmp c s q c' s' q' = lexI (sgn c c') (lexI (sgn s s') (sgn q q')) := by
  unfold tcmp lexI
  simp only [ne_eq, sgn_zero]

theorem tcmp_neg (a1 a2 a3 b1 b2 b3 : Int) : tcmp b1 b2 b3 a1 a2 a3 = -tcmp a1 a2 a3 b1 b2 b3 := by
  rw [tcmp_lex, tcmp_lex, ← lexI_neg, ← lexI_neg, sgn_neg a1 b1, sgn_neg a2 b2, sgn_neg a3 b3]

end Go.Proofs.Ytkcbknjmpfgimaa
