import Derived.Test.YthlkdlknkbigkaaPack3
import Derived.Test.YthlkdlknkbigkaaPack2
import Derived.OneCell
/- An append inside a region that draws its order; what its operations may turn. -/
namespace Go.Proofs.Ythlkdlknkbigkaa
open Go.ChangeShapes Go.WideShapes Go.ChangeAt Go.RowKit Go.Joins

theorem add_block (g j : Nat) : ((⟨g, 0, none⟩ : Addr).add j) = ⟨g, j, none⟩ := by
  unfold Addr.add
  split
  · rename_i h
    rw [h]
  · simp

theorem got_append {P : Program} {K : Value → World → Prop} {o : Oper} {ρ : Operand → Value} {w : World} (s x : Operand) (t : TypeId)
    (ho : o.op = .call { callee := .builtin .append, args := #[s, x], argTypes := #[t, t] })
    (base : Nat) (e : TypeId) (i : TypeInfo) (z : Value) (size bytes : Nat) (ht : P.underlying t = some (.slice e)) (hi : P.info? e = some i) (hz : i.zero = some z)
    (hsize : i.size = size) (hby : i.bytes = bytes) (hzs : z.cells.size = size) (hsz : 0 < size)
    (v : Value) (n : Nat) (xs : List Value) (hs : ρ s = v) (hown : w.ownsRow base e size v n xs)
    (ad : Addr) (m c : Nat) (news : List Value) (hx : ρ x = .slice (some ad) m c) (hl : news.length = m * size) (hnews : ∀ j u, news[j]? = some u → w.cell? (ad.add j) = some u) (h1 : ∀ u ∈ news, u.oneCell' = true)
    (hm : 0 < m) (h63 : n + m ≤ maxLen) (hbytes : (n + m) * bytes ≤ 140737488355328) (hbase : base ≤ w.heap.size) (H : Nat) (hH : w.heap.size = H)
    (h : ∀ g cap w', w'.ownsRow base e size (.slice (some ⟨g, 0, none⟩) (n + m) cap) (n + m) (xs ++ news) → w.grownBy w' v.ownBlock → (v.ownBlock = some g ∨ g = H) → g < w'.heap.size → K (.slice (some ⟨g, 0, none⟩) (n + m) cap) w') : got P K ((execOp ρ o).run P w) := by
  obtain ⟨g, cap, w', hr, h2, h3, h4, h5⟩ := run_append_lies (P := P) w t o.type base e i z size bytes ht hi hz hsize hby hzs hsz v n xs hown ad m c news hl hnews h1 hm h63 hbytes hbase H hH
  unfold execOp
  simp only [ho, resolve, invoke, builtin, Sem.run_bind, Sem.run_pure, Result.andThen_ok, List.map_toArray, List.map_cons, List.map_nil, hs, hx, hr]
  exact h g cap w' h2 h3 h4 h5

/-- What an operation may turn: the append, which fills slot s, the block of its row; all others nothing that was there. -/
def AppS (s : Tmp) (ob : Option Nat) : ReachU := fun d w w' => if d = some s then w.grownBy w' ob else Below w.heap.size w w'

theorem appS_below {s : Tmp} {ob : Option Nat} {d : Option Tmp} {w w' : World} (hd : d ≠ some s) (h : AppS s ob d w w') : Below w.heap.size w w' := by
  unfold AppS at h
  rw [if_neg hd] at h
  exact h

theorem appS_refl {s : Tmp} {ob : Option Nat} {d : Option Tmp} (hd : d ≠ some s) (w : World) : AppS s ob d w w := by
  unfold AppS
  rw [if_neg hd]
  exact Below.refl _ _

theorem appS_alloc {s : Tmp} {ob : Option Nat} {d : Option Tmp} (hd : d ≠ some s) (w : World) (o : Obj) : AppS s ob d w (w.alloc o) := by
  unfold AppS
  rw [if_neg hd]
  exact (Below.refl _ _).alloc (Nat.le_refl _) _

theorem appS_grown {s : Tmp} {ob : Option Nat} {w w' : World} (h : w.grownBy w' ob) : AppS s ob (some s) w w' := by
  unfold AppS
  rw [if_pos rfl]
  exact h

theorem grown_of_below {w w' : World} (h : Below w.heap.size w w') (ob : Option Nat) : w.grownBy w' ob := ⟨h.os, h.tape, h.output, h.size, fun k hk _ => h.block k hk⟩

theorem appS_any {s : Tmp} {ob : Option Nat} {d : Option Tmp} {w w' : World} (h : AppS s ob d w w') : w.grownBy w' ob := by
  by_cases hd : d = some s
  · unfold AppS at h
    rw [if_pos hd] at h
    exact h
  · exact grown_of_below (appS_below hd h) ob

theorem grown_trans {w w' w2 : World} {ob : Option Nat} (h : w.grownBy w' ob) (h' : w'.grownBy w2 ob) : w.grownBy w2 ob :=
  ⟨h'.os.trans h.os, h'.tape.trans h.tape, h'.output.trans h.output, Nat.le_trans h.size h'.size, fun k hk hn => (h'.block k (Nat.lt_of_lt_of_le hk h.size) hn).trans (h.block k hk hn)⟩

theorem grown_set (w : World) (b o : Nat) (v : Value) : w.grownBy (w.setCell ⟨b, o, none⟩ v) (some b) := by
  refine ⟨rfl, rfl, rfl, by simp, fun k hk hne => ?_⟩
  have : b ≠ k := fun e => hne (by rw [e])
  simp [World.setCell, Array.getElem?_modify, this]

end Go.Proofs.Ythlkdlknkbigkaa

/- The specification's VecJoin. -/
namespace Go.Proofs.Ythlkdlknkbigkaa
open Go.ChangeShapes Go.WideShapes Go.ChangeAt Go.RowKit Go.Joins
attribute [local go_sem ↓] Go.wp_at_zero Go.wp_at_succ

theorem cells_one {w : World} {b t : Nat} {v : Value} (h : w.heap[b]? = some (.cells #[v] t (0, 0))) : w.cell? ⟨b, 0, none⟩ = some v ∧ (∀ o, w.frozen? ⟨b, o, none⟩ = false) ∧ b < w.heap.size :=
  ⟨by rw [cell_of_row w b 0 _ t (0, 0) h]; rfl, fun o => frozen_of_row w b o _ t h, (Array.getElem?_eq_some_iff.1 h).1⟩

theorem zip_take (xs ys : List Int) (k : Nat) (hx : k < xs.length) (hy : k < ys.length) : (List.zipWith max xs ys).take (k + 1) = (List.zipWith max xs ys).take k ++ [max (xs.getD k 0) (ys.getD k 0)] := by
  rw [List.take_add_one, List.getElem?_eq_getElem (by simp; omega)]
  simp [List.getD, hx, hy]

theorem heap_four (w : World) (o1 o2 o3 o4 : Obj) : ((((w.alloc o1).alloc o2).alloc o3).alloc o4).heap[w.heap.size]? = some o1 ∧ ((((w.alloc o1).alloc o2).alloc o3).alloc o4).heap[w.heap.size + 1]? = some o2 ∧ ((((w.alloc o1).alloc o2).alloc o3).alloc o4).heap[w.heap.size + 1 + 1]? = some o3 ∧ ((((w.alloc o1).alloc o2).alloc o3).alloc o4).heap[w.heap.size + 1 + 1 + 1]? = some o4 := by
  refine ⟨?_, ?_, ?_, ?_⟩
  · rw [Below.heap_alloc _ _ _ (by simp; omega), Below.heap_alloc _ _ _ (by simp; omega), Below.heap_alloc _ _ _ (by simp)]
    exact heap_alloc_new w o1
  · rw [Below.heap_alloc _ _ _ (by simp), Below.heap_alloc _ _ _ (by simp)]
    have := heap_alloc_new (w.alloc o1) o2
    simpa using this
  · rw [Below.heap_alloc _ _ _ (by simp)]
    have := heap_alloc_new ((w.alloc o1).alloc o2) o3
    simpa using this
  · have := heap_alloc_new (((w.alloc o1).alloc o2).alloc o3) o4
    simpa using this

/-- A new number of one's own. -/
def OneI (ob : Option Nat) (z : Int) : Fact := fun v w => ∃ g', v = .slice (some ⟨g', 0, none⟩) 1 1 ∧ g' < w.heap.size ∧ ob ≠ some g' ∧ ∀ j u, ([intV z] : List Value)[j]? = some u → w.cell? ((⟨g', 0, none⟩ : Addr).add j) = some u

theorem lasts_oneI (z : Tmp) (U : Tmp → Option Tmp) (dst : Option Tmp) (ob : Option Nat) (d : Int) : lastsU U (AppS z ob) dst (OneI ob d) := by
  rintro d' _ _ v w w' ⟨g', h1, h2, h3, h4⟩ hr
  have hG := appS_any hr
  have hb : w'.heap[g']? = w.heap[g']? := hG.block g' h2 fun e => h3 e.symm
  exact ⟨g', h1, Nat.lt_of_lt_of_le h2 hG.size, h3, fun j u hu => (World.cell?_of_block (a := (⟨g', 0, none⟩ : Addr).add j) (by rw [add_block]; exact hb)).trans (h4 j u hu)⟩

/-- A row of numbers that has grown by one. -/
def RowF (base k : Nat) (zs : List Int) : Fact := fun v w => ∃ g c, v = .slice (some ⟨g, 0, none⟩) (k + 1) c ∧ RowI w base (.slice (some ⟨g, 0, none⟩) (k + 1) c) zs

theorem lasts_rowF (z : Tmp) (U : Tmp → Option Tmp) (ob : Option Nat) (base k : Nat) (zs : List Int) : lastsU U (AppS z ob) (some z) (RowF base k zs) := by
  rintro d' hd _ v w w' ⟨g3, cp3, h1, h2⟩ hr
  exact ⟨g3, cp3, h1, h2.below (appS_below hd hr)⟩

end Go.Proofs.Ythlkdlknkbigkaa

/- The specification's VecTick. -/
namespace Go.Proofs.Ythlkdlknkbigkaa
open Go.ChangeShapes Go.WideShapes Go.ChangeAt Go.RowKit Go.Joins
attribute [local go_sem ↓] Go.wp_at_zero Go.wp_at_succ

theorem add_at (b o j : Nat) : ((⟨b, o, none⟩ : Addr).add j) = ⟨b, o + j, none⟩ := by
  unfold Addr.add
  split
  · rename_i h
    rw [h]
    rfl
  · rfl

theorem isIs_row {w : World} {b o : Nat} {ys : List Int} (hh : ∀ i, i < ys.length → w.cell? ⟨b, o + i, none⟩ = some (.int .i64 (ys.getD i 0))) : ∀ j u, (ys.map intV)[j]? = some u → w.cell? ((⟨b, o, none⟩ : Addr).add j) = some u := by
  intro j u hu
  have hj : j < ys.length := by
    have := (List.getElem?_eq_some_iff.1 hu).1
    simpa using this
  rw [add_at, hh j hj, ← hu]
  simp [intV, List.getD, hj]

theorem IsIs.all {w w' : World} {b o : Nat} {zs : List Int} (h : IsIs w (some ⟨b, o, none⟩) zs) (hb : Below w.heap.size w w') : ∀ i, i < zs.length → w'.cell? ⟨b, o + i, none⟩ = some (.int .i64 (zs.getD i 0)) := by
  intro i hi
  obtain ⟨_, _, he, -, e⟩ := h.at hb hi
  injection he with he
  injection he with he1 he2
  subst he1 he2
  exact e

/-- A row of one's own in which one number is set. -/
theorem RowI.set {w : World} {base g n cap : Nat} {zs : List Int} (h : RowI w base (.slice (some ⟨g, 0, none⟩) n cap) zs) (hl : zs.length = n) (q : Nat) (z : Int) : OwnI (w.setCell ⟨g, q, none⟩ (.int .i64 z)) base (w.setCell ⟨g, q, none⟩ (.int .i64 z)).heap.size (some ⟨g, 0, none⟩) (zs.set q z) := by
  obtain ⟨a', c', e, ho⟩ := h.form
  injection e with e1 e2 e3
  subst e1
  rcases ho with h0 | ⟨b, hb, h1, h2, h3, h4, h5⟩
  · subst h0
    exact .inl (by simp)
  · injection hb with hb
    injection hb with hb
    subst hb
    refine .inr ⟨g, rfl, h1, by simpa using h2, by simpa using h3, fun i hi => ?_, fun o => by rw [World.frozen?_setCell]; exact h5 o⟩
    rw [List.length_set] at hi
    by_cases hq : i = q
    · subst hq
      rw [World.cell?_setCell_same _ _ _ (h4 i hi)]
      simp [List.getD, hi]
    · rw [World.cell?_setCell_other _ _ _ _ (by intro e; injection e with e1 e2; exact hq e2.symm), h4 i hi]
      simp [List.getD, Ne.symm hq]

end Go.Proofs.Ythlkdlknkbigkaa

/- The specification's VecCmp. -/
namespace Go.Proofs.Ythlkdlknkbigkaa
open Go.ChangeShapes Go.WideShapes Go.ChangeAt Go.RowKit Go.Joins
attribute [local go_sem ↓] Go.wp_at_zero Go.wp_at_succ

theorem IsIs.cell {w w' : World} {a : Option Addr} {zs : List Int} {b o : Nat} (h : IsIs w a zs) (ha : a = some ⟨b, o, none⟩) (hb : Below w.heap.size w w') {k : Nat} (hk : k < zs.length) : w'.cell? ⟨b, o + k, none⟩ = some (.int .i64 (zs.getD k 0)) := by
  subst ha
  exact h.all hb k hk

end Go.Proofs.Ythlkdlknkbigkaa

/- The specification's MayCome. -/
namespace Go.Proofs.Ythlkdlknkbigkaa
open Go.ChangeShapes Go.WideShapes Go.ChangeAt Go.RowKit Go.Joins
attribute [local go_sem ↓] Go.wp_at_zero Go.wp_at_succ

theorem vecB_rng {xs : List Int} (h : vecB xs = true) {k : Nat} (hk : k < 4) : 0 ≤ xs.getD k 0 ∧ xs.getD k 0 ≤ 1000000 := by
  obtain ⟨x0, x1, x2, x3, rfl, h0, h1, h2, h3⟩ := vecB_four h
  match k, hk with
  | 0, _ => exact h0
  | 1, _ => exact h1
  | 2, _ => exact h2
  | 3, _ => exact h3

theorem mayAt_le (xs ys : List Int) (q : Nat) {k n : Nat} (h : k ≤ n) (hb : mayAt xs ys q k = false) : mayAt xs ys q n = false := by
  unfold mayAt at *
  rw [List.all_eq_false] at *
  obtain ⟨i, hi, hm⟩ := hb
  exact ⟨i, List.mem_range.2 (Nat.lt_of_lt_of_le (List.mem_range.1 hi) h), hm⟩

end Go.Proofs.Ythlkdlknkbigkaa

/- What the laws' walks over vectors carry: facts of slots in regions that draw their order, and what stays while a list is marked. -/
namespace Go.Proofs.Ythlkdlknkbigkaa
open Go.ChangeShapes Go.WideShapes Go.ChangeAt Go.RowKit Go.Joins

def LowR (w w' : World) : Prop := Below w.heap.size w w'

theorem lowR_refl (w : World) : LowR w w := Below.refl _ _

/-- A vector of one's own. -/
def VecF (B n : Nat) (zs : List Int) : Fact := fun v w => ∃ g, v = vecV (some ⟨g, 0, none⟩) n n ∧ OwnI w B w.heap.size (some ⟨g, 0, none⟩) zs

theorem lasts_vecF (B n : Nat) (zs : List Int) : lasts LowR (VecF B n zs) := by
  rintro v w w' ⟨g, h1, h2⟩ hr
  exact ⟨g, h1, (h2.below hr).wider (Nat.le_refl _) hr.size⟩

/-- A vector that is answered. -/
def AnsF (B : Nat) (zs : List Int) : Fact := fun v w => ∃ g cp, v = vecV g zs.length cp ∧ OwnI w B w.heap.size g zs

theorem lasts_ansF (B : Nat) (zs : List Int) : lasts LowR (AnsF B zs) := by
  rintro v w w' ⟨g, cp, h1, h2⟩ hr
  exact ⟨g, cp, h1, (h2.below hr).wider (Nat.le_refl _) hr.size⟩

theorem cell_marked {S : Nat → Prop} {w w' : World} {o : Obj} {b j : Nat} {v : Value} (ho : Only S (w.alloc o) w') (hb : b < w.heap.size) (hS : ¬ S b) (h : w.cell? ⟨b, j, none⟩ = some v) : w'.cell? ⟨b, j, none⟩ = some v := by
  have h1 : (w.alloc o).cell? ⟨b, j, none⟩ = some v := (((Below.refl _ _).alloc (Nat.le_refl _) o).cell (p := ⟨b, j, none⟩) hb).trans h
  exact (World.cell?_of_block (a := ⟨b, j, none⟩) (ho.block b hS)).trans h1

theorem lt_marked {S : Nat → Prop} {w w' : World} {o : Obj} (ho : Only S (w.alloc o) w') : w.heap.size < w'.heap.size := by
  rw [ho.size]
  simp

theorem low_marked {S : Nat → Prop} {w w' : World} {o : Obj} {B : Nat} (ho : Only S (w.alloc o) w') (hB : B ≤ w.heap.size) (hS : ∀ x, S x → B ≤ x) : Below B w w' :=
  ((Below.refl _ _).alloc hB o).trans (ho.below hS)

theorem own_marked {S : Nat → Prop} {w w' : World} {o : Obj} {lo hi : Nat} {a : Option Addr} {zs : List Int} (ho : Only S (w.alloc o) w') (h : OwnI w lo hi a zs) (hS : ∀ x, S x → x < lo ∨ hi ≤ x) : OwnI w' lo hi a zs := by
  rcases h.below ((Below.refl _ _).alloc (Nat.le_refl _) o) with h | ⟨b, ha, h1, h2, hlt, hh, hf⟩
  · exact .inl h
  · have hb : w'.heap[b]? = (w.alloc o).heap[b]? := ho.block b fun e => by have := hS b e; omega
    exact .inr ⟨b, ha, h1, h2, by rw [ho.size]; exact hlt, fun i hi => (World.cell?_of_block (a := ⟨b, i, none⟩) hb).trans (hh i hi), fun o => (ho.frozen _).trans (hf o)⟩

theorem own_out {w : World} {lo hi b : Nat} {a : Option Addr} {zs : List Int} (h : OwnI w lo hi a zs) (hb : b < lo ∨ hi ≤ b) (v : Value) : OwnI (w.setCell ⟨b, 0, none⟩ v) lo hi a zs := by
  rcases h with h | ⟨c, ha, h1, h2, hlt, hh, hf⟩
  · exact .inl h
  · refine .inr ⟨c, ha, h1, h2, by simpa using hlt, fun i hi => (World.cell?_setCell_other _ _ _ _ (fun e => ?_)).trans (hh i hi), fun o => by rw [World.frozen?_setCell]; exact hf o⟩
    have : b = c := by injection e
    omega

theorem mk_lt {w : World} {a : Option Addr} {n : Nat} {k : Int} (h : MarkedI w a n k) : ∀ c, a = some ⟨c, 0, none⟩ → n ≠ 0 → c < w.heap.size := by
  intro c hc hn
  rcases h with h | ⟨b, hb, hlt, -⟩
  · exact absurd h hn
  · rw [hc] at hb
    injection hb with hb
    injection hb with hb
    rw [hb]
    exact hlt

theorem mk_out {w : World} {b B : Nat} {a : Option Addr} {n : Nat} {k : Int} (h : MarkedI w a n k) (hl : ∀ c, a = some ⟨c, 0, none⟩ → n ≠ 0 → c < B) (hb : B ≤ b) (v : Value) : MarkedI (w.setCell ⟨b, 0, none⟩ v) a n k := by
  rcases h with h | ⟨c, hc, hlt, hcs⟩
  · exact .inl h
  · by_cases hn : n = 0
    · exact .inl hn
    · have := hl c hc hn
      exact .inr ⟨c, hc, by simpa using hlt, hcs.of_block (Below.heap_setCell _ _ _ _ (by show c ≠ b; omega))⟩

theorem low_drop {w w' : World} {B b : Nat} (h : Below B w w') (hb : B ≤ b) (v : Value) : Below B w (w'.setCell ⟨b, 0, none⟩ v) := h.setCell (p := ⟨b, 0, none⟩) hb v

theorem joinV_len (xs ys : List Int) : (joinV xs ys).length ≤ 4 := by
  unfold joinV
  split
  · rename_i h
    rw [Bool.and_eq_true] at h
    obtain ⟨x0, x1, x2, x3, rfl, -⟩ := vecB_four h.1
    simp
    omega
  · simp

theorem tickV_len (xs : List Int) (si : Int) : (tickV xs si).length ≤ 4 := by
  unfold tickV tickOk
  split
  · rename_i h
    rw [Bool.and_eq_true] at h
    obtain ⟨x0, x1, x2, x3, rfl, -⟩ := vecB_four h.1
    simp
  · simp

end Go.Proofs.Ythlkdlknkbigkaa

/- A region that draws its order, as in Slots, where some operations hand over new rows: the blocks of any two of them differ, whichever came first. No Go text in sight. -/
namespace Go.Proofs.Ythlkdlknkbigkaa

/-- The rows that the slots of 'isN' hold are told apart, and lie in the world. -/
def PairB (isN : Tmp → Bool) (a : Act) (w : World) : Prop := ∀ x, isN x = true → ∀ g, (a.eval (.tmp x)).ownBlock = some g → g < w.heap.size ∧ ∀ y, isN y = true → y ≠ x → (a.eval (.tmp y)).ownBlock ≠ some g

def NewV (w : World) (v : Value) (w' : World) : Prop := w.heap.size ≤ w'.heap.size ∧ ∀ g, v.ownBlock = some g → w.heap.size ≤ g ∧ g < w'.heap.size

theorem pair_keep {isN : Tmp → Bool} {a : Act} {w w' : World} {d : Option Tmp} {v : Value} (h : PairB isN a w) (hd : ∀ x, d = some x → isN x = false) (hs : w.heap.size ≤ w'.heap.size) : PairB isN (a.put d v) w' := by
  have e : ∀ x, isN x = true → (a.put d v).eval (.tmp x) = a.eval (.tmp x) := fun x hx => put_off a d x v fun hd' => by
    have := hd x hd'
    rw [hx] at this
    cases this
  intro x hx g hg
  rw [e x hx] at hg
  obtain ⟨h1, h2⟩ := h x hx g hg
  exact ⟨Nat.lt_of_lt_of_le h1 hs, fun y hy hne => by rw [e y hy]; exact h2 y hy hne⟩

theorem pair_new {isN : Tmp → Bool} {a : Act} {w w' : World} {d : Tmp} {v : Value} (hl : d < a.tmps.size) (h : PairB isN a w) (hn : NewV w v w') : PairB isN (a.put (some d) v) w' := by
  intro x hx g hg
  by_cases hxd : d = x
  · subst hxd
    rw [put_at _ _ _ hl] at hg
    obtain ⟨h1, h2⟩ := hn.2 g hg
    refine ⟨h2, fun y hy hne => ?_⟩
    rw [put_off a (some d) y v (fun e => hne (by injection e with e; exact e.symm))]
    intro hgy
    have := (h y hy g hgy).1
    omega
  · rw [put_off a (some d) x v (fun e => hxd (by injection e))] at hg
    obtain ⟨h1, h2⟩ := h x hx g hg
    refine ⟨Nat.lt_of_lt_of_le h1 hn.1, fun y hy hne => ?_⟩
    by_cases hyd : d = y
    · subst hyd
      rw [put_at _ _ _ hl]
      intro hgy
      have := (hn.2 g hgy).1
      omega
    · rw [put_off a (some d) y v (fun e => hyd (by injection e))]
      exact h2 y hy hne

def oblP (P : Program) (a0 : Act) (S : Act → World → Prop) (R : World → World → Prop) (n : List (Tmp × Bool)) (o : Oper) (Ts : Facts) (T : Fact) : Prop :=
  ∀ a w, a.tmps.size = a0.tmps.size → S a w → needs Ts a0 a.eval w n → got P (fun v w' => R w w' ∧ T v w' ∧ S (a.put o.dst v) w') ((execOp a.eval o).run P w)

def wpSlotsP (P : Program) (a0 : Act) (S : Act → World → Prop) (R : World → World → Prop) (Fin : Facts → Prop) : List (List (Tmp × Bool)) → List Oper → Facts → Prop
  | n :: N, o :: l, Ts => ∃ T : Fact, lasts R T ∧ oblP P a0 S R n o Ts T ∧ wpSlotsP P a0 S R Fin N l (addFact o T Ts)
  | [], [], Ts => Fin Ts
  | _, _, _ => False

theorem collectP {P : Program} {a0 : Act} {S : Act → World → Prop} {R : World → World → Prop} {Fin : Facts → Prop} : ∀ (N : List (List (Tmp × Bool))) (l : List Oper) (Ts : Facts), wpSlotsP P a0 S R Fin N l Ts → distB l (Ts.map (·.1)) = true →
    ∃ Tf, Fin Tf ∧ (∀ x p, Ts.lookup x = some p → Tf.lookup x = some p) ∧ (∀ d p, (d, p) ∈ Tf → (d, p) ∈ Ts ∨ (Tf.lookup d = some p ∧ ∃ (k : Nat) (o : Oper), l[k]? = some o ∧ o.dst = some d)) ∧ ∀ (k : Nat) (n : List (Tmp × Bool)) (o : Oper), N[k]? = some n → l[k]? = some o → ∃ T : Fact, lasts R T ∧ oblP P a0 S R n o Tf T ∧ ∀ d, o.dst = some d → Tf.lookup d = some T
  | [], [], Ts, h, _ => ⟨Ts, h, fun _ _ h => h, fun _ _ h => .inl h, fun k n o hn _ => by simp at hn⟩
  | [], _ :: _, _, h, _ => h.elim
  | _ :: _, [], _, h, _ => h.elim
  | n :: N, o :: l, Ts, h, hd => by
    obtain ⟨T, hl, ho, hrest⟩ := h
    have hsub : ∀ x p, Ts.lookup x = some p → (addFact o T Ts).lookup x = some p := by
      intro x p hx
      unfold addFact
      cases hod : o.dst with
      | none => exact hx
      | some d =>
        simp only [distB, hod, Bool.and_eq_true, Bool.not_eq_true'] at hd
        have hne : x ≠ d := fun e => by rw [e, lookup_none_of hd.1] at hx; cases hx
        rw [List.lookup_cons, beq_eq_false_iff_ne.2 hne]
        exact hx
    have hd' : distB l ((addFact o T Ts).map (·.1)) = true := by
      unfold addFact
      cases hod : o.dst with
      | none => simpa [distB, hod] using hd
      | some d =>
        simp only [distB, hod, Bool.and_eq_true] at hd
        simpa using hd.2
    obtain ⟨Tf, hfin, hmono, hmem, hall⟩ := collectP N l (addFact o T Ts) hrest hd'
    have hhead : ∀ d, o.dst = some d → Tf.lookup d = some T := fun d hod => hmono d T (by unfold addFact; rw [hod]; simp)
    refine ⟨Tf, hfin, fun x p hx => hmono x p (hsub x p hx), fun d p hdp => ?_, fun k n' o' hn ho' => ?_⟩
    · rcases hmem d p hdp with h1 | ⟨h1, k, o', hk, hod⟩
      · unfold addFact at h1
        cases hod : o.dst with
        | none => rw [hod] at h1; exact .inl h1
        | some d' =>
          rw [hod] at h1
          rcases List.mem_cons.1 h1 with h2 | h2
          · obtain ⟨rfl, rfl⟩ := Prod.mk.inj h2
            exact .inr ⟨hhead _ hod, 0, o, rfl, hod⟩
          · exact .inl h2
      · exact .inr ⟨h1, k + 1, o', by simpa using hk, hod⟩
    cases k with
    | zero =>
      simp only [List.getElem?_cons_zero, Option.some.injEq] at hn ho'
      subst hn ho'
      refine ⟨T, hl, fun a w hp hS hn => ho a w hp hS (needs_mono (fun x p hx => hmono x p (hsub x p hx)) hn), hhead⟩
    | succ k =>
      exact hall k n' o' (by simpa using hn) (by simpa using ho')

structure InvP (ops : Array Oper) (a0 : Act) (S : Act → World → Prop) (Tf : Facts) (listed : Array Bool) (a : Act) (w : World) : Prop where
  size : listed.size = ops.size
  ok : S a w
  defers : a.defers = a0.defers
  len : a.tmps.size = a0.tmps.size
  down : ∀ i o, ops[i]? = some o → listed.getD i false = true → ∀ e ∈ o.after, Region.binds .any e = true → listed.getD e.on false = true
  fresh : ∀ i o d p, ops[i]? = some o → listed.getD i false = true → o.dst = some d → Tf.lookup d = some p → p (a.eval (.tmp d)) w
  old : ∀ x, (∀ i o, ops[i]? = some o → listed.getD i false = true → o.dst ≠ some x) → a.eval (.tmp x) = a0.eval (.tmp x)

theorem needs_ofP {ops : Array Oper} {a0 : Act} {S : Act → World → Prop} {Tf : Facts} {listed : Array Bool} {a : Act} {w : World} (hI : InvP ops a0 S Tf listed a w) {j : Nat} {o : Oper} (hj : ops[j]? = some o) (hun : listed.getD j false = false)
    (hall : ∀ e ∈ o.after, Region.binds .any e = true → listed.getD e.on false = true) : ∀ (n : List (Tmp × Bool)), tabRowB ops j o n = true → needs0 Tf a0 a.eval w n
  | [], _ => trivial
  | (x, true) :: r, h => by
    simp only [tabRowB, Bool.and_eq_true] at h
    refine ⟨?_, needs_ofP hI hj hun hall r h.2⟩
    cases hl : Tf.lookup x with
    | none => trivial
    | some p =>
      obtain ⟨e, he, hb⟩ := Array.any_eq_true'.1 h.1
      simp only [Bool.and_eq_true, beq_iff_eq] at hb
      obtain ⟨oi, hoi, hdi⟩ := Option.bind_eq_some_iff.1 hb.2
      exact hI.fresh e.on oi x p hoi (hall e he hb.1) hdi hl
  | (x, false) :: r, h => by
    simp only [tabRowB, Bool.and_eq_true] at h
    refine ⟨hI.old x fun i oi hoi hli hdi => ?_, needs_ofP hI hj hun hall r h.2⟩
    have hlt : i < ops.size := (Array.getElem?_eq_some_iff.1 hoi).1
    have h1 := List.all_eq_true.1 h.1 i (List.mem_range.2 hlt)
    simp only [hoi, hdi, beq_self_eq_true, Bool.not_true, Bool.false_or, Bool.or_eq_true, beq_iff_eq] at h1
    rcases h1 with rfl | hw
    · rw [hun] at hli
      cases hli
    · obtain ⟨e, he, hb⟩ := Array.any_eq_true'.1 hw
      simp only [Bool.and_eq_true, beq_iff_eq] at hb
      have := hI.down i oi hoi hli e he hb.1
      rw [hb.2, hun] at this
      cases this

theorem inv_stepP {ops : Array Oper} {a0 : Act} {S S' : Act → World → Prop} {R : World → World → Prop} {Tf : Facts} (hl : ∀ d p, Tf.lookup d = some p → lasts R p)
    (hbd : ∀ (i : Nat) (o : Oper) (d : Tmp), ops[i]? = some o → o.dst = some d → d < a0.tmps.size) {listed : Array Bool} {a : Act} {w w' : World} (hI : InvP ops a0 S Tf listed a w) {j : Nat} {o : Oper} (hj : ops[j]? = some o)
    (hall : ∀ e ∈ o.after, Region.binds .any e = true → listed.getD e.on false = true) {T : Fact} (hT : ∀ d, o.dst = some d → Tf.lookup d = some T) {v : Value} (hR : R w w') (hv : T v w') (hS : S' (a.put o.dst v) w') :
    InvP ops a0 S' Tf (listed.setIfInBounds j true) (a.put o.dst v) w' where
  size := by simpa using hI.size
  ok := hS
  defers := (put_def _ _ _).trans hI.defers
  len := (putA_len _ _ _).trans hI.len
  down := by
    intro i oi hoi hli e he hb
    by_cases hij : j = i
    · subst hij
      obtain rfl := Option.some.inj (hj.symm.trans hoi)
      exact getD_set_true (hall e he hb)
    · rw [getD_set_ne false hij] at hli
      exact getD_set_true (hI.down i oi hoi hli e he hb)
  fresh := by
    intro i oi d p hoi hli hdi hp
    by_cases hd : o.dst = some d
    · rw [hd, put_at _ _ _ (by rw [hI.len]; exact hbd j o d hj hd)]
      obtain rfl := Option.some.inj ((hT d hd).symm.trans hp)
      exact hv
    · have hij : j ≠ i := fun e => by
        subst e
        obtain rfl := Option.some.inj (hj.symm.trans hoi)
        exact hd hdi
      rw [getD_set_ne false hij] at hli
      rw [put_off _ _ _ _ hd]
      exact hl d p hp _ _ _ (hI.fresh i oi d p hoi hli hdi hp) hR
  old := by
    intro x hx
    have hd : o.dst ≠ some x := hx j o hj (by
      have hlt : j < listed.size := by rw [hI.size]; exact (Array.getElem?_eq_some_iff.1 hj).1
      simp [hlt])
    rw [put_off _ _ _ _ hd]
    exact hI.old x fun i oi hoi hli => hx i oi hoi (getD_set_true hli)

/-- Whatever order is picked. -/
theorem any_slotsP {P : Program} {ops : Array Oper} {a0 : Act} {S : Act → World → Prop} {R : World → World → Prop} {Tf : Facts} {Q : Exit → Act → World → Prop} {m : Nat} (hmle : m ≤ ops.size) (hseal : sealB ops m = true) (hl : ∀ d p, Tf.lookup d = some p → lasts R p)
    (hbd : ∀ (i : Nat) (o : Oper) (d : Tmp), ops[i]? = some o → o.dst = some d → d < a0.tmps.size) (hg : ∀ (i : Nat) (o : Oper), i < m → ops[i]? = some o → o.guard = none) (hlt : ∀ (i : Nat) (o : Oper), ops[i]? = some o → ∀ e ∈ o.after, Region.binds .any e = true → e.on < i)
    (hobl : ∀ (j : Nat) (o : Oper), j < m → ops[j]? = some o → ∃ n T, tabRowB ops j o n = true ∧ oblP P a0 S R n o Tf T ∧ ∀ d, o.dst = some d → Tf.lookup d = some T)
    (hfin : ∀ a w, S a w → a.defers = a0.defers → a.tmps.size = a0.tmps.size → (∀ (i : Nat) (o : Oper) (d : Tmp) p, i < m → ops[i]? = some o → o.dst = some d → Tf.lookup d = some p → p (a.eval (.tmp d)) w) → (∀ x, (∀ (i : Nat) (o : Oper), i < m → ops[i]? = some o → o.dst ≠ some x) → a.eval (.tmp x) = a0.eval (.tmp x)) → wpList P ops Q (ops.toList.drop m) a w) :
    ∀ (fuel : Nat) (listed : Array Bool) (a : Act) (w : World), listed.toList.count false = fuel → (∀ j, m ≤ j → j < ops.size → listed.getD j true = false) → InvP ops a0 S Tf listed a w → wpAny P .any ops Q fuel listed a w := by
  intro fuel
  induction fuel with
  | zero =>
    intro listed a w hc hm2 hI
    have hno : ∀ i, i < ops.size → listed.getD i false = true := fun i hi => by
      have hi' : i < listed.size := by rw [hI.size]; exact hi
      have : listed[i] ≠ false := fun h => by
        have := List.count_eq_zero.1 hc
        exact this (by rw [← h]; simp)
      simpa [hi'] using this
    have hms : m = ops.size := by
      rcases Nat.lt_or_ge m ops.size with h' | h'
      · have h3 := hno m h'
        rw [listed_ne hI.size h' (hm2 m (Nat.le_refl _) h')] at h3
        cases h3
      · omega
    refine any_tail hseal hlt 0 m listed a w (Nat.le_refl _) (by omega) hI.size (fun j hj => hno j (by omega)) hm2 ?_
    exact hfin a w hI.ok hI.defers hI.len (fun i o d p _ ho hd hp => hI.fresh i o d p ho (hno i (Array.getElem?_eq_some_iff.1 ho).1) hd hp) (fun x hx => hI.old x fun i o ho _ => hx i o (by rw [hms]; exact (Array.getElem?_eq_some_iff.1 ho).1) ho)
  | succ fuel ih =>
    intro listed a w hc hm2 hI
    by_cases hdone : ∀ j, j < m → listed.getD j false = true
    · have hcnt := count_drop hI.size hmle hdone hm2
      refine any_tail hseal hlt (fuel + 1) m listed a w (Nat.le_refl _) (by omega) hI.size hdone hm2 ?_
      refine hfin a w hI.ok hI.defers hI.len (fun i o d p hi ho hd hp => hI.fresh i o d p ho (hdone i hi) hd hp) (fun x hx => hI.old x fun i o ho hli => ?_)
      refine hx i o ?_ ho
      rcases Nat.lt_or_ge i m with h' | h'
      · exact h'
      · have hil := (Array.getElem?_eq_some_iff.1 ho).1
        rw [listed_ne hI.size hil (hm2 i h' hil)] at hli
        cases hli
    · refine ⟨fun hr => absurd ?_ hdone, fun j hj => ?_⟩
      · -- the first that has not come up may come up
        have hall : ∀ k, k ≤ m → ∀ i, i < k → listed.getD i false = true := by
          intro k
          induction k with
          | zero => intro _ i hi; omega
          | succ k ihk =>
            intro hk i hi
            by_cases hik : i < k
            · exact ihk (by omega) i hik
            · have : i = k := by omega
              subst this
              have hi' : i < ops.size := by omega
              cases hb : listed.getD i true with
              | true =>
                have hi2 : i < listed.size := by rw [hI.size]; exact hi'
                simpa [hi2] using hb
              | false =>
                have hmem : i ∈ Region.ready .any ops listed := mem_ready.2 ⟨hb, ops[i], by simp [hi'], fun e he hbi => ihk (by omega) e.on (hlt i _ (by simp [hi']) e he hbi)⟩
                rw [hr] at hmem
                cases hmem
        exact hall m (Nat.le_refl _)
      · obtain ⟨h0, o, ho, hall⟩ := mem_ready.1 hj
        have hjlt := (Array.getElem?_eq_some_iff.1 ho).1
        have hjm : j < m := by
          rcases Nat.lt_or_ge j m with h' | h'
          · exact h'
          · exact absurd (fun i hi => sealed hseal hI.down ho h' hall (Nat.lt_of_lt_of_le hi h')) hdone
        obtain ⟨n, T, htab, hob, hT⟩ := hobl j o hjm ho
        have hun := listed_ne hI.size hjlt h0
        have hgot := hob a w hI.len hI.ok (needs_iff.2 (needs_ofP hI ho hun hall n htab))
        unfold wpOp
        simp only [ho]
        rw [if_pos (by simp [Region.wanted, hg j o hjm ho])]
        refine .inl (upon_of_got (got_mono (fun v w' ⟨hR, hv, hSv⟩ => ?_) hgot))
        have hI' := inv_stepP hl hbd hI ho hall hT hR hv hSv
        refine ih _ _ _ ?_ (fun i hi hi2 => by rw [getD_set_ne true (by omega)]; exact hm2 i hi hi2) hI'
        have hcs := count_set (by rw [hI.size]; exact hjlt) h0
        omega

/-- THE LAW: the first operations 'l' in whatever order; those behind them ('r'), each of which waits for all ahead of it, in the order of the text. -/
theorem wp_region_slotsP {P : Program} {id : Nat} {Q : Exit → Act → World → Prop} {a0 : Act} {w0 : World} {all : List Oper} (m : Nat) (N : List (List (Tmp × Bool))) (S : Act → World → Prop) (R : World → World → Prop)
    (hm : P.follows .mixedOrders = true) (hB : tidyB all.toArray m N = true) (hz : (all.all fun o => match o.dst with | some d => decide (d < a0.tmps.size) | none => true) = true)
    (h0 : S a0 w0.drew)
    (h : wpSlotsP P a0 S R (fun Ts => ∀ vs w, S (putAll vs (all.take m) a0) w → factsAt vs w Ts → wpList P all.toArray Q (all.drop m) (putAll vs (all.take m) a0) w) N (all.take m) []) : (Code.region id all.toArray true).wp P Q a0 w0 := by
  simp only [tidyB, Bool.and_eq_true, beq_iff_eq, decide_eq_true_eq] at hB
  obtain ⟨⟨⟨⟨⟨hdist, hguard⟩, hlen⟩, hmle⟩, hseal⟩, htab⟩ := hB
  have hops : ∀ (i : Nat) (o : Oper), all.toArray[i]? = some o → all[i]? = some o := fun i o h => by simpa using h
  have hmemo : ∀ (i : Nat) (o : Oper), all.toArray[i]? = some o → o ∈ all := fun i o h => List.mem_of_getElem? (hops i o h)
  have htk : ∀ (i : Nat) (o : Oper), i < m → all.toArray[i]? = some o → (all.take m)[i]? = some o := fun i o hi h => by rw [List.getElem?_take_of_lt hi]; exact hops i o h
  have hbd : ∀ (i : Nat) (o : Oper) (d : Tmp), all.toArray[i]? = some o → o.dst = some d → d < a0.tmps.size := fun i o d ho hd => by
    have := List.all_eq_true.1 hz o (hmemo i o ho)
    simpa [hd] using this
  obtain ⟨Tf, hfin, _, hmem, hall⟩ := collectP N (all.take m) [] h (by simpa using hdist)
  have hrow : ∀ (j : Nat) (o : Oper), all.toArray[j]? = some o → (∀ e ∈ o.after, Region.binds .any e = true → e.on < j) ∧ (j < m → ∃ n, N[j]? = some n ∧ tabRowB all.toArray j o n = true) := fun j o ho => by
    have hj := (Array.getElem?_eq_some_iff.1 ho).1
    have h1 := List.all_eq_true.1 htab j (List.mem_range.2 hj)
    rw [ho] at h1
    simp only [Bool.and_eq_true] at h1
    refine ⟨fun e he hb => ?_, fun hjm => ?_⟩
    · have h2 := Array.all_eq_true'.1 h1.1 e he
      simpa [hb] using h2
    · have hjN : j < N.length := by rw [hlen]; exact hjm
      have h2 := h1.2
      rw [List.getElem?_eq_getElem hjN] at h2
      exact ⟨_, List.getElem?_eq_getElem hjN, h2⟩
  have hback : ∀ (k : Nat) (o : Oper), (all.take m)[k]? = some o → k < m ∧ all.toArray[k]? = some o := fun k o hk => by
    have hkl := (List.getElem?_eq_some_iff.1 hk).1
    have hkm : k < m := by
      rw [List.length_take] at hkl
      omega
    rw [List.getElem?_take_of_lt hkm] at hk
    exact ⟨hkm, by simpa using hk⟩
  refine wp_region_any hm ?_
  refine any_slotsP (m := m) (Tf := Tf) (a0 := a0) (S := S) (R := R) hmle hseal (fun d p hp => ?_) hbd (fun i o hi ho => ?_) (fun i o ho => (hrow i o ho).1) (fun j o hj ho => ?_) (fun a w hSw hdef hsz hfr hold => ?_) _ _ _ _ ?_ ?_ ?_
  · -- each fact lasts
    rcases hmem d p (lookup_mem hp) with h1 | ⟨_, k, o, hk, hod⟩
    · cases h1
    · obtain ⟨hkm, hk'⟩ := hback k o hk
      obtain ⟨n, hn, _⟩ := (hrow k o hk').2 hkm
      obtain ⟨T, hT, _, hT2⟩ := hall k n o hn hk
      obtain rfl := Option.some.inj ((hT2 d hod).symm.trans hp)
      exact hT
  · have := List.all_eq_true.1 hguard o (List.mem_of_getElem? (htk i o hi ho))
    simpa using this
  · obtain ⟨n, hn, h1⟩ := (hrow j o ho).2 hj
    obtain ⟨T, _, hT1, hT2⟩ := hall j n o hn (htk j o hj ho)
    exact ⟨n, T, h1, hT1, hT2⟩
  · obtain ⟨p1, p2, p3⟩ := putAll_spec (fun d => a.eval (.tmp d)) (all.take m) a0 (fun o ho d hd => by
      obtain ⟨i, hi, he⟩ := List.getElem_of_mem ho
      obtain ⟨_, hi'⟩ := hback i o (by rw [List.getElem?_eq_getElem hi, he])
      exact hbd i o d hi' hd)
    have e : a = putAll (fun d => a.eval (.tmp d)) (all.take m) a0 := by
      refine act_ext (hdef.trans p1.symm) (hsz.trans p2.symm) fun x => ?_
      by_cases hx : ∃ o ∈ all.take m, o.dst = some x
      · exact ((p3 x).1 hx).symm
      · rw [(p3 x).2 hx]
        exact hold x fun i o hi ho hd => hx ⟨o, List.mem_of_getElem? (htk i o hi ho), hd⟩
    have hSw' : S (putAll (fun d => a.eval (.tmp d)) (all.take m) a0) w := by rw [← e]; exact hSw
    rw [e]
    refine hfin _ w hSw' (factsAt_of fun d p hdp => ?_)
    rcases hmem d p hdp with h1 | ⟨hlk, k, o, hk, hod⟩
    · cases h1
    · obtain ⟨hkm, hk'⟩ := hback k o hk
      exact hfr k o d p hkm hk' hod hlk
  · simp
  · intro j _ hj
    simp at hj
    simp [hj]
  · refine ⟨by simp, by simpa using h0, rfl, rfl, fun i o ho hli => ?_, fun i o d p ho hli => ?_, fun x _ => rfl⟩
    · rw [rep_false] at hli
      cases hli
    · rw [rep_false] at hli
      cases hli

/-- What an operation that hands over no row owes: as in Slots. -/
theorem slotP_fact {P : Program} {a0 : Act} {SW : World → Prop} {isN : Tmp → Bool} {R : World → World → Prop} {Fin : Facts → Prop} {n : List (Tmp × Bool)} {N : List (List (Tmp × Bool))} {o : Oper} {l : List Oper} {Ts : Facts} (T : Fact) (hT : lasts R T) (hd : ∀ x, o.dst = some x → isN x = false) (hW : ∀ w w', SW w → R w w' → SW w') (hR : ∀ w w', R w w' → w.heap.size ≤ w'.heap.size)
    (h : obl P a0 SW R n o Ts T) (hr : wpSlotsP P a0 (fun a w => SW w ∧ PairB isN a w) R Fin N l (addFact o T Ts)) : wpSlotsP P a0 (fun a w => SW w ∧ PairB isN a w) R Fin (n :: N) (o :: l) Ts :=
  ⟨T, hT, fun a w _ hS hn => got_mono (fun _ w' ⟨h1, h2⟩ => ⟨h1, h2, hW w w' hS.1 h1, pair_keep hS.2 hd (hR w w' h1)⟩) (h a.eval w (plain_eval a) hS.1 hn), hr⟩

theorem slotP_eq {P : Program} {a0 : Act} {SW : World → Prop} {isN : Tmp → Bool} {R : World → World → Prop} {Fin : Facts → Prop} {n : List (Tmp × Bool)} {N : List (List (Tmp × Bool))} {o : Oper} {l : List Oper} {Ts : Facts} {e : Value} (hd : ∀ x, o.dst = some x → isN x = false) (hW : ∀ w w', SW w → R w w' → SW w') (hR : ∀ w w', R w w' → w.heap.size ≤ w'.heap.size)
    (h : obl P a0 SW R n o Ts (fun v _ => v = e)) (hr : wpSlotsP P a0 (fun a w => SW w ∧ PairB isN a w) R Fin N l (addFact o (fun v _ => v = e) Ts)) : wpSlotsP P a0 (fun a w => SW w ∧ PairB isN a w) R Fin (n :: N) (o :: l) Ts :=
  slotP_fact _ (lasts_eq _ _) hd hW hR h hr

/-- What an operation that hands over a new row owes. -/
theorem slotP_new {P : Program} {a0 : Act} {SW : World → Prop} {isN : Tmp → Bool} {R : World → World → Prop} {Fin : Facts → Prop} {n : List (Tmp × Bool)} {N : List (List (Tmp × Bool))} {o : Oper} {l : List Oper} {Ts : Facts} {d : Tmp} (T : Fact) (hT : lasts R T) (hd : o.dst = some d) (hl : d < a0.tmps.size) (hW : ∀ w w', SW w → R w w' → SW w')
    (h : ∀ ρ w, Plain ρ → SW w → needs Ts a0 ρ w n → got P (fun v w' => R w w' ∧ T v w' ∧ NewV w v w') ((execOp ρ o).run P w)) (hr : wpSlotsP P a0 (fun a w => SW w ∧ PairB isN a w) R Fin N l (addFact o T Ts)) : wpSlotsP P a0 (fun a w => SW w ∧ PairB isN a w) R Fin (n :: N) (o :: l) Ts :=
  ⟨T, hT, fun a w hs hS hn => got_mono (fun _ w' ⟨h1, h2, h3⟩ => ⟨h1, h2, hW w w' hS.1 h1, by rw [hd]; exact pair_new (by rw [hs]; exact hl) hS.2 h3⟩) (h a.eval w (plain_eval a) hS.1 hn), hr⟩

/-- An operation that hands over no row, and is told that the rows differ. -/
theorem slotP_act {P : Program} {a0 : Act} {SW : World → Prop} {isN : Tmp → Bool} {R : World → World → Prop} {Fin : Facts → Prop} {n : List (Tmp × Bool)} {N : List (List (Tmp × Bool))} {o : Oper} {l : List Oper} {Ts : Facts} (T : Fact) (hT : lasts R T) (hd : ∀ x, o.dst = some x → isN x = false) (hW : ∀ w w', SW w → R w w' → SW w') (hR : ∀ w w', R w w' → w.heap.size ≤ w'.heap.size)
    (h : ∀ ρ w, Plain ρ → SW w → (∀ x, isN x = true → ∀ g, (ρ (.tmp x)).ownBlock = some g → ∀ y, isN y = true → y ≠ x → (ρ (.tmp y)).ownBlock ≠ some g) → needs Ts a0 ρ w n → got P (fun v w' => R w w' ∧ T v w') ((execOp ρ o).run P w)) (hr : wpSlotsP P a0 (fun a w => SW w ∧ PairB isN a w) R Fin N l (addFact o T Ts)) : wpSlotsP P a0 (fun a w => SW w ∧ PairB isN a w) R Fin (n :: N) (o :: l) Ts :=
  ⟨T, hT, fun a w _ hS hn => got_mono (fun _ w' ⟨h1, h2⟩ => ⟨h1, h2, hW w w' hS.1 h1, pair_keep hS.2 hd (hR w w' h1)⟩) (h a.eval w (plain_eval a) hS.1 (fun x hx g hg => (hS.2 x hx g hg).2) hn), hr⟩

theorem slotP_end {P : Program} {a0 : Act} {S : Act → World → Prop} {R : World → World → Prop} {Fin : Facts → Prop} {Ts : Facts} (h : Fin Ts) : wpSlotsP P a0 S R Fin [] [] Ts := h

end Go.Proofs.Ythlkdlknkbigkaa

/- Counters: which are CounterOk; contracts of CounterOk of both sides, of the program's tallies read, joined, told and added up. -/
namespace Go.Proofs.Ythlkdlknkbigkaa
open Go.ChangeShapes Go.WideShapes Go.ChangeAt Go.RowKit Go.Joins
attribute [local go_sem ↓] Go.wp_at_zero Go.wp_at_succ

abbrev cntV (a : Option Addr) (n cap : Nat) (b : Option Addr) (m cb : Nat) : Value := .agg #[.slice a n cap, .slice b m cb]

abbrev taV (x0 x1 x2 x3 y0 y1 y2 y3 : Int) : Value := .agg #[.int .i64 x0, .int .i64 x1, .int .i64 x2, .int .i64 x3, .int .i64 y0, .int .i64 y1, .int .i64 y2, .int .i64 y3]

def cntB (us ds : List Int) : Bool := perB 1000000000 us && perB 1000000000 ds

/-- The two lists of a counter. -/
def IsC (w : World) (a b : Option Addr) (us ds : List Int) : Prop := IsIs w a us ∧ IsIs w b ds

theorem IsC.below {w w' : World} {a b : Option Addr} {us ds : List Int} (h : IsC w a b us ds) (hb : Below w.heap.size w w') : IsC w' a b us ds := ⟨h.1.below hb, h.2.below hb⟩

theorem cntB_four {us ds : List Int} (h : cntB us ds = true) : ∃ x0 x1 x2 x3 y0 y1 y2 y3, us = [x0, x1, x2, x3] ∧ ds = [y0, y1, y2, y3] ∧ ((0 ≤ x0 ∧ x0 ≤ 1000000000) ∧ (0 ≤ x1 ∧ x1 ≤ 1000000000) ∧ (0 ≤ x2 ∧ x2 ≤ 1000000000) ∧ (0 ≤ x3 ∧ x3 ≤ 1000000000)) ∧ (0 ≤ y0 ∧ y0 ≤ 1000000000) ∧ (0 ≤ y1 ∧ y1 ≤ 1000000000) ∧ (0 ≤ y2 ∧ y2 ≤ 1000000000) ∧ (0 ≤ y3 ∧ y3 ≤ 1000000000) := by
  unfold cntB at h
  rw [Bool.and_eq_true] at h
  obtain ⟨x0, x1, x2, x3, hu, hx⟩ := perB_four h.1
  obtain ⟨y0, y1, y2, y3, hd, hy⟩ := perB_four h.2
  exact ⟨x0, x1, x2, x3, y0, y1, y2, y3, hu, hd, hx, hy⟩

theorem low8 {w w' : World} {B b : Nat} (h : Below B w w') (hb : B ≤ b) (v0 v1 v2 v3 v4 v5 v6 v7 : Value) : Below B w ((((((((w'.setCell ⟨b, 0, none⟩ v0).setCell ⟨b, 1, none⟩ v1).setCell ⟨b, 2, none⟩ v2).setCell ⟨b, 3, none⟩ v3).setCell ⟨b, 4, none⟩ v4).setCell ⟨b, 5, none⟩ v5).setCell ⟨b, 6, none⟩ v6).setCell ⟨b, 7, none⟩ v7) :=
  (((((((h.setCell (p := ⟨b, 0, none⟩) hb _).setCell (p := ⟨b, 1, none⟩) hb _).setCell (p := ⟨b, 2, none⟩) hb _).setCell (p := ⟨b, 3, none⟩) hb _).setCell (p := ⟨b, 4, none⟩) hb _).setCell (p := ⟨b, 5, none⟩) hb _).setCell (p := ⟨b, 6, none⟩) hb _).setCell (p := ⟨b, 7, none⟩) hb _

set_option maxRecDepth 100000 in
theorem betweenC (n : Int) (v : Bool) (h : btw n 0 1000000000 = v) (w : World) :
    Calls Try.prog 29 #[.int .i64 n, .int .i64 0, .int .i64 1000000000] w fun e w' => e = .returned (.bool v) ∧ w' = w := by
  rw [← h]
  exact between_any n 0 1000000000 w

set_option maxRecDepth 100000 in
set_option maxHeartbeats 2000000 in
theorem l12List_any (a : Option Addr) (n cap : Nat) (zs : List Int) (w : World) (hl : zs.length = n) (hn : n ≤ maxLen) (hh : IsIs w a zs) :
    Calls Try.prog 24 #[.slice a n cap] w fun e w' => e = .returned (.bool (perB 1000000000 zs)) ∧ w' = w := by
  have HH : Hid (IsIs w a zs) := hh
  have HN : Hid (zs.length = n) := hl
  clear hh hl
  by_cases h4 : n = 4
  · subst h4
    go_enter Try.func24, Try.ntmps24
    go_wp2
    go_loopw [3] (fun i wr => ∃ k : Nat, k ≤ 4 ∧ i = .int .i64 k ∧ Hid (∀ j, j < k → btw (zs.getD j 0) 0 1000000000 = true) ∧ wr = w) (fun i _ => 4 - (intOf i).toNat)
    case atStart => exact ⟨0, Nat.zero_le _, rfl, fun j hj => by omega, rfl⟩
    case round =>
      obtain ⟨k, hk, rfl, HG, rfl⟩ := hrel
      by_cases hk' : k < 4
      · have hkz : k < zs.length := by rw [HN.out]; exact hk'
        obtain ⟨b, o, rfl, hz, e0⟩ := HH.out.at (Below.refl _ _) hkz
        have hz : b < wr.heap.size := hz
        have i1 : (0 : Int) ≤ (k : Int) := by omega
        have i2 : (k : Int) < 4 := by omega
        clear HH
        cases h1 : btw (zs.getD k 0) 0 1000000000
        · have HF : Hid (perB 1000000000 zs = false) := perB_bad hkz h1
          generalize zs.getD k 0 = x at *
          go_wp2_with (go_at_call 29; refine (betweenC _ false h1 _).mono ?_; rintro e w' ⟨rfl, rfl⟩)
          go_ret
          exact ⟨ret_bool HF.out.symm, rfl⟩
        · have HG2 : Hid (∀ j, j < k + 1 → btw (zs.getD j 0) 0 1000000000 = true) := perB_next HG.out h1
          generalize zs.getD k 0 = x at *
          go_wp2_with (go_at_call 29; refine (betweenC _ true h1 _).mono ?_; rintro e w' ⟨rfl, rfl⟩)
          exact ⟨⟨k + 1, by omega, by go_num, HG2, trivial⟩, by simp [intOf]; omega⟩
      · have hkk : k = 4 := by omega
        subst hkk
        have HF : Hid (perB 1000000000 zs = true) := perB_good HN.out HG.out
        go_wp2
        go_ret
        exact ⟨ret_bool HF.out.symm, rfl⟩
  · have HF : Hid (perB 1000000000 zs = false) := perB_len (by rw [HN.out]; exact h4)
    have h4' : ¬ (n : Int) = 4 := by omega
    go_enter Try.func24, Try.ntmps24
    go_wp2
    go_ret
    exact ⟨ret_bool HF.out.symm, rfl⟩

set_option maxRecDepth 100000 in
set_option maxHeartbeats 2000000 in
theorem specCounterOk_any (a : Option Addr) (n cap : Nat) (b : Option Addr) (m cb : Nat) (us ds : List Int) (w : World) (hl : us.length = n) (hn : n ≤ maxLen) (hl' : ds.length = m) (hm : m ≤ maxLen) (hh : IsC w a b us ds) :
    Calls Try.prog 9 #[cntV a n cap b m cb] w fun e w' => e = .returned (.bool (cntB us ds)) ∧ Below w.heap.size w w' := by
  have HB : Hid (Below w.heap.size w (w.alloc (.cells #[.slice a n cap, .slice b m cb] 27))) := (Below.refl _ _).alloc (Nat.le_refl _) _
  have HC : Hid (IsC (w.alloc (.cells #[.slice a n cap, .slice b m cb] 27)) a b us ds) := hh.below HB.out
  have HL := Lib.hid hl
  have HL' := Lib.hid hl'
  clear hh hl hl'
  cases hu : perB 1000000000 us
  · have HF : Hid (cntB us ds = false) := by
      show cntB us ds = false
      unfold cntB
      rw [hu]
      rfl
    have HU := Lib.hid hu
    clear hu
    go_enter Try.func9, Try.ntmps9
    go_wp2_with fail
    refine (l12List_any a n cap us _ HL.out hn HC.out.1).mono ?_
    rw [HU.out]
    rintro e w1 ⟨rfl, rfl⟩
    go_wp2
    go_ret
    exact ⟨ret_bool HF.out.symm, HB.out⟩
  · have HF : Hid (perB 1000000000 ds = cntB us ds) := by
      show perB 1000000000 ds = cntB us ds
      unfold cntB
      rw [hu]
      rfl
    have HU := Lib.hid hu
    clear hu
    go_enter Try.func9, Try.ntmps9
    go_wp2_with fail
    refine (l12List_any a n cap us _ HL.out hn HC.out.1).mono ?_
    rw [HU.out]
    rintro e w1 ⟨rfl, rfl⟩
    go_wp2_with fail
    refine (l12List_any b m cb ds _ HL'.out hm HC.out.2).mono ?_
    rw [HF.out]
    rintro e w1 ⟨rfl, rfl⟩
    go_wp2
    go_ret
    exact ⟨rfl, HB.out⟩

set_option maxRecDepth 100000 in
set_option maxHeartbeats 4000000 in
theorem tallyOf_any (a : Option Addr) (n cap : Nat) (b : Option Addr) (m cb : Nat) (us ds : List Int) (w : World) (hl : us.length = n) (hn : n ≤ maxLen) (hl' : ds.length = m) (hm : m ≤ maxLen) (hh : IsC w a b us ds) :
    Calls Try.prog 26 #[cntV a n cap b m cb] w fun e w' => (∃ x0 x1 x2 x3 y0 y1 y2 y3, e = .returned (.tuple #[taV x0 x1 x2 x3 y0 y1 y2 y3, .bool (cntB us ds)]) ∧ (cntB us ds = true → us = [x0, x1, x2, x3] ∧ ds = [y0, y1, y2, y3])) ∧ Below w.heap.size w w' := by
  have hres : Try.f26.results = #[.cell 2 44, .tmp 3] := by kernel_rfl
  have HB0 : Hid (Below w.heap.size w ((w.alloc (.cells #[.slice a n cap, .slice b m cb] 27)).alloc (.cells #[.int .i64 0, .int .i64 0, .int .i64 0, .int .i64 0, .int .i64 0, .int .i64 0, .int .i64 0, .int .i64 0] 44))) := ((Below.refl _ _).alloc (Nat.le_refl _) _).alloc (by simp) _
  have HC := Lib.hid hh
  have HL := Lib.hid hl
  have HL' := Lib.hid hl'
  clear hh hl hl'
  go_enter Try.func26, Try.ntmps26
  go_wp2_with fail
  refine (perSiteOf_any 1000000000 a n cap us _ HL.out hn (HC.out.below HB0.out).1).mono ?_
  rintro e w1 ⟨⟨x0, x1, x2, x3, rfl, hx⟩, hb⟩
  have HX := Lib.hid hx
  have HB1 := Lib.hid (below_step HB0.out HB0.out.size hb)
  obtain ⟨hc, hf⟩ := bcell hb
  have hz : w.heap.size + 1 < w1.heap.size := by have := hb.size; simp at this; omega
  have hz1 : w.heap.size < w1.heap.size := by omega
  have HA : Hid (Below w.heap.size w (w1.alloc (.cells #[.int .i64 x0, .int .i64 x1, .int .i64 x2, .int .i64 x3] 42))) := HB1.out.alloc HB1.out.size _
  clear hb hx
  go_wp2_with fail
  refine (perSiteOf_any 1000000000 b m cb ds _ HL'.out hm (HC.out.below HA.out).2).mono ?_
  rintro e w2 ⟨⟨y0, y1, y2, y3, rfl, hy⟩, hb⟩
  have HY := Lib.hid hy
  have HB2 := Lib.hid (below_step HA.out HA.out.size hb)
  obtain ⟨hc2, hf2⟩ := bcell hb
  have hz2 : w1.heap.size < w2.heap.size := by have := hb.size; simp at this; omega
  have hz4 : w.heap.size + 1 < w2.heap.size := by omega
  have hz6 : w.heap.size < w2.heap.size := by omega
  clear hb hy
  cases hu : perB 1000000000 us
  · have HF : Hid (cntB us ds = false) := by
      show cntB us ds = false
      unfold cntB
      rw [hu]
      rfl
    clear HX hu
    go_wp2
    refine bodyPost_ret (v := .tuple #[taV x0 x1 x2 x3 y0 y1 y2 y3, .bool false]) ?_ rfl ?_
    · simp only [results, hres]
      go_simp
    · refine ⟨⟨x0, x1, x2, x3, y0, y1, y2, y3, by rw [HF.out], fun h => by rw [HF.out] at h; cases h⟩, ?_⟩
      have HL8 := low8 HB2.out (b := w.heap.size + 1) (Nat.le_add_right _ 1) (.int .i64 x0) (.int .i64 x1) (.int .i64 x2) (.int .i64 x3) (.int .i64 y0) (.int .i64 y1) (.int .i64 y2) (.int .i64 y3)
      exact HL8.alloc HL8.size _
  · have HF : Hid (perB 1000000000 ds = cntB us ds) := by
      show perB 1000000000 ds = cntB us ds
      unfold cntB
      rw [hu]
      rfl
    have HU := Lib.hid (HX.out hu)
    clear HX hu
    rw [HF.out] at HY
    rw [HF.out]
    obtain ⟨z, HZ⟩ : ∃ z, Hid (cntB us ds = z) := ⟨_, Lib.hid rfl⟩
    rw [HZ.out]
    go_wp2
    refine bodyPost_ret (v := .tuple #[taV x0 x1 x2 x3 y0 y1 y2 y3, .bool z]) ?_ rfl ?_
    · simp only [results, hres]
      go_simp
    · refine ⟨⟨x0, x1, x2, x3, y0, y1, y2, y3, by rw [HZ.out], fun h => ⟨HU.out, HY.out h⟩⟩, ?_⟩
      have HL8 := low8 HB2.out (b := w.heap.size + 1) (Nat.le_add_right _ 1) (.int .i64 x0) (.int .i64 x1) (.int .i64 x2) (.int .i64 x3) (.int .i64 y0) (.int .i64 y1) (.int .i64 y2) (.int .i64 y3)
      exact HL8.alloc HL8.size _

end Go.Proofs.Ythlkdlknkbigkaa

/- Counters: the program's tallies told, joined, added to and valued. -/
namespace Go.Proofs.Ythlkdlknkbigkaa
open Go.ChangeShapes Go.WideShapes Go.ChangeAt Go.RowKit Go.Joins
attribute [local go_sem ↓] Go.wp_at_zero Go.wp_at_succ

/-- Two lists of one's own, apart from one another. -/
def OwnC (w : World) (lo hi : Nat) (a b : Option Addr) (us ds : List Int) : Prop :=
  ∃ l1 h1 l2 h2, lo ≤ l1 ∧ h1 ≤ hi ∧ lo ≤ l2 ∧ h2 ≤ hi ∧ (h1 ≤ l2 ∨ h2 ≤ l1) ∧ OwnI w l1 h1 a us ∧ OwnI w l2 h2 b ds

theorem OwnC.below {w w' : World} {lo hi : Nat} {a b : Option Addr} {us ds : List Int} (h : OwnC w lo hi a b us ds) (hb : Below w.heap.size w w') : OwnC w' lo hi a b us ds := by
  obtain ⟨l1, h1, l2, h2, k1, k2, k3, k4, k5, o1, o2⟩ := h
  exact ⟨l1, h1, l2, h2, k1, k2, k3, k4, k5, o1.below hb, o2.below hb⟩

theorem OwnC.wider {w : World} {lo hi lo' hi' : Nat} {a b : Option Addr} {us ds : List Int} (h : OwnC w lo hi a b us ds) (hl : lo' ≤ lo) (hh : hi ≤ hi') : OwnC w lo' hi' a b us ds := by
  obtain ⟨l1, h1, l2, h2, k1, k2, k3, k4, k5, o1, o2⟩ := h
  exact ⟨l1, h1, l2, h2, by omega, by omega, by omega, by omega, k5, o1, o2⟩

theorem OwnC.isC {w : World} {lo hi : Nat} {a b : Option Addr} {us ds : List Int} (h : OwnC w lo hi a b us ds) : IsC w a b us ds := by
  obtain ⟨l1, h1, l2, h2, k1, k2, k3, k4, k5, o1, o2⟩ := h
  exact ⟨o1.isIs, o2.isIs⟩

theorem OwnC.nil {w : World} {lo hi : Nat} {a b : Option Addr} (h : lo ≤ hi) : OwnC w lo hi a b [] [] := ⟨lo, lo, lo, lo, Nat.le_refl _, h, Nat.le_refl _, h, .inl (Nat.le_refl _), .inl rfl, .inl rfl⟩

theorem own_at {w : World} {b : Nat} {x0 x1 x2 x3 : Int} (hlt : b < w.heap.size) (c0 : w.cell? ⟨b, 0, none⟩ = some (.int .i64 x0)) (c1 : w.cell? ⟨b, 1, none⟩ = some (.int .i64 x1)) (c2 : w.cell? ⟨b, 2, none⟩ = some (.int .i64 x2)) (c3 : w.cell? ⟨b, 3, none⟩ = some (.int .i64 x3)) (hf : ∀ o, w.frozen? ⟨b, o, none⟩ = false) : OwnI w b (b + 1) (some ⟨b, 0, none⟩) [x0, x1, x2, x3] := by
  refine .inr ⟨b, rfl, Nat.le_refl _, Nat.lt_succ_self _, hlt, fun i hi => ?_, hf⟩
  match i, hi with
  | 0, _ => exact c0
  | 1, _ => exact c1
  | 2, _ => exact c2
  | 3, _ => exact c3

theorem own_two {w : World} {b c : Nat} {x0 x1 x2 x3 y0 y1 y2 y3 : Int} {lo hi : Nat} (hb : b + 1 ≤ c ∨ c + 1 ≤ b) (h1 : lo ≤ b) (h2 : lo ≤ c) (h3 : b + 1 ≤ hi) (h4 : c + 1 ≤ hi) (o1 : OwnI w b (b + 1) (some ⟨b, 0, none⟩) [x0, x1, x2, x3]) (o2 : OwnI w c (c + 1) (some ⟨c, 0, none⟩) [y0, y1, y2, y3]) : OwnC w lo hi (some ⟨b, 0, none⟩) (some ⟨c, 0, none⟩) [x0, x1, x2, x3] [y0, y1, y2, y3] :=
  ⟨b, b + 1, c, c + 1, h1, h3, h2, h4, hb, o1, o2⟩

set_option maxRecDepth 100000 in
set_option maxHeartbeats 4000000 in
theorem tCounter_any (x0 x1 x2 x3 y0 y1 y2 y3 : Int) (w : World) :
    Calls Try.prog 33 #[taV x0 x1 x2 x3 y0 y1 y2 y3] w fun e w' => ∃ g g', e = .returned (cntV (some ⟨g, 0, none⟩) 4 4 (some ⟨g', 0, none⟩) 4 4) ∧ OwnC w' w.heap.size w'.heap.size (some ⟨g, 0, none⟩) (some ⟨g', 0, none⟩) [x0, x1, x2, x3] [y0, y1, y2, y3] ∧ Below w.heap.size w w' := by
  have hres : Try.f33.results = #[.cell 2 27] := by kernel_rfl
  go_enter Try.func33, Try.ntmps33
  go_wp2_with fail
  go_region_with (first | (go_at_call 41; refine (tkList_any _ _ _ _ _).mono ?_; rintro e w' ⟨rfl, rfl⟩))
  all_goals
    go_wp2
    first
    | (refine bodyPost_ret (v := cntV (some ⟨w.heap.size + 1 + 1, 0, none⟩) 4 4 (some ⟨w.heap.size + 1 + 1 + 1, 0, none⟩) 4 4) ?_ rfl ?_
       · simp only [results, hres]
         go_simp
       · refine ⟨w.heap.size + 1 + 1, w.heap.size + 1 + 1 + 1, rfl, ?_, (((((Below.refl _ _).alloc (Nat.le_refl _) _).alloc (by simp) _).alloc (by simp; omega) _).alloc (by simp; omega) _).drew⟩
         exact own_two (by omega) (by omega) (by omega) (by simp) (by simp) (own_at (by simp <;> omega) (by go_simp) (by go_simp) (by go_simp) (by go_simp) (fun o => by go_simp)) (own_at (by simp <;> omega) (by go_simp) (by go_simp) (by go_simp) (by go_simp) (fun o => by go_simp)))
    | (refine bodyPost_ret (v := cntV (some ⟨w.heap.size + 1 + 1 + 1, 0, none⟩) 4 4 (some ⟨w.heap.size + 1 + 1, 0, none⟩) 4 4) ?_ rfl ?_
       · simp only [results, hres]
         go_simp
       · refine ⟨w.heap.size + 1 + 1 + 1, w.heap.size + 1 + 1, rfl, ?_, (((((Below.refl _ _).alloc (Nat.le_refl _) _).alloc (by simp) _).alloc (by simp; omega) _).alloc (by simp; omega) _).drew⟩
         exact own_two (by omega) (by omega) (by omega) (by simp) (by simp) (own_at (by simp <;> omega) (by go_simp) (by go_simp) (by go_simp) (by go_simp) (fun o => by go_simp)) (own_at (by simp <;> omega) (by go_simp) (by go_simp) (by go_simp) (by go_simp) (fun o => by go_simp)))

theorem cells_of {w w' : World} {b : Nat} {v : Value} {o : Nat} (hb : Below w.heap.size w w') (hlt : b < w.heap.size) (h : w.cell? ⟨b, o, none⟩ = some v) : w'.cell? ⟨b, o, none⟩ = some v := (hb.cell (p := ⟨b, o, none⟩) hlt).trans h

set_option maxRecDepth 100000 in
set_option maxHeartbeats 4000000 in
theorem tJoin_any (x0 x1 x2 x3 x4 x5 x6 x7 z0 z1 z2 z3 z4 z5 z6 z7 : Int) (w : World) :
    Calls Try.prog 36 #[taV x0 x1 x2 x3 x4 x5 x6 x7, taV z0 z1 z2 z3 z4 z5 z6 z7] w fun e w' => e = .returned (taV (max x0 z0) (max x1 z1) (max x2 z2) (max x3 z3) (max x4 z4) (max x5 z5) (max x6 z6) (max x7 z7)) ∧ Below w.heap.size w w' := by
  have hres : Try.f36.results = #[.cell 4 44] := by kernel_rfl
  have HB : Hid (Below w.heap.size w (((w.alloc (.cells #[.int .i64 x0, .int .i64 x1, .int .i64 x2, .int .i64 x3, .int .i64 x4, .int .i64 x5, .int .i64 x6, .int .i64 x7] 44)).alloc (.cells #[.int .i64 z0, .int .i64 z1, .int .i64 z2, .int .i64 z3, .int .i64 z4, .int .i64 z5, .int .i64 z6, .int .i64 z7] 44)).alloc (.cells #[.int .i64 0, .int .i64 0, .int .i64 0, .int .i64 0, .int .i64 0, .int .i64 0, .int .i64 0, .int .i64 0] 44))) := (((Below.refl _ _).alloc (Nat.le_refl _) _).alloc (by simp) _).alloc (by simp; omega) _
  have HC : Hid (∀ w', Below (((w.alloc (.cells #[.int .i64 x0, .int .i64 x1, .int .i64 x2, .int .i64 x3, .int .i64 x4, .int .i64 x5, .int .i64 x6, .int .i64 x7] 44)).alloc (.cells #[.int .i64 z0, .int .i64 z1, .int .i64 z2, .int .i64 z3, .int .i64 z4, .int .i64 z5, .int .i64 z6, .int .i64 z7] 44)).alloc (.cells #[.int .i64 0, .int .i64 0, .int .i64 0, .int .i64 0, .int .i64 0, .int .i64 0, .int .i64 0, .int .i64 0] 44)).heap.size (((w.alloc (.cells #[.int .i64 x0, .int .i64 x1, .int .i64 x2, .int .i64 x3, .int .i64 x4, .int .i64 x5, .int .i64 x6, .int .i64 x7] 44)).alloc (.cells #[.int .i64 z0, .int .i64 z1, .int .i64 z2, .int .i64 z3, .int .i64 z4, .int .i64 z5, .int .i64 z6, .int .i64 z7] 44)).alloc (.cells #[.int .i64 0, .int .i64 0, .int .i64 0, .int .i64 0, .int .i64 0, .int .i64 0, .int .i64 0, .int .i64 0] 44)) w' → w'.cell? ⟨w.heap.size, 0, none⟩ = some (.int .i64 x0) ∧ w'.cell? ⟨w.heap.size, 1, none⟩ = some (.int .i64 x1) ∧ w'.cell? ⟨w.heap.size, 2, none⟩ = some (.int .i64 x2) ∧ w'.cell? ⟨w.heap.size, 3, none⟩ = some (.int .i64 x3) ∧ w'.cell? ⟨w.heap.size, 4, none⟩ = some (.int .i64 x4) ∧ w'.cell? ⟨w.heap.size, 5, none⟩ = some (.int .i64 x5) ∧ w'.cell? ⟨w.heap.size, 6, none⟩ = some (.int .i64 x6) ∧ w'.cell? ⟨w.heap.size, 7, none⟩ = some (.int .i64 x7) ∧ w'.cell? ⟨w.heap.size + 1, 0, none⟩ = some (.int .i64 z0) ∧ w'.cell? ⟨w.heap.size + 1, 1, none⟩ = some (.int .i64 z1) ∧ w'.cell? ⟨w.heap.size + 1, 2, none⟩ = some (.int .i64 z2) ∧ w'.cell? ⟨w.heap.size + 1, 3, none⟩ = some (.int .i64 z3) ∧ w'.cell? ⟨w.heap.size + 1, 4, none⟩ = some (.int .i64 z4) ∧ w'.cell? ⟨w.heap.size + 1, 5, none⟩ = some (.int .i64 z5) ∧ w'.cell? ⟨w.heap.size + 1, 6, none⟩ = some (.int .i64 z6) ∧ w'.cell? ⟨w.heap.size + 1, 7, none⟩ = some (.int .i64 z7)) := fun w' hb => by
    refine ⟨?_, ?_, ?_, ?_, ?_, ?_, ?_, ?_, ?_, ?_, ?_, ?_, ?_, ?_, ?_, ?_⟩
    all_goals exact cells_of hb (by simp <;> omega) (by go_simp)
  have HR : Hid (∀ w', Below (((w.alloc (.cells #[.int .i64 x0, .int .i64 x1, .int .i64 x2, .int .i64 x3, .int .i64 x4, .int .i64 x5, .int .i64 x6, .int .i64 x7] 44)).alloc (.cells #[.int .i64 z0, .int .i64 z1, .int .i64 z2, .int .i64 z3, .int .i64 z4, .int .i64 z5, .int .i64 z6, .int .i64 z7] 44)).alloc (.cells #[.int .i64 0, .int .i64 0, .int .i64 0, .int .i64 0, .int .i64 0, .int .i64 0, .int .i64 0, .int .i64 0] 44)).heap.size (((w.alloc (.cells #[.int .i64 x0, .int .i64 x1, .int .i64 x2, .int .i64 x3, .int .i64 x4, .int .i64 x5, .int .i64 x6, .int .i64 x7] 44)).alloc (.cells #[.int .i64 z0, .int .i64 z1, .int .i64 z2, .int .i64 z3, .int .i64 z4, .int .i64 z5, .int .i64 z6, .int .i64 z7] 44)).alloc (.cells #[.int .i64 0, .int .i64 0, .int .i64 0, .int .i64 0, .int .i64 0, .int .i64 0, .int .i64 0, .int .i64 0] 44)) w' → w'.cell? ⟨w.heap.size + 1 + 1, 0, none⟩ = some (.int .i64 0) ∧ w'.cell? ⟨w.heap.size + 1 + 1, 1, none⟩ = some (.int .i64 0) ∧ w'.cell? ⟨w.heap.size + 1 + 1, 2, none⟩ = some (.int .i64 0) ∧ w'.cell? ⟨w.heap.size + 1 + 1, 3, none⟩ = some (.int .i64 0) ∧ w'.cell? ⟨w.heap.size + 1 + 1, 4, none⟩ = some (.int .i64 0) ∧ w'.cell? ⟨w.heap.size + 1 + 1, 5, none⟩ = some (.int .i64 0) ∧ w'.cell? ⟨w.heap.size + 1 + 1, 6, none⟩ = some (.int .i64 0) ∧ w'.cell? ⟨w.heap.size + 1 + 1, 7, none⟩ = some (.int .i64 0)) := fun w' hb => by
    refine ⟨?_, ?_, ?_, ?_, ?_, ?_, ?_, ?_⟩
    all_goals exact cells_of hb (by simp) (by go_simp)
  have HFZ : Hid (∀ w', Below (((w.alloc (.cells #[.int .i64 x0, .int .i64 x1, .int .i64 x2, .int .i64 x3, .int .i64 x4, .int .i64 x5, .int .i64 x6, .int .i64 x7] 44)).alloc (.cells #[.int .i64 z0, .int .i64 z1, .int .i64 z2, .int .i64 z3, .int .i64 z4, .int .i64 z5, .int .i64 z6, .int .i64 z7] 44)).alloc (.cells #[.int .i64 0, .int .i64 0, .int .i64 0, .int .i64 0, .int .i64 0, .int .i64 0, .int .i64 0, .int .i64 0] 44)).heap.size (((w.alloc (.cells #[.int .i64 x0, .int .i64 x1, .int .i64 x2, .int .i64 x3, .int .i64 x4, .int .i64 x5, .int .i64 x6, .int .i64 x7] 44)).alloc (.cells #[.int .i64 z0, .int .i64 z1, .int .i64 z2, .int .i64 z3, .int .i64 z4, .int .i64 z5, .int .i64 z6, .int .i64 z7] 44)).alloc (.cells #[.int .i64 0, .int .i64 0, .int .i64 0, .int .i64 0, .int .i64 0, .int .i64 0, .int .i64 0, .int .i64 0] 44)) w' → ∀ o, w'.frozen? ⟨w.heap.size + 1 + 1, o, none⟩ = false) := fun w' hb o => (hb.frozen (p := ⟨w.heap.size + 1 + 1, o, none⟩) (by simp)).trans (by go_simp)
  have hz : w.heap.size + 1 + 1 < (((w.alloc (.cells #[.int .i64 x0, .int .i64 x1, .int .i64 x2, .int .i64 x3, .int .i64 x4, .int .i64 x5, .int .i64 x6, .int .i64 x7] 44)).alloc (.cells #[.int .i64 z0, .int .i64 z1, .int .i64 z2, .int .i64 z3, .int .i64 z4, .int .i64 z5, .int .i64 z6, .int .i64 z7] 44)).alloc (.cells #[.int .i64 0, .int .i64 0, .int .i64 0, .int .i64 0, .int .i64 0, .int .i64 0, .int .i64 0, .int .i64 0] 44)).heap.size := by simp
  go_enter Try.func36, Try.ntmps36
  go_wp2_with fail
  generalize (((w.alloc (.cells #[.int .i64 x0, .int .i64 x1, .int .i64 x2, .int .i64 x3, .int .i64 x4, .int .i64 x5, .int .i64 x6, .int .i64 x7] 44)).alloc (.cells #[.int .i64 z0, .int .i64 z1, .int .i64 z2, .int .i64 z3, .int .i64 z4, .int .i64 z5, .int .i64 z6, .int .i64 z7] 44)).alloc (.cells #[.int .i64 0, .int .i64 0, .int .i64 0, .int .i64 0, .int .i64 0, .int .i64 0, .int .i64 0, .int .i64 0] 44)) = W at *
  refine wp_region_slots 11 [[(2, false)], [(5, true)], [(3, false)], [(7, true)], [(6, true), (8, true)], [(2, false)], [(10, true)], [(3, false)], [(12, true)], [(11, true), (13, true)], [(9, true), (14, true)]] (fun w' => Below W.heap.size W w') (fun w w' => Below w.heap.size w w') (by kernel_rfl) (by kernel_rfl) (by rfl) (Below.refl _ _).drew (fun _ _ h hb => below_step h h.size hb) ?_
  iterate 4 (apply slot_eq; · (intro ρ w' ⟨p1, p2, p3⟩ hS hn; obtain ⟨a0, a1, a2, a3, a4, a5, a6, a7, b0, b1, b2, b3, b4, b5, b6, b7⟩ := HC.out w' hS; simp at hn; go_simp; exact ⟨Below.refl _ _, rfl⟩))
  apply slot_eq
  · intro ρ w' ⟨p1, p2, p3⟩ hS hn
    simp at hn
    go_simp
    exact got_call (tkJoin_any _ _ _ _ _ _ _ _ w') fun e w'' ⟨he, hb⟩ => ⟨_, he, hb, rfl⟩
  iterate 4 (apply slot_eq; · (intro ρ w' ⟨p1, p2, p3⟩ hS hn; obtain ⟨a0, a1, a2, a3, a4, a5, a6, a7, b0, b1, b2, b3, b4, b5, b6, b7⟩ := HC.out w' hS; simp at hn; go_simp; exact ⟨Below.refl _ _, rfl⟩))
  apply slot_eq
  · intro ρ w' ⟨p1, p2, p3⟩ hS hn
    simp at hn
    go_simp
    exact got_call (tkJoin_any _ _ _ _ _ _ _ _ w') fun e w'' ⟨he, hb⟩ => ⟨_, he, hb, rfl⟩
  apply slot_eq
  · intro ρ w' ⟨p1, p2, p3⟩ hS hn
    simp at hn
    go_simp
    exact ⟨Below.refl _ _, rfl⟩
  refine slot_end ?_
  rintro vs u hS hF
  simp at hF
  obtain ⟨e10, e9, e8, e7, e6, e5, e4, e3, e2, e1, e0⟩ := hF
  simp only [List.take_succ_cons, List.take_zero, List.drop_succ_cons, List.drop_zero, putAll, e0, e1, e2, e3, e4, e5, e6, e7, e8, e9, e10]
  clear e0 e1 e2 e3 e4 e5 e6 e7 e8 e9 e10
  simp only [Act.put, List.setIfInBounds_toArray, List.set_cons_succ, List.set_cons_zero]
  have HBU := Lib.hid (below_step HB.out HB.out.size hS)
  have hzu : w.heap.size + 1 + 1 < u.heap.size := Nat.lt_of_lt_of_le hz hS.size
  obtain ⟨r0, r1, r2, r3, r4, r5, r6, r7⟩ := HR.out u hS
  have hfz := HFZ.out u hS
  clear hS HC HR HB hz HFZ
  go_wp2
  refine bodyPost_ret (v := taV (max x0 z0) (max x1 z1) (max x2 z2) (max x3 z3) (max x4 z4) (max x5 z5) (max x6 z6) (max x7 z7)) ?_ rfl ?_
  · simp only [results, hres]
    go_simp
  · exact ⟨rfl, low8 HBU.out (b := w.heap.size + 1 + 1) (by omega) (.int .i64 (max x0 z0)) (.int .i64 (max x1 z1)) (.int .i64 (max x2 z2)) (.int .i64 (max x3 z3)) (.int .i64 (max x4 z4)) (.int .i64 (max x5 z5)) (.int .i64 (max x6 z6)) (.int .i64 (max x7 z7))⟩

def sum4 (x0 x1 x2 x3 : Int) : Int := x0 + x1 + x2 + x3

set_option maxRecDepth 100000 in
set_option maxHeartbeats 4000000 in
theorem pSum_any (x0 x1 x2 x3 : Int) (w : World) (h0 : 0 ≤ x0 ∧ x0 ≤ 1000000000) (h1 : 0 ≤ x1 ∧ x1 ≤ 1000000000) (h2 : 0 ≤ x2 ∧ x2 ≤ 1000000000) (h3 : 0 ≤ x3 ∧ x3 ≤ 1000000000) :
    Calls Try.prog 43 #[tkV x0 x1 x2 x3] w fun e w' => e = .returned (.int .i64 (sum4 x0 x1 x2 x3)) ∧ Below w.heap.size w w' := by
  obtain ⟨a0, b0⟩ := h0
  obtain ⟨a1, b1⟩ := h1
  obtain ⟨a2, b2⟩ := h2
  obtain ⟨a3, b3⟩ := h3
  have i0 : ∀ w, (Instr.index 42 (.agg #[.int .i64 x0, .int .i64 x1, .int .i64 x2, .int .i64 x3]) (.int .i64 0)).run Try.prog w = .ok (.int .i64 x0) w := run_tk [_, _, _, _] _ rfl (q := 0) rfl
  have i1 : ∀ w, (Instr.index 42 (.agg #[.int .i64 x0, .int .i64 x1, .int .i64 x2, .int .i64 x3]) (.int .i64 1)).run Try.prog w = .ok (.int .i64 x1) w := run_tk [_, _, _, _] _ rfl (q := 1) rfl
  have i2 : ∀ w, (Instr.index 42 (.agg #[.int .i64 x0, .int .i64 x1, .int .i64 x2, .int .i64 x3]) (.int .i64 2)).run Try.prog w = .ok (.int .i64 x2) w := run_tk [_, _, _, _] _ rfl (q := 2) rfl
  have i3 : ∀ w, (Instr.index 42 (.agg #[.int .i64 x0, .int .i64 x1, .int .i64 x2, .int .i64 x3]) (.int .i64 3)).run Try.prog w = .ok (.int .i64 x3) w := run_tk [_, _, _, _] _ rfl (q := 3) rfl
  go_enter Try.func43, Try.ntmps43
  go_wp2
  refine wp_loop_rounds 5 ?_
  rw [rounds_succ]
  go_wp2
  rw [rounds_succ]
  go_wp2
  rw [rounds_succ]
  go_wp2
  rw [rounds_succ]
  go_wp2
  rw [rounds_succ]
  go_wp2
  go_ret
  exact ⟨rfl, (Below.refl _ _).alloc (Nat.le_refl _) _⟩

end Go.Proofs.Ythlkdlknkbigkaa
