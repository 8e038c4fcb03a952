import Derived.Test.YtolmlcbgdihcbabPack5
import Derived.OneCell
import Derived.Deep.DeepCutAuto
/- The draw of a vector. -/
namespace Go.Proofs.Ytolmlcbgdihcbab
open Go.ChangeShapes Go.WideShapes Go.ChangeAt Go.RowKit Go.Joins

/-- What one operation with the cursor may do: c numbers drawn at most. -/
def CurK (c : Int) (B : Nat) (a : Option Addr) (len cap : Nat) (w w' : World) : Prop := Hole B w w' ∧ ∀ K : Int, K ≤ 90000 → Cur w B a len cap K → Cur w' B a len cap (K + c)

theorem curK_refl (c : Int) (hc : 0 ≤ c) (B : Nat) (a : Option Addr) (len cap : Nat) (w : World) : CurK c B a len cap w w := ⟨Hole.refl _ _, fun _ _ h => h.more (by omega)⟩

theorem curK_below (c : Int) (hc : 0 ≤ c) (B : Nat) (a : Option Addr) (len cap : Nat) {w w' : World} (hb : Below w.heap.size w w') : CurK c B a len cap w w' := ⟨Hole.of_below hb, fun _ _ h => (h.below hb).more (by omega)⟩

/-- The cursor stands where it stands: what is told of one bound is told of every. -/
theorem cur_told {B : Nat} {a : Option Addr} {len cap : Nat} {K c : Int} {w w' : World} (h : Cur w B a len cap K) (hk : ∀ at_ : Int, at_ ≤ K → Cur w B a len cap at_ → Cur w' B a len cap (at_ + c)) : ∀ K : Int, K ≤ 90000 → Cur w B a len cap K → Cur w' B a len cap (K + c) := by
  intro K' _ hK'
  obtain ⟨at_, seed, hc, hN', hcode, hl⟩ := h
  obtain ⟨at2, seed2, hc2, h2, _⟩ := hK'
  have e1 : at2 = at_ := by
    have h3 := hc2.c1
    rw [hc.c1] at h3
    injection h3 with h3
    injection h3 with _ h3
    exact h3.symm
  exact (hk at_ hN' ⟨at_, seed, hc, Int.le_refl _, hcode, hl⟩).more (by omega)

theorem pick_curK (c : Int) (hc : 1 ≤ c) (B : Nat) (a : Option Addr) (len cap : Nat) (M n : Int) (w : World) (hM : M ≤ 90000) (hn : 2 ≤ n) (hn' : n ≤ 1000) (h : Cur w B a len cap M) :
    Calls Try.prog 22 #[.pointer (some ⟨B, 0, none⟩), .int .i64 n] w fun e w' => ∃ r : Nat, e = .returned (.int .i64 (r : Int)) ∧ (r : Int) < n ∧ CurK c B a len cap w w' := by
  obtain ⟨at_, seed, hcur, hN', hk, hl⟩ := h
  have h0 : Cur w B a len cap at_ := ⟨at_, seed, hcur, Int.le_refl _, hk, hl⟩
  refine (pick_any B a len cap at_ n w (by omega) hn (by omega) h0).mono ?_
  rintro e w' ⟨r, rfl, r0, r1, hc', hh⟩
  refine ⟨r.toNat, by rw [Int.toNat_of_nonneg r0], by omega, hh, fun K _ hK => hc'.more ?_⟩
  obtain ⟨at2, seed2, hc2, h2, _⟩ := hK
  have e1 : at2 = at_ := by
    have h3 := hc2.c1
    rw [hcur.c1] at h3
    injection h3 with h3
    injection h3 with _ h3
    exact h3.symm
  omega

theorem raw_curK (c : Int) (hc : 2 ≤ c) (B : Nat) (a : Option Addr) (len cap : Nat) (M : Int) (w : World) (hM : M ≤ 90000) (h : Cur w B a len cap M) :
    Calls Try.prog 23 #[.pointer (some ⟨B, 0, none⟩)] w fun e w' => ∃ r : Int, e = .returned (.int .i64 r) ∧ CurK c B a len cap w w' := by
  obtain ⟨at_, seed, hcur, hN', hk, hl⟩ := h
  have h0 : Cur w B a len cap at_ := ⟨at_, seed, hcur, Int.le_refl _, hk, hl⟩
  refine (raw_any B a len cap at_ w (by omega) h0).mono ?_
  rintro e w' ⟨r, rfl, hc', hh⟩
  refine ⟨r, rfl, hh, fun K _ hK => hc'.more ?_⟩
  obtain ⟨at2, seed2, hc2, h2, _⟩ := hK
  have e1 : at2 = at_ := by
    have h3 := hc2.c1
    rw [hcur.c1] at h3
    injection h3 with h3
    injection h3 with _ h3
    exact h3.symm
  omega

theorem RowI.off {w w' : World} {B base : Nat} {v : Value} {zs : List Int} (h : RowI w base v zs) (hh : Hole B w w') (hB : B < base) : RowI w' base v zs :=
  World.ownsRow.kept (row := some B) h ⟨hh.os, hh.tape, hh.output, hh.size, fun k hk hn => hh.block k hk (fun e => hn (by rw [e]))⟩ (by
    by_cases e : v.ownBlock = none
    · exact .inl e
    · refine .inr fun e2 => ?_
      have := World.ownsRow.lt h B e2
      omega)

theorem Cur.grown {w w' : World} {B : Nat} {a : Option Addr} {len cap : Nat} {N : Int} {ob : Option Nat} (h : Cur w B a len cap N) (hg : w.grownBy w' ob) (hob : ∀ g, ob = some g → B < g) : Cur w' B a len cap N := by
  have hl := h.lt
  have hb : Below (B + 1) w w' := ⟨hg.os, hg.tape, hg.output, hg.size, fun k hk => hg.block k (by omega) fun e => by have := hob _ e.symm; omega⟩
  obtain ⟨at_, seed, hc, hN, hk, hl⟩ := h
  refine ⟨at_, seed, ⟨Nat.lt_of_lt_of_le hc.lt hg.size, (hb.cell (p := ⟨B, 0, none⟩) (Nat.lt_succ_self _)).trans hc.c0, (hb.cell (p := ⟨B, 1, none⟩) (Nat.lt_succ_self _)).trans hc.c1, (hb.cell (p := ⟨B, 2, none⟩) (Nat.lt_succ_self _)).trans hc.c2, fun o => (hb.frozen (p := ⟨B, o, none⟩) (Nat.lt_succ_self _)).trans (hc.fz o), hc.p0, hc.s0, hc.s1⟩, hN, ?_, hl⟩
  rcases hk with h | ⟨b, o, ha, hb', hz⟩
  · exact .inl h
  · refine .inr ⟨b, o, ha, hb', fun i hi => ?_⟩
    obtain ⟨z, z0, z1, hcell⟩ := hz i hi
    exact ⟨z, z0, z1, (hb.cell (p := ⟨b, o + i, none⟩) (show b < B + 1 by omega)).trans hcell⟩

/-- What lies where while a vector is drawn. -/
structure VS (w wr : World) (B : Nat) (a : Option Addr) (len cap : Nat) (N : Int) (x : Option Addr) (k cpd : Nat) (zs : List Int) : Prop where
  hole : Hole B w wr
  cur : Cur wr B a len cap N
  b0 : wr.heap[w.heap.size]? = some (.cells #[.slice none 0 0] 26 (0, 0))
  b1 : wr.heap[w.heap.size + 1]? = some (.cells #[.slice x k cpd] 26 (0, 0))
  row : RowI wr (w.heap.size + 1 + 1) (.slice x k cpd) zs
  len : zs.length = k

theorem VS.lt {w wr : World} {B : Nat} {a : Option Addr} {len cap : Nat} {N : Int} {x : Option Addr} {k cpd : Nat} {zs : List Int} (h : VS w wr B a len cap N x k cpd zs) : w.heap.size + 1 < wr.heap.size := (Array.getElem?_eq_some_iff.1 h.b1).1

/-- What an operation may do in a region with an append into slot s: the append grows the row, all others may move the cursor on. -/
def RowK (s : Tmp) (ob : Option Nat) (c : Int) (B : Nat) (a : Option Addr) (len cap : Nat) : ReachU := fun d w w' => if d = some s then w.grownBy w' ob else CurK c B a len cap w w'

theorem rowK_row {s : Tmp} {ob : Option Nat} {c : Int} {B : Nat} {a : Option Addr} {len cap : Nat} {w w' : World} (h : w.grownBy w' ob) : RowK s ob c B a len cap (some s) w w' := by
  unfold RowK
  rw [if_pos rfl]
  exact h

theorem rowK_cur {s : Tmp} {ob : Option Nat} {c : Int} {B : Nat} {a : Option Addr} {len cap : Nat} {d : Option Tmp} {w w' : World} (hd : d ≠ some s) (h : CurK c B a len cap w w') : RowK s ob c B a len cap d w w' := by
  unfold RowK
  rw [if_neg hd]
  exact h

theorem rowK_of {s : Tmp} {ob : Option Nat} {c : Int} {B : Nat} {a : Option Addr} {len cap : Nat} {d : Option Tmp} {w w' : World} (hd : d ≠ some s) (h : RowK s ob c B a len cap d w w') : CurK c B a len cap w w' := by
  unfold RowK at h
  rw [if_neg hd] at h
  exact h

/-- What holds behind each operation, with a count of those still to come. -/
def VSc (w wr : World) (B : Nat) (a : Option Addr) (len cap : Nat) (M c : Int) (x : Option Addr) (k cpd : Nat) (f : Nat) (w' : World) : Prop :=
  Hole B w w' ∧ Cur w' B a len cap (M - c * f) ∧ w'.heap[w.heap.size]? = some (.cells #[.slice none 0 0] 26 (0, 0)) ∧ w'.heap[w.heap.size + 1]? = some (.cells #[.slice x k cpd] 26 (0, 0)) ∧ wr.heap.size ≤ w'.heap.size ∧ M ≤ 90000

theorem vsc_step {w wr : World} {B : Nat} {a : Option Addr} {len cap : Nat} {M c : Int} {x : Option Addr} {k cpd : Nat} {s : Tmp} {ob : Option Nat} (hc : 0 ≤ c) (hB : B < w.heap.size) (hob : ∀ g, ob = some g → w.heap.size + 1 + 1 ≤ g) (d : Option Tmp) (f : Nat) (w1 w2 : World) (h : VSc w wr B a len cap M c x k cpd (f + 1) w1) (hr : RowK s ob c B a len cap d w1 w2) : VSc w wr B a len cap M c x k cpd f w2 := by
  obtain ⟨h1, h2, h3, h4, h5, h6⟩ := h
  have l3 := (Array.getElem?_eq_some_iff.1 h3).1
  have l4 := (Array.getElem?_eq_some_iff.1 h4).1
  by_cases hd : d = some s
  · unfold RowK at hr
    rw [if_pos hd] at hr
    have hne : ∀ j, j < w.heap.size + 1 + 1 → some j ≠ ob := fun j hj e => by have := hob j e.symm; omega
    refine ⟨⟨hr.os.trans h1.os, hr.tape.trans h1.tape, hr.output.trans h1.output, Nat.le_trans h1.size hr.size, fun j hj hn => (hr.block j (Nat.lt_of_lt_of_le hj h1.size) (hne j (by omega))).trans (h1.block j hj hn)⟩, (h2.grown hr (fun g hg => by have := hob g hg; omega)).more ?_, (hr.block _ l3 (hne _ (by omega))).trans h3, (hr.block _ l4 (hne _ (by omega))).trans h4, Nat.le_trans h5 hr.size, h6⟩
    have : c * ((f : Nat) + 1 : Nat) = c * (f : Int) + c := by push_cast; rw [Int.mul_add, Int.mul_one]
    omega
  · have hk := rowK_of hd hr
    have hcf : 0 ≤ c * ((f + 1 : Nat) : Int) := Int.mul_nonneg hc (by omega)
    refine ⟨h1.trans hk.1, (hk.2 _ (by omega) h2).more ?_, (hk.1.block _ l3 (by omega)).trans h3, (hk.1.block _ l4 (by omega)).trans h4, Nat.le_trans h5 hk.1.size, h6⟩
    have : c * ((f : Nat) + 1 : Nat) = c * (f : Int) + c := by push_cast; rw [Int.mul_add, Int.mul_one]
    omega

theorem lasts_oneK (z : Tmp) (U : Tmp → Option Tmp) (dst : Option Tmp) (ob : Option Nat) (c : Int) (B : Nat) (a : Option Addr) (len cap : Nat) (d : Int) : lastsU U (RowK z ob c B a len cap) dst (fun v w => OneI ob d v w ∧ ∃ g', v = .slice (some ⟨g', 0, none⟩) 1 1 ∧ B < g') := by
  rintro d' _ _ v w w' ⟨⟨g', h1, h2, h3, h4⟩, g2, h5, h6⟩ hr
  have e : g2 = g' := by
    rw [h1] at h5
    injection h5 with h5
    injection h5 with h5
    injection h5 with h5
    exact h5.symm
  subst e
  have hb : w'.heap[g2]? = w.heap[g2]? ∧ w.heap.size ≤ w'.heap.size := by
    by_cases hd : d' = some z
    · unfold RowK at hr
      rw [if_pos hd] at hr
      exact ⟨hr.block g2 h2 fun e => h3 e.symm, hr.size⟩
    · have := rowK_of hd hr
      exact ⟨this.1.block g2 h2 (by omega), this.1.size⟩
  exact ⟨⟨g2, h1, Nat.lt_of_lt_of_le h2 hb.2, h3, fun j u hu => (World.cell?_of_block (a := (⟨g2, 0, none⟩ : Addr).add j) (by rw [add_block]; exact hb.1)).trans (h4 j u hu)⟩, g2, h5, h6⟩

theorem lasts_rowK (z : Tmp) (U : Tmp → Option Tmp) (ob : Option Nat) (c : Int) (B : Nat) (a : Option Addr) (len cap base k : Nat) (hB : B < base) (zs : List Int) : lastsU U (RowK z ob c B a len cap) (some z) (RowF base k zs) := by
  rintro d' hd _ v w w' ⟨g3, cp3, h1, h2⟩ hr
  exact ⟨g3, cp3, h1, h2.off (rowK_of hd hr).1 hB⟩

def OneR (ob : Option Nat) (B : Nat) : Fact := fun v w => ∃ z : Int, OneI ob z v w ∧ ∃ g', v = .slice (some ⟨g', 0, none⟩) 1 1 ∧ B < g'

theorem lasts_oneR (z : Tmp) (U : Tmp → Option Tmp) (dst : Option Tmp) (ob : Option Nat) (c : Int) (B : Nat) (a : Option Addr) (len cap : Nat) : lastsU U (RowK z ob c B a len cap) dst (OneR ob B) := by
  rintro d' h1 h2 v w w' ⟨q, h⟩ hr
  exact ⟨q, lasts_oneK z U dst ob c B a len cap q d' h1 h2 v w w' h hr⟩

def RowR (base k : Nat) (zs : List Int) : Fact := fun v w => ∃ z : Int, RowF base k (zs ++ [z]) v w

theorem lasts_rowR (z : Tmp) (U : Tmp → Option Tmp) (ob : Option Nat) (c : Int) (B : Nat) (a : Option Addr) (len cap base k : Nat) (hB : B < base) (zs : List Int) : lastsU U (RowK z ob c B a len cap) (some z) (RowR base k zs) := by
  rintro d' h1 h2 v w w' ⟨q, h⟩ hr
  exact ⟨q, lasts_rowK z U ob c B a len cap base k hB (zs ++ [q]) d' h1 h2 v w w' h hr⟩

/-- The box behind an append: the row is one longer. -/
theorem VS.next {w w' : World} {B : Nat} {a : Option Addr} {len cap : Nat} {M : Int} {x : Option Addr} {k cpd g c : Nat} {zs : List Int} {z : Int} (hl : zs.length = k) (hB : B < w.heap.size) (h1 : Hole B w w') (h2 : Cur w' B a len cap M) (h3 : w'.heap[w.heap.size]? = some (.cells #[.slice none 0 0] 26 (0, 0))) (h4 : w'.heap[w.heap.size + 1]? = some (.cells #[.slice x k cpd] 26 (0, 0)))
    (hr : RowI w' (w.heap.size + 1 + 1) (.slice (some ⟨g, 0, none⟩) (k + 1) c) (zs ++ [z])) :
    VS w (w'.setCell ⟨w.heap.size + 1, 0, none⟩ (.slice (some ⟨g, 0, none⟩) (k + 1) c)) B a len cap M (some ⟨g, 0, none⟩) (k + 1) c (zs ++ [z]) :=
  ⟨h1.setNew (Nat.le_add_right _ 1) 0 _, h2.setOther (by omega) 0 _, (Below.heap_setCell _ _ _ _ (by show w.heap.size ≠ w.heap.size + 1; omega)).trans h3, one_setCell h4, ownsRow_setCell_below (a := ⟨w.heap.size + 1, 0, none⟩) hr (Nat.lt_succ_self _) _, by simp [hl]⟩

theorem VS.move {w wr w' : World} {B : Nat} {a : Option Addr} {len cap : Nat} {N M : Int} {x : Option Addr} {k cpd : Nat} {zs : List Int} (h : VS w wr B a len cap N x k cpd zs) (hB : B < w.heap.size) (hh : Hole B wr w') (hc : Cur w' B a len cap M) : VS w w' B a len cap M x k cpd zs := by
  have hl := h.lt
  exact ⟨h.hole.trans hh, hc, (hh.block _ (by omega) (by omega)).trans h.b0, (hh.block _ (by omega) (by omega)).trans h.b1, h.row.off hh (by omega), h.len⟩

theorem VS.more {w wr : World} {B : Nat} {a : Option Addr} {len cap : Nat} {N M : Int} {x : Option Addr} {k cpd : Nat} {zs : List Int} (h : VS w wr B a len cap N x k cpd zs) (hM : N ≤ M) : VS w wr B a len cap M x k cpd zs :=
  ⟨h.hole, h.cur.more hM, h.b0, h.b1, h.row, h.len⟩

theorem VS.set {w wr : World} {B : Nat} {a : Option Addr} {len cap : Nat} {N : Int} {g k cpd : Nat} {zs : List Int} (h : VS w wr B a len cap N (some ⟨g, 0, none⟩) k cpd zs) (hB : B < w.heap.size) (r : Nat) (z : Int) : VS w (wr.setCell ⟨g, r, none⟩ (.int .i64 z)) B a len cap N (some ⟨g, 0, none⟩) k cpd (zs.set r z) := by
  have hg := World.ownsRow.lt h.row g rfl
  have hl := h.len
  have hst := (World.ownsRow.stored (by have := h.row; unfold RowI at this; rw [hl] at this; exact this) r (.int .i64 z)).1
  refine ⟨h.hole.setNew (by omega) r _, h.cur.setOther (by omega) r _, (Below.heap_setCell _ _ _ _ (by show w.heap.size ≠ g; omega)).trans h.b0, (Below.heap_setCell _ _ _ _ (by show w.heap.size + 1 ≠ g; omega)).trans h.b1, ?_, by simp [hl]⟩
  unfold RowI
  rw [List.length_set, hl, List.map_set]
  exact hst

theorem VS.ptr {w wr : World} {B : Nat} {a : Option Addr} {len cap : Nat} {N : Int} {x : Option Addr} {k cpd : Nat} {zs : List Int} (h : VS w wr B a len cap N x k cpd zs) (hk : 0 < k) : ∃ g, x = some ⟨g, 0, none⟩ := by
  rcases h.row.2 with ⟨h1, h2⟩ | ⟨g, c, cur, h1, _⟩
  · rw [h.len] at h2
    omega
  · injection h1 with h1
    exact ⟨g, h1⟩

/-- A row of numbers that was laid. -/
def LaidK (B n : Nat) (b : Nat) (w : World) : Prop := B < b ∧ ∃ cs : Array Value, w.heap[b]? = some (.cells cs 3 (0, 0)) ∧ ∀ i, i < n → ∃ z : Int, cs[i]? = some (.int .i64 z)

def BuiltK (B n : Nat) : Fact := fun v w => ∃ b, v = .slice (some ⟨b, 0, none⟩) n n ∧ LaidK B n b w

def PtrK (B n : Nat) : Fact := fun v w => ∃ b q, v = .pointer (some ⟨b, q, none⟩) ∧ q < n ∧ LaidK B n b w

theorem LaidK.step {B n b : Nat} {w w' : World} (h : LaidK B n b w) (hh : Hole B w w') : LaidK B n b w' := by
  obtain ⟨h1, cs, h2, h3⟩ := h
  exact ⟨h1, cs, (hh.block b (Array.getElem?_eq_some_iff.1 h2).1 (by omega)).trans h2, h3⟩

theorem LaidK.cell {B n b : Nat} {w : World} (h : LaidK B n b w) {i : Nat} (hi : i < n) : ∃ z : Int, w.cell? ⟨b, i, none⟩ = some (.int .i64 z) := by
  obtain ⟨_, cs, h2, h3⟩ := h
  obtain ⟨z, hz⟩ := h3 i hi
  exact ⟨z, (cell_of_row _ _ i _ _ (0, 0) h2).trans hz⟩

theorem lasts_builtK (c : Int) (B n : Nat) (a : Option Addr) (len cap : Nat) : lasts (CurK c B a len cap) (BuiltK B n) := by
  rintro v w w' ⟨b, h1, h2⟩ hr
  exact ⟨b, h1, h2.step hr.1⟩

theorem lasts_ptrK (c : Int) (B n : Nat) (a : Option Addr) (len cap : Nat) : lasts (CurK c B a len cap) (PtrK B n) := by
  rintro v w w' ⟨b, q, h1, h0, h2⟩ hr
  exact ⟨b, q, h1, h0, h2.step hr.1⟩

theorem laid3 (w : World) (B : Nat) (r : Int) (h : B < w.heap.size) (x y : Int) : LaidK B 3 w.heap.size (w.alloc (.cells #[.int .i64 r, .int .i64 x, .int .i64 y] 3)) :=
  ⟨h, _, heap_alloc_new w _, fun i hi => by
    match i, hi with
    | 0, _ => exact ⟨_, rfl⟩
    | 1, _ => exact ⟨_, rfl⟩
    | 2, _ => exact ⟨_, rfl⟩⟩

def IntK : Fact := fun v _ => ∃ r : Int, v = .int .i64 r

def LessK (n : Int) : Fact := fun v _ => ∃ r : Nat, v = .int .i64 (r : Int) ∧ (r : Int) < n

set_option maxRecDepth 100000 in
set_option maxHeartbeats 8000000 in
theorem vec_any (B : Nat) (a : Option Addr) (len cap : Nat) (N : Int) (w : World) (hN : N ≤ 80000) (h : Cur w B a len cap N) :
    Calls Try.prog 21 #[.pointer (some ⟨B, 0, none⟩)] w fun e w' => ∃ g cp zs, e = .returned (vecV (some ⟨g, 0, none⟩) zs.length cp) ∧ zs.length ≤ 5 ∧ RowI w' w.heap.size (.slice (some ⟨g, 0, none⟩) zs.length cp) zs ∧ Cur w' B a len cap (N + 200) ∧ Hole B w w' := by
  have HC := Lib.hid h
  have hB := h.lt
  have hres : Try.f21.results = #[.cell 2 26] := by kernel_rfl
  clear h
  obtain ⟨i0, hi0, hx0⟩ := Option.map_eq_some_iff.1 infoInt
  simp only [Prod.mk.injEq] at hx0
  have HI0 := Lib.hid hi0
  have HX0 := Lib.hid hx0
  clear hi0 hx0
  have hA : Below w.heap.size w ((w.alloc (.cells #[.slice none 0 0] 26)).alloc (.cells #[.slice none 0 0] 26)) := ((Below.refl _ _).alloc (Nat.le_refl _) _).alloc (by simp) _
  have HVS : Hid (VS w ((w.alloc (.cells #[.slice none 0 0] 26)).alloc (.cells #[.slice none 0 0] 26)) B a len cap N none 0 0 []) := ⟨Hole.of_below hA, HC.out.below hA, by rw [Below.heap_alloc _ _ _ (by simp)]; exact heap_alloc_new w _, by simpa using heap_alloc_new (w.alloc (.cells #[.slice none 0 0] 26)) (.cells #[.slice none 0 0] 26), World.ownsRow_nil _ _ _ _, rfl⟩
  clear hA
  go_enter Try.func21, Try.ntmps21
  go_wp2
  go_loopw [4] (fun i wr => ∃ (k : Nat) (x : Option Addr) (cpd : Nat) (zs : List Int), k ≤ 4 ∧ i = .int .i64 k ∧ Hid (VS w wr B a len cap (N + 10 * (k : Int)) x k cpd zs)) (fun i _ => 4 - (intOf i).toNat)
  case atStart => exact ⟨0, none, 0, [], Nat.zero_le _, rfl, by simpa using HVS⟩
  case round =>
    clear HVS
    obtain ⟨k, x, cpd, zs, hk, rfl, HS⟩ := hrel
    have hlt := HS.out.lt
    have hlen := HS.out.len
    by_cases hk' : k < 4
    · have i1 : (0 : Int) ≤ (k : Int) := by omega
      have i2 : (k : Int) < 4 := by omega
      obtain ⟨ob, hob⟩ : ∃ ob, (Value.slice x k cpd).ownBlock = ob := ⟨_, rfl⟩
      have HOB : Hid (∀ g, ob = some g → w.heap.size + 1 + 1 ≤ g) := fun g hg => (World.ownsRow.lt HS.out.row g (hob.trans hg)).1
      have HOL : Hid (∀ g, ob = some g → g < wr.heap.size) := fun g hg => (World.ownsRow.lt HS.out.row g (hob.trans hg)).2
      have HOE := Lib.hid hob
      clear hob
      go_wp2_with fail
      refine wp_region_slots_u 6 [[(3, false)], [(10, true)], [(0, false)], [(12, true)], [(13, true)], [(11, true), (14, true)]] (fun w' => ∃ f : Nat, f ≤ 8 ∧ VSc w wr B a len cap (N + 10 * (k : Int) + 8) 1 x k cpd f w') (fun w' => VSc w wr B a len cap (N + 10 * (k : Int) + 8) 1 x k cpd 0 w') (fun f w' => VSc w wr B a len cap (N + 10 * (k : Int) + 8) 1 x k cpd f w') (fun d w' => d = some 15 → RowI w' (w.heap.size + 1 + 1) (.slice x k cpd) zs) (fun _ => none) (RowK 15 ob 1 B a len cap) (by kernel_rfl) (by kernel_rfl) (by rfl) ⟨HS.out.hole.drew, (HS.out.cur.below (Below.refl _ _).drew).more (by simp), HS.out.b0, HS.out.b1, Nat.le_refl _, by omega⟩ (by kernel_rfl) (fun _ _ => HS.out.row.below (Below.refl _ _).drew) (fun _ h => by cases h) (fun d d' hd w1 w2 h1 h2 h3 => (h1 h3).off (rowK_of (h3 ▸ hd) h2).1 (by omega)) (fun _ _ _ _ _ _ h => by cases h) (fun d f w1 w2 h1 h2 => vsc_step (by omega) hB HOB.out d f w1 w2 h1 h2) (fun f w1 hf h => ⟨f + 1, Nat.succ_le_of_lt (by simpa using hf), h⟩) (fun f w1 hf h => ⟨h.1, h.2.1.more (by omega), h.2.2⟩) ?_
      have HRF : Hid (∀ (d : Option Tmp) (w : World), d ≠ some 15 → RowK 15 ob 1 B a len cap d w w) := fun d w hd => rowK_cur hd (curK_refl 1 (by omega) B a len cap w)
      apply slotU_eq
      · intro ρ w' ⟨p1, p2, p3⟩ hS hEE hn
        simp at hn
        go_simp
        exact ⟨HRF.out _ _ (by simp), rfl⟩
      apply slotU_eq
      · intro ρ w' ⟨p1, p2, p3⟩ ⟨f, hf, h1, h2, h3, h4, h5, h6⟩ hEE hn
        have c1 := (cells_one h4).1
        simp at hn
        go_simp
        exact ⟨HRF.out _ _ (by simp), rfl⟩
      apply slotU_eq
      · intro ρ w' ⟨p1, p2, p3⟩ hS hEE hn
        simp at hn
        go_simp
        exact ⟨HRF.out _ _ (by simp), rfl⟩
      refine slotU_fact (fun v _ => ∃ r : Nat, v = .int .i64 (r : Int)) (fun _ _ _ _ _ _ h _ => h) ?_ ?_
      · intro ρ w' ⟨p1, p2, p3⟩ ⟨f, hf, h1, h2, h3, h4, h5, h6⟩ hEE hn
        simp at hn
        go_simp
        exact got_call (pick_curK 1 (by omega) B a len cap _ 4 w' (by omega) (by omega) (by omega) h2) fun e w'' ⟨r, he, hr, hk⟩ => ⟨_, he, rowK_cur (by simp) hk, r, rfl⟩
      refine slotU_fact (OneR ob B) (lasts_oneR _ _ _ _ _ _ _ _ _) ?_ ?_
      · intro ρ w' ⟨p1, p2, p3⟩ ⟨f, hf, h1, h2, h3, h4, h5, h6⟩ hEE hn
        simp at hn
        obtain ⟨r, f13⟩ := hn
        go_simp
        exact ⟨rowK_cur (by simp) (curK_below 1 (by omega) B a len cap ((Below.refl _ _).alloc (Nat.le_refl _) _)), (r : Int), ⟨_, rfl, by simp, fun e => by have h7 := HOL.out _ e; omega, oneI_cells _ _ _⟩, _, rfl, by omega⟩
      refine slotU_fact (RowR (w.heap.size + 1 + 1) k zs) (lasts_rowR _ _ _ _ _ _ _ _ _ _ (by omega) _) ?_ ?_
      · intro ρ w' ⟨p1, p2, p3⟩ ⟨f, hf, h1, h2, h3, h4, h5, h6⟩ hEE hn
        simp at hn
        obtain ⟨f11, z, ⟨g', f14, hg3, hg4, hg5⟩, -⟩ := hn
        have hown := hEE rfl
        unfold RowI at hown
        rw [hlen] at hown
        refine got_append (.tmp 11) (.tmp 14) _ rfl (w.heap.size + 1 + 1) 3 i0 (.int .i64 0) 1 8 Try.underlying24 HI0.out HX0.out.1 HX0.out.2.1 HX0.out.2.2 (by rfl) (by omega) (.slice x k cpd) k (zs.map intV) f11 hown ⟨g', 0, none⟩ 1 1 [intV z] f14 (by rfl) hg5 (intV_one [z]) (by omega) (by unfold maxLen; omega) (by omega) (by omega) _ rfl ?_
        intro g3 cp3 w5 q1 q2 q3 q4
        rw [HOE.out] at q2
        refine ⟨rowK_row q2, z, g3, cp3, rfl, ?_⟩
        unfold RowI
        rw [List.length_append, List.map_append, hlen]
        simpa using q1
      refine slotU_end ?_
      rintro vs w4 ⟨h1, h2, h3, h4, h5, h6⟩ hF
      simp at hF
      obtain ⟨⟨z, g3, cp3, f15, hrow⟩, ⟨z2, ⟨g2, f14, -, -, -⟩, -⟩, ⟨r, f13⟩, f12, f11, f10⟩ := hF
      have HN5 := Lib.hid (VS.next hlen hB h1 (h2.more (show _ ≤ N + 10 * ((k + 1 : Nat) : Int) by push_cast; omega)) h3 h4 hrow)
      obtain ⟨c1, q1, -⟩ := cells_one h4
      clear hrow h1 h2 h3 h4 h5 HRF HS HOB HOL HOE
      simp only [List.take_succ_cons, List.take_zero, List.drop_succ_cons, List.drop_zero, putAll, f15, f14, f13, f12, f11, f10]
      clear f15 f14 f13 f12 f11 f10
      simp only [Act.put, List.setIfInBounds_toArray, List.set_cons_succ, List.set_cons_zero]
      go_wp2
      exact ⟨⟨k + 1, _, _, _, by omega, by go_num, HN5⟩, by simp [intOf]; omega⟩
    · have hkk : k = 4 := by omega
      subst hkk
      go_wp2_with fail
      obtain ⟨g, rfl⟩ := HS.out.ptr (by omega)
      clear hlt hlen
      refine (once_any B a len cap _ 12 _ (by omega) (by omega) (by omega) HS.out.cur).mono ?_
      rintro e w5 ⟨r5, rfl, hc5, hh5⟩
      have HV5 := Lib.hid (HS.out.move hB hh5 hc5)
      clear hc5 hh5 HS
      cases r5
      · obtain ⟨c1, q1, l1⟩ := cells_one HV5.out.b1
        go_wp2_with fail
        refine (once_any B a len cap _ 20 _ (by omega) (by omega) (by omega) HV5.out.cur).mono ?_
        rintro e w7 ⟨r7, rfl, hc7, hh7⟩
        have HV7 := Lib.hid (HV5.out.move hB hh7 hc7)
        clear hc7 hh7 c1 q1 l1 HV5
        cases r7
        · obtain ⟨c1, q1, l1⟩ := cells_one HV7.out.b1
          obtain ⟨c0, q0, l0⟩ := cells_one HV7.out.b0
          go_wp2
          refine bodyPost_ret (v := vecV (some ⟨g, 0, none⟩) 4 cpd) (by simp only [results, hres]; go_simp) rfl ⟨g, cpd, _, by rw [HV7.out.len], by rw [HV7.out.len]; omega, ?_, (HV7.out.cur.setOther hB 0 _).more (by omega), HV7.out.hole.setNew (Nat.le_refl _) 0 _⟩
          rw [HV7.out.len]
          exact (RowI.mono (ownsRow_setCell_below (a := ⟨w.heap.size, 0, none⟩) HV7.out.row (by show w.heap.size < w.heap.size + 1 + 1; omega) _) (by omega))
        · obtain ⟨c1, q1, l1⟩ := cells_one HV7.out.b1
          have hlt7 := HV7.out.lt
          have HA : Hid (Below w7.heap.size w7 (w7.alloc (.cells #[.int .i64 1] 3))) := (Below.refl _ _).alloc (Nat.le_refl _) _
          have HRA : Hid ((w7.alloc (.cells #[.int .i64 1] 3)).ownsRow (w.heap.size + 1 + 1) 3 1 (.slice (some ⟨g, 0, none⟩) 4 cpd) 4 ((zs).map intV)) := by
            have h := HV7.out.row.below HA.out
            unfold RowI at h
            rw [HV7.out.len] at h
            exact h
          have HCC := Lib.hid (oneI_cells w7 3 1)
          have HLZ : Hid (((zs).map intV).length = 4 * 1) := by
            show _ = _
            rw [List.length_map, HV7.out.len]
          have HOB : Hid (∀ j, (Value.slice (some ⟨g, 0, none⟩) 4 cpd).ownBlock = some j → w.heap.size + 1 + 1 ≤ j) := fun j hj => (World.ownsRow.lt HRA.out j hj).1
          go_wp2_with (at_builtin; refine wpList_append_lies _ (by rfl) _ _ _ (by rfl) (w.heap.size + 1 + 1) 3 i0 (.int .i64 0) 1 8 Try.underlying24 HI0.out HX0.out.1 HX0.out.2.1 HX0.out.2.2 (by rfl) (by omega) (.slice (some ⟨g, 0, none⟩) 4 cpd) 4 ((zs).map intV) (by rfl) HRA.out ⟨w7.heap.size, 0, none⟩ 1 1 [intV 1] (by rfl) (by rfl) HCC.out (intV_one [1]) (by omega) (by unfold maxLen; omega) (by omega) (by simp; omega) _ rfl ?_; intro g8 cp8 w8 hown hgrow hg8 _; refine Hid.out ?_)
          refine Lib.hid ?_
          have hne : ∀ j, j < w.heap.size + 1 + 1 → some j ≠ (Value.slice (some ⟨g, 0, none⟩) 4 cpd).ownBlock := fun j hj e => by have := HOB.out j e.symm; omega
          have hbl : ∀ j, j < w.heap.size + 1 + 1 → w8.heap[j]? = w7.heap[j]? := fun j hj => (hgrow.block j (by simp; omega) (hne j hj)).trans (HA.out.block j (by omega))
          have HV8 := Lib.hid (VS.next (z := 1) (c := cp8) (g := g8) HV7.out.len hB ⟨hgrow.os.trans HV7.out.hole.os, hgrow.tape.trans HV7.out.hole.tape, hgrow.output.trans HV7.out.hole.output, Nat.le_trans HV7.out.hole.size (Nat.le_trans HA.out.size hgrow.size), fun j hj hn => (hbl j (by omega)).trans (HV7.out.hole.block j hj hn)⟩ ((HV7.out.cur.below HA.out).grown hgrow (fun j hj => by have := HOB.out j hj; omega)) ((hbl _ (by omega)).trans HV7.out.b0) ((hbl _ (by omega)).trans HV7.out.b1) (by
            unfold RowI
            rw [List.length_append, List.map_append, HV7.out.len]
            exact hown))
          obtain ⟨c2, q2, l2⟩ := cells_one ((hbl _ (by omega)).trans HV7.out.b1)
          clear hown hgrow hg8 HRA HCC HLZ hne hbl c1 q1 l1 HA HOB HV7
          go_upto_region 10 with fail
          generalize (w8.setCell ⟨w.heap.size + 1, 0, none⟩ (.slice (some ⟨g8, 0, none⟩) (4 + 1) cp8)) = w9 at *
          clear c2 q2 l2
          obtain ⟨c1, q1, l1⟩ := cells_one HV8.out.b1
          obtain ⟨c0, q0, l0⟩ := cells_one HV8.out.b0
          go_wp2
          refine bodyPost_ret (v := vecV (some ⟨g8, 0, none⟩) 5 cp8) (by simp only [results, hres]; go_simp) rfl ⟨g8, cp8, _, by rw [HV8.out.len], by rw [HV8.out.len]; omega, ?_, (HV8.out.cur.setOther hB 0 _).more (by omega), HV8.out.hole.setNew (Nat.le_refl _) 0 _⟩
          rw [HV8.out.len]
          exact (RowI.mono (ownsRow_setCell_below (a := ⟨w.heap.size, 0, none⟩) HV8.out.row (by show w.heap.size < w.heap.size + 1 + 1; omega) _) (by omega))
      · have HS6 := Lib.hid (HV5.out.more (show _ ≤ N + 10 * ((4 : Nat) : Int) + 1 + 3 * 13 - 3 * ((13 : Nat) : Int) by omega))
        go_wp2_with fail
        refine wp_region_slots_n 12 [[(3, false)], [(19, true)], [(0, false)], [(21, true)], [(0, false)], [(23, true)], [(24, true)], [(0, false)], [(26, true)], [(25, true), (27, true)], [(28, true)], [(20, true), (22, true)]] (fun w' => ∃ f : Nat, f ≤ 13 ∧ VS w w' B a len cap (N + 10 * ((4 : Nat) : Int) + 1 + 3 * 13 - 3 * (f : Int)) (some ⟨g, 0, none⟩) 4 cpd zs) (fun w' => VS w w' B a len cap (N + 10 * ((4 : Nat) : Int) + 1 + 3 * 13) (some ⟨g, 0, none⟩) 4 cpd zs) (fun f w' => VS w w' B a len cap (N + 10 * ((4 : Nat) : Int) + 1 + 3 * 13 - 3 * (f : Int)) (some ⟨g, 0, none⟩) 4 cpd zs) (CurK 3 B a len cap) (by kernel_rfl) (by kernel_rfl) (by rfl) (HS6.out.move hB (Hole.refl _ _).drew (HS6.out.cur.below (Below.refl _ _).drew)) (fun f w1 w2 h1 h2 => (h1.move hB h2.1 (h2.2 _ (by omega) h1.cur)).more (by push_cast; omega)) (fun f w1 hf h => ⟨f + 1, Nat.succ_le_of_lt (by simpa using hf), h⟩) (fun f w1 hf h => h.more (by omega)) ?_
        apply slot_eq
        · intro ρ w' ⟨p1, p2, p3⟩ ⟨f, hf, hS⟩ hn
          simp at hn
          go_simp
          exact ⟨curK_refl 3 (by omega) _ _ _ _ _, rfl⟩
        apply slot_eq
        · intro ρ w' ⟨p1, p2, p3⟩ ⟨f, hf, hS⟩ hn
          have c1 := (cells_one hS.b1).1
          simp at hn
          go_simp
          exact ⟨curK_refl 3 (by omega) _ _ _ _ _, rfl⟩
        apply slot_eq
        · intro ρ w' ⟨p1, p2, p3⟩ ⟨f, hf, hS⟩ hn
          simp at hn
          go_simp
          exact ⟨curK_refl 3 (by omega) _ _ _ _ _, rfl⟩
        refine slot_fact (LessK 4) (fun _ _ _ h _ => h) ?_ ?_
        · intro ρ w' ⟨p1, p2, p3⟩ ⟨f, hf, hS⟩ hn
          simp at hn
          go_simp
          exact got_call (pick_curK 3 (by omega) B a len cap _ 4 w' (by omega) (by omega) (by omega) hS.cur) fun e w'' ⟨r, he, hr, hk⟩ => ⟨_, he, hk, r, rfl, hr⟩
        apply slot_eq
        · intro ρ w' ⟨p1, p2, p3⟩ ⟨f, hf, hS⟩ hn
          simp at hn
          go_simp
          exact ⟨curK_refl 3 (by omega) _ _ _ _ _, rfl⟩
        refine slot_fact IntK (fun _ _ _ h _ => h) ?_ ?_
        · intro ρ w' ⟨p1, p2, p3⟩ ⟨f, hf, hS⟩ hn
          simp at hn
          go_simp
          exact got_call (raw_curK 3 (by omega) B a len cap _ w' (by omega) hS.cur) fun e w'' ⟨r, he, hk⟩ => ⟨_, he, hk, r, rfl⟩
        refine slot_fact (BuiltK B 3) (lasts_builtK _ _ _ _ _ _) ?_ ?_
        · intro ρ w' ⟨p1, p2, p3⟩ ⟨f, hf, hS⟩ hn
          simp at hn
          obtain ⟨r, f24⟩ := hn
          have hbs := hS.cur.lt
          go_simp
          exact ⟨curK_below 3 (by omega) _ _ _ _ ((Below.refl _ _).alloc (Nat.le_refl _) _), _, rfl, laid3 w' B r hbs _ _⟩
        apply slot_eq
        · intro ρ w' ⟨p1, p2, p3⟩ ⟨f, hf, hS⟩ hn
          simp at hn
          go_simp
          exact ⟨curK_refl 3 (by omega) _ _ _ _ _, rfl⟩
        refine slot_fact (LessK 3) (fun _ _ _ h _ => h) ?_ ?_
        · intro ρ w' ⟨p1, p2, p3⟩ ⟨f, hf, hS⟩ hn
          simp at hn
          go_simp
          exact got_call (pick_curK 3 (by omega) B a len cap _ 3 w' (by omega) (by omega) (by omega) hS.cur) fun e w'' ⟨r, he, hr, hk⟩ => ⟨_, he, hk, r, rfl, hr⟩
        refine slot_fact (PtrK B 3) (lasts_ptrK _ _ _ _ _ _) ?_ ?_
        · intro ρ w' ⟨p1, p2, p3⟩ ⟨f, hf, hS⟩ hn
          simp at hn
          obtain ⟨⟨b, f25, hL⟩, q, f27, hq⟩ := hn
          have i1 : (0 : Int) ≤ (q : Int) := by omega
          go_simp
          exact ⟨curK_refl 3 (by omega) _ _ _ _ _, b, q, rfl, by omega, hL⟩
        refine slot_fact IntK (fun _ _ _ h _ => h) ?_ ?_
        · intro ρ w' ⟨p1, p2, p3⟩ ⟨f, hf, hS⟩ hn
          simp at hn
          obtain ⟨b, q, f28, hq, hL⟩ := hn
          obtain ⟨z, hz⟩ := hL.cell hq
          go_simp
          exact ⟨curK_refl 3 (by omega) _ _ _ _ _, z, rfl⟩
        refine slot_fact (fun v _ => ∃ q : Nat, v = .pointer (some ⟨g, q, none⟩) ∧ (q : Int) < 4) (fun _ _ _ h _ => h) ?_ ?_
        · intro ρ w' ⟨p1, p2, p3⟩ ⟨f, hf, hS⟩ hn
          simp at hn
          obtain ⟨f20, q, f22, hq⟩ := hn
          have i1 : (0 : Int) ≤ (q : Int) := by omega
          go_simp
          exact ⟨curK_refl 3 (by omega) _ _ _ _ _, q, rfl, hq⟩
        refine slot_end ?_
        rintro vs w6 hS hF
        simp at hF
        obtain ⟨⟨q, f30, hq⟩, ⟨z, f29⟩, ⟨b28, q28, f28, -⟩, ⟨q27, f27, -⟩, f26, ⟨b25, f25, -⟩, ⟨z24, f24⟩, f23, ⟨q22, f22, -⟩, f21, f20, f19⟩ := hF
        have HV6 := Lib.hid (hS.set hB q z)
        have hcg : w6.cell? ⟨g, q, none⟩ = some (.int .i64 (zs.getD q 0)) := by
          have h := hS.row
          unfold RowI at h
          rw [hS.len] at h
          rw [World.ownsRow.cellAt h q (by omega)]
          have hz4 := hS.len
          have hq4 : q < zs.length := by omega
          simp [intV, List.getD, hq4]
        have hfg : ∀ o, w6.frozen? ⟨g, o, none⟩ = false := fun o => by
          have h := hS.row
          unfold RowI at h
          rw [hS.len] at h
          exact World.ownsRow.frozenAt h o
        clear hS
        simp only [List.take_succ_cons, List.take_zero, List.drop_succ_cons, List.drop_zero, putAll, f30, f29, f28, f27, f26, f25, f24, f23, f22, f21, f20, f19]
        clear f30 f29 f28 f27 f26 f25 f24 f23 f22 f21 f20 f19
        simp only [Act.put, List.setIfInBounds_toArray, List.set_cons_succ, List.set_cons_zero]
        go_upto_region 8 with fail
        generalize (w6.setCell ⟨g, q, none⟩ (.int .i64 z)) = wX at *
        clear hcg hfg
        obtain ⟨c1, q1, l1⟩ := cells_one HV6.out.b1
        go_wp2_with fail
        refine (once_any B a len cap _ 20 _ (by omega) (by omega) (by omega) HV6.out.cur).mono ?_
        rintro e w7 ⟨r7, rfl, hc7, hh7⟩
        have HV7 := Lib.hid (HV6.out.move hB hh7 hc7)
        clear hc7 hh7 c1 q1 l1 HV6
        cases r7
        · obtain ⟨c1, q1, l1⟩ := cells_one HV7.out.b1
          obtain ⟨c0, q0, l0⟩ := cells_one HV7.out.b0
          go_wp2
          refine bodyPost_ret (v := vecV (some ⟨g, 0, none⟩) 4 cpd) (by simp only [results, hres]; go_simp) rfl ⟨g, cpd, _, by rw [HV7.out.len], by rw [HV7.out.len]; omega, ?_, (HV7.out.cur.setOther hB 0 _).more (by omega), HV7.out.hole.setNew (Nat.le_refl _) 0 _⟩
          rw [HV7.out.len]
          exact (RowI.mono (ownsRow_setCell_below (a := ⟨w.heap.size, 0, none⟩) HV7.out.row (by show w.heap.size < w.heap.size + 1 + 1; omega) _) (by omega))
        · obtain ⟨c1, q1, l1⟩ := cells_one HV7.out.b1
          have hlt7 := HV7.out.lt
          have HA : Hid (Below w7.heap.size w7 (w7.alloc (.cells #[.int .i64 1] 3))) := (Below.refl _ _).alloc (Nat.le_refl _) _
          have HRA : Hid ((w7.alloc (.cells #[.int .i64 1] 3)).ownsRow (w.heap.size + 1 + 1) 3 1 (.slice (some ⟨g, 0, none⟩) 4 cpd) 4 ((zs.set q z).map intV)) := by
            have h := HV7.out.row.below HA.out
            unfold RowI at h
            rw [HV7.out.len] at h
            exact h
          have HCC := Lib.hid (oneI_cells w7 3 1)
          have HLZ : Hid (((zs.set q z).map intV).length = 4 * 1) := by
            show _ = _
            rw [List.length_map, HV7.out.len]
          have HOB : Hid (∀ j, (Value.slice (some ⟨g, 0, none⟩) 4 cpd).ownBlock = some j → w.heap.size + 1 + 1 ≤ j) := fun j hj => (World.ownsRow.lt HRA.out j hj).1
          go_wp2_with (at_builtin; refine wpList_append_lies _ (by rfl) _ _ _ (by rfl) (w.heap.size + 1 + 1) 3 i0 (.int .i64 0) 1 8 Try.underlying24 HI0.out HX0.out.1 HX0.out.2.1 HX0.out.2.2 (by rfl) (by omega) (.slice (some ⟨g, 0, none⟩) 4 cpd) 4 ((zs.set q z).map intV) (by rfl) HRA.out ⟨w7.heap.size, 0, none⟩ 1 1 [intV 1] (by rfl) (by rfl) HCC.out (intV_one [1]) (by omega) (by unfold maxLen; omega) (by omega) (by simp; omega) _ rfl ?_; intro g8 cp8 w8 hown hgrow hg8 _; refine Hid.out ?_)
          refine Lib.hid ?_
          have hne : ∀ j, j < w.heap.size + 1 + 1 → some j ≠ (Value.slice (some ⟨g, 0, none⟩) 4 cpd).ownBlock := fun j hj e => by have := HOB.out j e.symm; omega
          have hbl : ∀ j, j < w.heap.size + 1 + 1 → w8.heap[j]? = w7.heap[j]? := fun j hj => (hgrow.block j (by simp; omega) (hne j hj)).trans (HA.out.block j (by omega))
          have HV8 := Lib.hid (VS.next (z := 1) (c := cp8) (g := g8) HV7.out.len hB ⟨hgrow.os.trans HV7.out.hole.os, hgrow.tape.trans HV7.out.hole.tape, hgrow.output.trans HV7.out.hole.output, Nat.le_trans HV7.out.hole.size (Nat.le_trans HA.out.size hgrow.size), fun j hj hn => (hbl j (by omega)).trans (HV7.out.hole.block j hj hn)⟩ ((HV7.out.cur.below HA.out).grown hgrow (fun j hj => by have := HOB.out j hj; omega)) ((hbl _ (by omega)).trans HV7.out.b0) ((hbl _ (by omega)).trans HV7.out.b1) (by
            unfold RowI
            rw [List.length_append, List.map_append, HV7.out.len]
            exact hown))
          obtain ⟨c2, q2, l2⟩ := cells_one ((hbl _ (by omega)).trans HV7.out.b1)
          clear hown hgrow hg8 HRA HCC HLZ hne hbl c1 q1 l1 HA HOB HV7
          go_upto_region 10 with fail
          generalize (w8.setCell ⟨w.heap.size + 1, 0, none⟩ (.slice (some ⟨g8, 0, none⟩) (4 + 1) cp8)) = w9 at *
          clear c2 q2 l2
          obtain ⟨c1, q1, l1⟩ := cells_one HV8.out.b1
          obtain ⟨c0, q0, l0⟩ := cells_one HV8.out.b0
          go_wp2
          refine bodyPost_ret (v := vecV (some ⟨g8, 0, none⟩) 5 cp8) (by simp only [results, hres]; go_simp) rfl ⟨g8, cp8, _, by rw [HV8.out.len], by rw [HV8.out.len]; omega, ?_, (HV8.out.cur.setOther hB 0 _).more (by omega), HV8.out.hole.setNew (Nat.le_refl _) 0 _⟩
          rw [HV8.out.len]
          exact (RowI.mono (ownsRow_setCell_below (a := ⟨w.heap.size, 0, none⟩) HV8.out.row (by show w.heap.size < w.heap.size + 1 + 1; omega) _) (by omega))

end Go.Proofs.Ytolmlcbgdihcbab

/- The draws of DrawVecCmp and DrawVecTick. -/
namespace Go.Proofs.Ytolmlcbgdihcbab
open Go.ChangeShapes Go.WideShapes Go.ChangeAt Go.RowKit Go.Joins

theorem vec_curK (c : Int) (hc : 200 ≤ c) (B : Nat) (a : Option Addr) (len cap lo : Nat) (M : Int) (w : World) (hM : M ≤ 80000) (hB : lo ≤ w.heap.size) (h : Cur w B a len cap M) :
    Calls Try.prog 21 #[.pointer (some ⟨B, 0, none⟩)] w fun e w' => ∃ g cp zs, e = .returned (vecV (some ⟨g, 0, none⟩) zs.length cp) ∧ zs.length ≤ 5 ∧ RowI w' lo (.slice (some ⟨g, 0, none⟩) zs.length cp) zs ∧ CurK c B a len cap w w' := by
  obtain ⟨at_, seed, hcur, hN', hk, hl⟩ := h
  have h0 : Cur w B a len cap at_ := ⟨at_, seed, hcur, Int.le_refl _, hk, hl⟩
  refine (vec_any B a len cap at_ w (by omega) h0).mono ?_
  rintro e w' ⟨g, cp, zs, rfl, h5, hr, hc', hh⟩
  refine ⟨g, cp, zs, rfl, h5, hr.mono hB, hh, fun K _ hK => hc'.more ?_⟩
  obtain ⟨at2, seed2, hc2, h2, _⟩ := hK
  have e1 : at2 = at_ := by
    have h3 := hc2.c1
    rw [hcur.c1] at h3
    injection h3 with h3
    injection h3 with _ h3
    exact h3.symm
  omega

/-- A vector that was drawn. -/
def VecG (lo : Nat) : Fact := fun v w => ∃ g cp zs, v = vecV (some ⟨g, 0, none⟩) zs.length cp ∧ zs.length ≤ 5 ∧ RowI w lo (.slice (some ⟨g, 0, none⟩) zs.length cp) zs

theorem lasts_vecG (c : Int) (B : Nat) (a : Option Addr) (len cap lo : Nat) (hB : B < lo) : lasts (CurK c B a len cap) (VecG lo) := by
  rintro v w w' ⟨g, cp, zs, h1, h2, h3⟩ hr
  exact ⟨g, cp, zs, h1, h2, h3.off hr.1 hB⟩

theorem OwnI.offH {w w' : World} {B lo hi : Nat} {a : Option Addr} {zs : List Int} (h : OwnI w lo hi a zs) (hh : Hole B w w') (hB : B < lo) : OwnI w' lo hi a zs := by
  rcases h with h | ⟨b, ha, h1, h2, hlt, hc, hf⟩
  · exact .inl h
  · exact .inr ⟨b, ha, h1, h2, Nat.lt_of_lt_of_le hlt hh.size, fun i hi => (hh.cell hlt (by omega)).trans (hc i hi), fun o => (hh.frozen hlt (by omega)).trans (hf o)⟩

/-- A vector that was joined. -/
def AnsG (lo : Nat) : Fact := fun v w => ∃ g cp zs, v = vecV g zs.length cp ∧ zs.length ≤ 5 ∧ OwnI w lo w.heap.size g zs

theorem lasts_ansG (c : Int) (B : Nat) (a : Option Addr) (len cap lo : Nat) (hB : B < lo) : lasts (CurK c B a len cap) (AnsG lo) := by
  rintro v w w' ⟨g, cp, zs, h1, h2, h3⟩ hr
  exact ⟨g, cp, zs, h1, h2, (h3.offH hr.1 hB).wider (Nat.le_refl _) hr.1.size⟩

theorem RowI.toOwn {w : World} {lo : Nat} {g : Option Addr} {n cp : Nat} {zs : List Int} (h : RowI w lo (.slice g n cp) zs) : OwnI w lo w.heap.size g zs := by
  obtain ⟨a', c', e, ho⟩ := h.form
  injection e with e1 e2 e3
  subst e1
  exact ho

theorem joinV_len5 (xs ys : List Int) : (joinV xs ys).length ≤ 5 := by
  unfold joinV
  split
  · rename_i h
    rw [Bool.and_eq_true] at h
    obtain ⟨x0, x1, x2, x3, rfl, -⟩ := vecB_four h.1
    simp
    omega
  · simp

theorem cell_hole {B : Nat} {w w' : World} {b j : Nat} {v : Value} (hh : Hole B w w') (hz : b < w.heap.size) (hn : b ≠ B) (h : w.cell? ⟨b, j, none⟩ = some v) : w'.cell? ⟨b, j, none⟩ = some v := (hh.cell hz hn).trans h

theorem frozen_hole {B : Nat} {w w' : World} {b : Nat} (hh : Hole B w w') (hz : b < w.heap.size) (hn : b ≠ B) (h : ∀ o, w.frozen? ⟨b, o, none⟩ = false) : ∀ o, w'.frozen? ⟨b, o, none⟩ = false := fun o => (hh.frozen hz hn).trans (h o)

set_option maxRecDepth 100000 in
set_option maxHeartbeats 8000000 in
theorem drawVecCmp_any (a : Option Addr) (len cap : Nat) (w : World) (h : Bytes w a len) (hl : len ≤ 1048576) :
    Calls Try.prog 6 #[.slice a len cap] w fun e w' => ∃ a1 cp1 zs1 a2 cp2 zs2, e = .returned (.tuple #[vecV a1 zs1.length cp1, vecV a2 zs2.length cp2]) ∧ zs1.length ≤ 5 ∧ zs2.length ≤ 5 ∧ IsIs w' a1 zs1 ∧ IsIs w' a2 zs2 ∧ Below w.heap.size w w' := by
  have hres : Try.f6.results = #[.cell 2 26, .cell 3 26] := by kernel_rfl
  have HY := Lib.hid h
  clear h
  go_enter Try.func6, Try.ntmps6
  go_wp2_with fail
  have HB0 : Hid (Below w.heap.size w ((w.alloc (.cells #[.slice none 0 0] 26)).alloc (.cells #[.slice none 0 0] 26))) := ((Below.refl _ _).alloc (Nat.le_refl _) _).alloc (by simp) _
  have r0 : ((w.alloc (.cells #[.slice none 0 0] 26)).alloc (.cells #[.slice none 0 0] 26)).cell? ⟨w.heap.size, 0, none⟩ = some (.slice none 0 0) := by go_simp
  have q0 : ∀ o, ((w.alloc (.cells #[.slice none 0 0] 26)).alloc (.cells #[.slice none 0 0] 26)).frozen? ⟨w.heap.size, o, none⟩ = false := fun o => by go_simp
  have r1 : ((w.alloc (.cells #[.slice none 0 0] 26)).alloc (.cells #[.slice none 0 0] 26)).cell? ⟨w.heap.size + 1, 0, none⟩ = some (.slice none 0 0) := by go_simp
  have q1 : ∀ o, ((w.alloc (.cells #[.slice none 0 0] 26)).alloc (.cells #[.slice none 0 0] 26)).frozen? ⟨w.heap.size + 1, o, none⟩ = false := fun o => by go_simp
  have hz0 : w.heap.size + 1 < ((w.alloc (.cells #[.slice none 0 0] 26)).alloc (.cells #[.slice none 0 0] 26)).heap.size := by simp
  generalize ((w.alloc (.cells #[.slice none 0 0] 26)).alloc (.cells #[.slice none 0 0] 26)) = V at *
  have HYV := Lib.hid (HY.out.below HB0.out)
  refine (open_any a len cap V HYV.out hl).mono ?_
  rintro e w1 ⟨rfl, hc1, hb1⟩
  have HC1 := Lib.hid hc1
  have HB1 := Lib.hid (below_step HB0.out HB0.out.size hb1)
  have hBV : w.heap.size < V.heap.size := by omega
  replace r0 := (hb1.cell (p := ⟨w.heap.size, 0, none⟩) hBV).trans r0
  replace q0 : ∀ o, w1.frozen? ⟨w.heap.size, o, none⟩ = false := fun o => (hb1.frozen (p := ⟨w.heap.size, o, none⟩) hBV).trans (q0 o)
  replace r1 := (hb1.cell (p := ⟨w.heap.size + 1, 0, none⟩) hz0).trans r1
  replace q1 : ∀ o, w1.frozen? ⟨w.heap.size + 1, o, none⟩ = false := fun o => (hb1.frozen (p := ⟨w.heap.size + 1, o, none⟩) hz0).trans (q1 o)
  have hV1 : V.heap.size < w1.heap.size := hc1.lt
  have hle1 : V.heap.size ≤ w1.heap.size := by omega
  clear hc1 hb1 HYV HY HB0
  generalize V.heap.size = B at *
  go_wp2_with fail
  refine (vec_any B a len cap 0 _ (by omega) HC1.out).mono ?_
  rintro e w2 ⟨g1, cp1, zs1, rfl, h51, hr1, hc2, hh2⟩
  have HR2 := Lib.hid hr1
  have HC2 := Lib.hid hc2
  have HH2 := Lib.hid hh2
  have hle2 : w1.heap.size ≤ w2.heap.size := hh2.size
  replace r0 := cell_hole hh2 (by omega) (by omega) r0
  replace q0 := frozen_hole hh2 (by omega) (by omega) q0
  replace r1 := cell_hole hh2 (by omega) (by omega) r1
  replace q1 := frozen_hole hh2 (by omega) (by omega) q1
  clear hr1 hc2 hh2 HC1
  go_wp2_with fail
  have hA : Below w2.heap.size w2 (w2.alloc (.cells #[.slice (some ⟨g1, 0, none⟩) zs1.length cp1] 26)) := (Below.refl _ _).alloc (Nat.le_refl _) _
  have c5 : (w2.alloc (.cells #[.slice (some ⟨g1, 0, none⟩) zs1.length cp1] 26)).cell? ⟨w2.heap.size, 0, none⟩ = some (.slice (some ⟨g1, 0, none⟩) zs1.length cp1) := by go_simp
  have hz5 : w2.heap.size < (w2.alloc (.cells #[.slice (some ⟨g1, 0, none⟩) zs1.length cp1] 26)).heap.size := by simp
  replace HR2 := Lib.hid (HR2.out.below hA)
  replace HC2 := Lib.hid (HC2.out.below hA)
  replace HH2 := Lib.hid (HH2.out.trans (Hole.of_below hA))
  replace r0 := (hA.cell (p := ⟨w.heap.size, 0, none⟩) (show w.heap.size < w2.heap.size by omega)).trans r0
  replace q0 : ∀ o, (w2.alloc (.cells #[.slice (some ⟨g1, 0, none⟩) zs1.length cp1] 26)).frozen? ⟨w.heap.size, o, none⟩ = false := fun o => (hA.frozen (p := ⟨w.heap.size, o, none⟩) (show w.heap.size < w2.heap.size by omega)).trans (q0 o)
  replace r1 := (hA.cell (p := ⟨w.heap.size + 1, 0, none⟩) (show w.heap.size + 1 < w2.heap.size by omega)).trans r1
  replace q1 : ∀ o, (w2.alloc (.cells #[.slice (some ⟨g1, 0, none⟩) zs1.length cp1] 26)).frozen? ⟨w.heap.size + 1, o, none⟩ = false := fun o => (hA.frozen (p := ⟨w.heap.size + 1, o, none⟩) (show w.heap.size + 1 < w2.heap.size by omega)).trans (q1 o)
  clear hA
  generalize (w2.alloc (.cells #[.slice (some ⟨g1, 0, none⟩) zs1.length cp1] 26)) = V2 at *
  refine (pick_any B a len cap _ 4 _ (by omega) (by omega) (by omega) HC2.out).mono ?_
  rintro e w3 ⟨r, rfl, hr0, hr4, hc3, hh3⟩
  have HC3 := Lib.hid hc3
  have HH3 := Lib.hid (HH2.out.trans hh3)
  have HR3 := Lib.hid (HR2.out.off hh3 (by omega))
  replace c5 := cell_hole hh3 hz5 (by omega) c5
  replace r0 := cell_hole hh3 (by omega) (by omega) r0
  replace q0 := frozen_hole hh3 (by omega) (by omega) q0
  replace r1 := cell_hole hh3 (by omega) (by omega) r1
  replace q1 := frozen_hole hh3 (by omega) (by omega) q1
  have hle3 : V2.heap.size ≤ w3.heap.size := hh3.size
  replace hz5 := Nat.lt_of_lt_of_le hz5 hle3
  clear hc3 hh3 HC2 HR2 HH2
  by_cases hq0 : r = 0
  · subst hq0
    go_wp2_with fail
    have OW1 := Lib.hid ((HR3.out.mono (show B + 1 ≤ w1.heap.size by omega)).toOwn)
    clear HR3 HC3
    go_region
    clear c5
    go_wp2
    refine bodyPost_ret (v := .tuple #[vecV (some ⟨g1, 0, none⟩) zs1.length cp1, vecV (some ⟨g1, 0, none⟩) zs1.length cp1]) (by simp only [results, hres]; go_simp) rfl ⟨some ⟨g1, 0, none⟩, cp1, zs1, some ⟨g1, 0, none⟩, cp1, zs1, rfl, h51, h51, ?_, ?_, ?_⟩
    · exact ((OW1.out.aside (p := ⟨w.heap.size, 0, none⟩) (by show w.heap.size < B + 1; omega) _).aside (p := ⟨w.heap.size + 1, 0, none⟩) (by show w.heap.size + 1 < B + 1; omega) _).isIs
    · exact ((OW1.out.aside (p := ⟨w.heap.size, 0, none⟩) (by show w.heap.size < B + 1; omega) _).aside (p := ⟨w.heap.size + 1, 0, none⟩) (by show w.heap.size + 1 < B + 1; omega) _).isIs
    · exact (((Hole.below HB1.out HH3.out (by omega) HB1.out.size).setCell (p := ⟨w.heap.size, 0, none⟩) (Nat.le_refl _) _).setCell (p := ⟨w.heap.size + 1, 0, none⟩) (Nat.le_add_right _ 1) _).drew
  · by_cases hq1 : r = 1
    · subst hq1
      go_wp2_with fail
      refine wp_region_slots_n 5 [[(5, false)], [(5, false)], [(4, false)], [(20, true)], [(19, true), (21, true)]] (fun w' => Hole B w3 w' ∧ ∃ K : Int, K ≤ 70000 ∧ Cur w' B a len cap K) (fun w' => Hole B w3 w') (fun f w' => Hole B w3 w' ∧ Cur w' B a len cap (10000 - 300 * (f : Int)) ∧ f ≤ 7) (CurK 300 B a len cap) (by kernel_rfl) (by kernel_rfl) (by rfl) ⟨(Hole.refl _ _).drew, (HC3.out.below (Below.refl _ _).drew).more (by simp), by simp⟩ (fun f w1 w2 h1 h2 => ⟨h1.1.trans h2.1, (h2.2 _ (by omega) h1.2.1).more (by push_cast; omega), by have := h1.2.2; omega⟩) (fun f w1 hf h => ⟨h.1, _, by omega, h.2.1⟩) (fun f w1 hf h => h.1) ?_
      iterate 3 (apply slot_eq; · (intro ρ w' ⟨p1, p2, p3⟩ ⟨hS, K, hK, hCK⟩ hn; have d0 := cell_hole hS hz5 (by omega) c5; simp at hn; go_simp; exact ⟨curK_refl 300 (by omega) _ _ _ _ _, rfl⟩))
      refine slot_fact (VecG (B + 1)) (lasts_vecG _ _ _ _ _ _ (by omega)) ?_ ?_
      · intro ρ w' ⟨p1, p2, p3⟩ ⟨hS, K, hK, hCK⟩ hn
        have hsz := hS.size
        simp at hn
        go_simp
        exact got_call (vec_curK 300 (by omega) B a len cap (B + 1) K w' (by omega) (by omega) hCK) fun e w'' ⟨g, cp, zs, he, h5, hr, hk⟩ => ⟨_, he, hk, g, cp, zs, rfl, h5, hr⟩
      refine slot_fact (AnsG (B + 1)) (lasts_ansG _ _ _ _ _ _ (by omega)) ?_ ?_
      · intro ρ w' ⟨p1, p2, p3⟩ ⟨hS, K, hK, hCK⟩ hn
        simp at hn
        obtain ⟨f19, g, cp, zs, f21, h5, hr⟩ := hn
        have hsz := hS.size
        go_simp
        exact got_call (specVecJoin_any _ _ _ _ _ _ zs1 zs w' rfl (by unfold maxLen; omega) ((HR3.out.off hS (by omega)).toOwn.isIs) rfl (by unfold maxLen; omega) hr.toOwn.isIs) fun e w'' ⟨g2, cp2, he, ho, hb⟩ => ⟨_, he, curK_below 300 (by omega) _ _ _ _ hb, g2, cp2, _, rfl, joinV_len5 _ _, ho.wider (by omega) (Nat.le_refl _)⟩
      refine slot_end ?_
      rintro vs w4 hS hF
      simp at hF
      obtain ⟨⟨g2, cp2, zs2, f22, H52, ho2⟩, ⟨g9, cp9, zs9, f21, -⟩, f20, f19, f18⟩ := hF
      have OW2 := Lib.hid ho2
      replace r0 := cell_hole hS (show w.heap.size < w3.heap.size by omega) (by omega) r0
      replace q0 := frozen_hole hS (show w.heap.size < w3.heap.size by omega) (by omega) q0
      replace r1 := cell_hole hS (show w.heap.size + 1 < w3.heap.size by omega) (by omega) r1
      replace q1 := frozen_hole hS (show w.heap.size + 1 < w3.heap.size by omega) (by omega) q1
      have HHX := Lib.hid (HH3.out.trans hS)
      have OW1 := Lib.hid (((HR3.out.mono (show B + 1 ≤ w1.heap.size by omega)).off hS (by omega)).toOwn)
      clear hS HR3 HC3 c5 ho2
      simp only [List.take_succ_cons, List.take_zero, List.drop_succ_cons, List.drop_zero, putAll, f22, f21, f20, f19, f18]
      clear f22 f21 f20 f19 f18
      simp only [Act.put, List.setIfInBounds_toArray, List.set_cons_succ, List.set_cons_zero]
      go_wp2
      refine bodyPost_ret (v := .tuple #[vecV (some ⟨g1, 0, none⟩) zs1.length cp1, vecV g2 zs2.length cp2]) (by simp only [results, hres]; go_simp) rfl ⟨some ⟨g1, 0, none⟩, cp1, zs1, g2, cp2, zs2, rfl, h51, H52, ?_, ?_, ?_⟩
      · exact ((OW1.out.aside (p := ⟨w.heap.size, 0, none⟩) (by show w.heap.size < B + 1; omega) _).aside (p := ⟨w.heap.size + 1, 0, none⟩) (by show w.heap.size + 1 < B + 1; omega) _).isIs
      · exact ((OW2.out.aside (p := ⟨w.heap.size, 0, none⟩) (by show w.heap.size < B + 1; omega) _).aside (p := ⟨w.heap.size + 1, 0, none⟩) (by show w.heap.size + 1 < B + 1; omega) _).isIs
      · exact ((Hole.below HB1.out HHX.out (by omega) HB1.out.size).setCell (p := ⟨w.heap.size, 0, none⟩) (Nat.le_refl _) _).setCell (p := ⟨w.heap.size + 1, 0, none⟩) (Nat.le_add_right _ 1) _
    · have k0 : (r == 0) = false := by simpa using hq0
      have k1 : (r == 1) = false := by simpa using hq1
      clear hq0 hq1
      go_wp2_with fail
      refine wp_region_slots_n 3 [[(5, false)], [(4, false)], [(24, true)]] (fun w' => Hole B w3 w' ∧ ∃ K : Int, K ≤ 70000 ∧ Cur w' B a len cap K) (fun w' => Hole B w3 w') (fun f w' => Hole B w3 w' ∧ Cur w' B a len cap (10000 - 300 * (f : Int)) ∧ f ≤ 5) (CurK 300 B a len cap) (by kernel_rfl) (by kernel_rfl) (by rfl) ⟨(Hole.refl _ _).drew, (HC3.out.below (Below.refl _ _).drew).more (by simp), by simp⟩ (fun f w1 w2 h1 h2 => ⟨h1.1.trans h2.1, (h2.2 _ (by omega) h1.2.1).more (by push_cast; omega), by have := h1.2.2; omega⟩) (fun f w1 hf h => ⟨h.1, _, by omega, h.2.1⟩) (fun f w1 hf h => h.1) ?_
      iterate 2 (apply slot_eq; · (intro ρ w' ⟨p1, p2, p3⟩ ⟨hS, K, hK, hCK⟩ hn; have d0 := cell_hole hS hz5 (by omega) c5; simp at hn; go_simp; exact ⟨curK_refl 300 (by omega) _ _ _ _ _, rfl⟩))
      refine slot_fact (VecG (B + 1)) (lasts_vecG _ _ _ _ _ _ (by omega)) ?_ ?_
      · intro ρ w' ⟨p1, p2, p3⟩ ⟨hS, K, hK, hCK⟩ hn
        have hsz := hS.size
        simp at hn
        go_simp
        exact got_call (vec_curK 300 (by omega) B a len cap (B + 1) K w' (by omega) (by omega) hCK) fun e w'' ⟨g, cp, zs, he, h5, hr, hk⟩ => ⟨_, he, hk, g, cp, zs, rfl, h5, hr⟩
      refine slot_end ?_
      rintro vs w4 hS hF
      simp at hF
      obtain ⟨⟨g2, cp2, zs2, f25, H52, hr2⟩, f24, f23⟩ := hF
      have OW2 := Lib.hid hr2.toOwn
      replace r0 := cell_hole hS (show w.heap.size < w3.heap.size by omega) (by omega) r0
      replace q0 := frozen_hole hS (show w.heap.size < w3.heap.size by omega) (by omega) q0
      replace r1 := cell_hole hS (show w.heap.size + 1 < w3.heap.size by omega) (by omega) r1
      replace q1 := frozen_hole hS (show w.heap.size + 1 < w3.heap.size by omega) (by omega) q1
      have HHX := Lib.hid (HH3.out.trans hS)
      have OW1 := Lib.hid (((HR3.out.mono (show B + 1 ≤ w1.heap.size by omega)).off hS (by omega)).toOwn)
      clear hS HR3 HC3 c5 hr2
      simp only [List.take_succ_cons, List.take_zero, List.drop_succ_cons, List.drop_zero, putAll, f25, f24, f23]
      clear f25 f24 f23
      simp only [Act.put, List.setIfInBounds_toArray, List.set_cons_succ, List.set_cons_zero]
      go_wp2
      refine bodyPost_ret (v := .tuple #[vecV (some ⟨g1, 0, none⟩) zs1.length cp1, vecV (some ⟨g2, 0, none⟩) zs2.length cp2]) (by simp only [results, hres]; go_simp) rfl ⟨some ⟨g1, 0, none⟩, cp1, zs1, (some ⟨g2, 0, none⟩), cp2, zs2, rfl, h51, H52, ?_, ?_, ?_⟩
      · exact ((OW1.out.aside (p := ⟨w.heap.size, 0, none⟩) (by show w.heap.size < B + 1; omega) _).aside (p := ⟨w.heap.size + 1, 0, none⟩) (by show w.heap.size + 1 < B + 1; omega) _).isIs
      · exact ((OW2.out.aside (p := ⟨w.heap.size, 0, none⟩) (by show w.heap.size < B + 1; omega) _).aside (p := ⟨w.heap.size + 1, 0, none⟩) (by show w.heap.size + 1 < B + 1; omega) _).isIs
      · exact ((Hole.below HB1.out HHX.out (by omega) HB1.out.size).setCell (p := ⟨w.heap.size, 0, none⟩) (Nat.le_refl _) _).setCell (p := ⟨w.heap.size + 1, 0, none⟩) (Nat.le_add_right _ 1) _

/-- What an operation may do while a vector is handed over to the block D: the cursor moves on; the block D gets the vector. -/
def RD (D B : Nat) (a : Option Addr) (len cap : Nat) (v0 : Value) (w w' : World) : Prop :=
  w'.os = w.os ∧ w'.tape = w.tape ∧ w'.output = w.output ∧ w.heap.size ≤ w'.heap.size ∧ (∀ k, k < w.heap.size → k ≠ B → k ≠ D → w'.heap[k]? = w.heap[k]?) ∧ (∀ K : Int, K ≤ 90000 → Cur w B a len cap K → Cur w' B a len cap (K + 300)) ∧ (D < w.heap.size → w'.heap[D]? = w.heap[D]? ∨ w'.heap[D]? = some (.cells #[v0] 26 (0, 0)))

theorem rd_cur {D B : Nat} {a : Option Addr} {len cap : Nat} {v0 : Value} {w w' : World} (hD : D ≠ B) (h : CurK 300 B a len cap w w') : RD D B a len cap v0 w w' :=
  ⟨h.1.os, h.1.tape, h.1.output, h.1.size, fun k hk hB _ => h.1.block k hk hB, h.2, fun hk => .inl (h.1.block D hk hD)⟩

theorem rd_set {D B : Nat} {a : Option Addr} {len cap : Nat} {v0 : Value} {x : Option Addr} {y z : Nat} {w : World} (hD : D < B) (hb : w.heap[D]? = some (.cells #[.slice x y z] 26 (0, 0))) : RD D B a len cap v0 w (w.setCell ⟨D, 0, none⟩ v0) := by
  refine ⟨rfl, rfl, rfl, by simp, fun k _ _ hk => Below.heap_setCell _ _ _ _ hk, fun K _ hK => ?_, fun _ => .inr (one_setCell hb)⟩
  obtain ⟨at_, seed, hcur, hN', hk, hl⟩ := hK
  have hne : ∀ b o', b ≠ D → (Addr.mk D 0 none) ≠ ⟨b, o', none⟩ := fun b o' h e => by
    have : D = b := by injection e
    exact h this.symm
  refine ⟨at_, seed, ⟨by simpa using hcur.lt, (World.cell?_setCell_other _ _ _ _ (hne _ _ (by omega))).trans hcur.c0, (World.cell?_setCell_other _ _ _ _ (hne _ _ (by omega))).trans hcur.c1, (World.cell?_setCell_other _ _ _ _ (hne _ _ (by omega))).trans hcur.c2, fun o => by rw [World.frozen?_setCell]; exact hcur.fz o, hcur.p0, hcur.s0, hcur.s1⟩, by omega, ?_, hl⟩
  rcases hk with h0 | ⟨b, o, ha, hb', hz⟩
  · exact .inl h0
  · refine .inr ⟨b, o, ha, hb', fun i hi => ?_⟩
    obtain ⟨z, z0, z1, hcell⟩ := hz i hi
    by_cases e : b = D
    · subst e
      rw [cell_of_row w b (o + i) _ _ (0, 0) hb] at hcell
      generalize o + i = q at hcell
      cases q with
      | zero => simp at hcell
      | succ q => simp at hcell
    · exact ⟨z, z0, z1, (World.cell?_setCell_other _ _ _ _ (hne _ _ e)).trans hcell⟩

/-- What holds while DrawVecTick's region goes on. -/
def SD (D B : Nat) (a : Option Addr) (len cap : Nat) (v0 : Value) (V : World) (f : Nat) (w' : World) : Prop :=
  (w'.os = V.os ∧ w'.tape = V.tape ∧ w'.output = V.output ∧ V.heap.size ≤ w'.heap.size ∧ (∀ k, k < V.heap.size → k ≠ B → k ≠ D → w'.heap[k]? = V.heap[k]?)) ∧ Cur w' B a len cap (10000 - 300 * (f : Int)) ∧ f ≤ 20 ∧ D < V.heap.size ∧ (w'.heap[D]? = some (.cells #[.slice none 0 0] 26 (0, 0)) ∨ w'.heap[D]? = some (.cells #[v0] 26 (0, 0)))

theorem sd_step {D B : Nat} {a : Option Addr} {len cap : Nat} {v0 : Value} {V : World} (f : Nat) (w1 w2 : World) (h : SD D B a len cap v0 V (f + 1) w1) (hr : RD D B a len cap v0 w1 w2) : SD D B a len cap v0 V f w2 := by
  obtain ⟨⟨h1, h2, h3, h4, h5⟩, hc, hf, hD, hv⟩ := h
  obtain ⟨r1, r2, r3, r4, r5, rc, rv⟩ := hr
  refine ⟨⟨r1.trans h1, r2.trans h2, r3.trans h3, Nat.le_trans h4 r4, fun k hk hB hkD => (r5 k (Nat.lt_of_lt_of_le hk h4) hB hkD).trans (h5 k hk hB hkD)⟩, (rc _ (by omega) hc).more (by push_cast; omega), by omega, hD, ?_⟩
  rcases rv (by omega) with e | e
  · rw [e]
    exact hv
  · exact .inr e

def BuiltD (D B n : Nat) : Fact := fun v w => ∃ b, v = .slice (some ⟨b, 0, none⟩) n n ∧ b ≠ D ∧ LaidK B n b w

def PtrD (D B n : Nat) : Fact := fun v w => ∃ b q, v = .pointer (some ⟨b, q, none⟩) ∧ q < n ∧ b ≠ D ∧ LaidK B n b w

theorem laid_rd {D B n b : Nat} {a : Option Addr} {len cap : Nat} {v0 : Value} {w w' : World} (h : LaidK B n b w) (hb : b ≠ D) (hr : RD D B a len cap v0 w w') : LaidK B n b w' := by
  obtain ⟨h1, cs, h2, h3⟩ := h
  exact ⟨h1, cs, (hr.2.2.2.2.1 b (Array.getElem?_eq_some_iff.1 h2).1 (by omega) hb).trans h2, h3⟩

theorem lasts_builtD (D B n : Nat) (a : Option Addr) (len cap : Nat) (v0 : Value) : lasts (RD D B a len cap v0) (BuiltD D B n) := by
  rintro v w w' ⟨b, h1, h2, h3⟩ hr
  exact ⟨b, h1, h2, laid_rd h3 h2 hr⟩

theorem lasts_ptrD (D B n : Nat) (a : Option Addr) (len cap : Nat) (v0 : Value) : lasts (RD D B a len cap v0) (PtrD D B n) := by
  rintro v w w' ⟨b, q, h1, h0, h2, h3⟩ hr
  exact ⟨b, q, h1, h0, h2, laid_rd h3 h2 hr⟩

theorem laid3v (w : World) (B : Nat) (x y z : Int) (h : B < w.heap.size) : LaidK B 3 w.heap.size (w.alloc (.cells #[.int .i64 x, .int .i64 y, .int .i64 z] 3)) := laid3 w B x h y z

set_option maxRecDepth 100000 in
set_option maxHeartbeats 8000000 in
theorem drawVecTick_any (a : Option Addr) (len cap : Nat) (w : World) (h : Bytes w a len) (hl : len ≤ 1048576) :
    Calls Try.prog 7 #[.slice a len cap] w fun e w' => ∃ a1 cp1 zs1 si, e = .returned (.tuple #[vecV a1 zs1.length cp1, .int .i64 si]) ∧ zs1.length ≤ 5 ∧ IsIs w' a1 zs1 ∧ Below w.heap.size w w' := by
  have hres : Try.f7.results = #[.cell 2 26, .tmp 3] := by kernel_rfl
  have HY := Lib.hid h
  clear h
  go_enter Try.func7, Try.ntmps7
  go_wp2_with fail
  have HB0 : Hid (Below w.heap.size w (w.alloc (.cells #[.slice none 0 0] 26))) := (Below.refl _ _).alloc (Nat.le_refl _) _
  have rb : (w.alloc (.cells #[.slice none 0 0] 26)).heap[w.heap.size]? = some (.cells #[.slice none 0 0] 26 (0, 0)) := heap_alloc_new w _
  have hz0 : w.heap.size < (w.alloc (.cells #[.slice none 0 0] 26)).heap.size := by simp
  generalize (w.alloc (.cells #[.slice none 0 0] 26)) = V at *
  have HYV := Lib.hid (HY.out.below HB0.out)
  refine (open_any a len cap V HYV.out hl).mono ?_
  rintro e w1 ⟨rfl, hc1, hb1⟩
  have HC1 := Lib.hid hc1
  have HB1 := Lib.hid (below_step HB0.out HB0.out.size hb1)
  have hBV : w.heap.size < V.heap.size := by omega
  replace rb := (hb1.block _ hBV).trans rb
  have hV1 : V.heap.size < w1.heap.size := hc1.lt
  have hle1 : V.heap.size ≤ w1.heap.size := by omega
  clear hc1 hb1 HYV HY HB0
  generalize V.heap.size = B at *
  go_wp2_with fail
  refine (vec_any B a len cap 0 _ (by omega) HC1.out).mono ?_
  rintro e w2 ⟨g1, cp1, zs1, rfl, h51, hr1, hc2, hh2⟩
  have HR2 := Lib.hid hr1
  have HC2 := Lib.hid hc2
  have HH2 := Lib.hid hh2
  have hle2 : w1.heap.size ≤ w2.heap.size := hh2.size
  replace rb := (hh2.block _ (by omega) (by omega)).trans rb
  clear hr1 hc2 hh2 HC1
  go_wp2_with fail
  have hA : Below w2.heap.size w2 (w2.alloc (.cells #[.slice (some ⟨g1, 0, none⟩) zs1.length cp1] 26)) := (Below.refl _ _).alloc (Nat.le_refl _) _
  have c5 : (w2.alloc (.cells #[.slice (some ⟨g1, 0, none⟩) zs1.length cp1] 26)).cell? ⟨w2.heap.size, 0, none⟩ = some (.slice (some ⟨g1, 0, none⟩) zs1.length cp1) := by go_simp
  have hz5 : w2.heap.size < (w2.alloc (.cells #[.slice (some ⟨g1, 0, none⟩) zs1.length cp1] 26)).heap.size := by simp
  replace HR2 := Lib.hid (HR2.out.below hA)
  replace HC2 := Lib.hid (HC2.out.below hA)
  replace HH2 := Lib.hid (HH2.out.trans (Hole.of_below hA))
  replace rb := (hA.block _ (show w.heap.size < w2.heap.size by omega)).trans rb
  clear hA
  generalize (w2.alloc (.cells #[.slice (some ⟨g1, 0, none⟩) zs1.length cp1] 26)) = V2 at *
  have HREF : Hid (∀ W : World, RD w.heap.size B a len cap (.slice (some ⟨g1, 0, none⟩) zs1.length cp1) W W) := fun W => rd_cur (by omega) (curK_refl 300 (by omega) _ _ _ _ W)
  have hDV : w.heap.size < V2.heap.size := by omega
  have c5' : ∀ w' : World, (∀ k, k < V2.heap.size → k ≠ B → k ≠ w.heap.size → w'.heap[k]? = V2.heap[k]?) → w'.cell? ⟨w2.heap.size, 0, none⟩ = some (.slice (some ⟨g1, 0, none⟩) zs1.length cp1) := fun w' hk => (World.cell?_of_block (a := ⟨w2.heap.size, 0, none⟩) (hk w2.heap.size hz5 (by omega) (by omega))).trans c5
  have HC5 := Lib.hid c5'
  clear c5 c5'
  refine wp_region_slots_n 14 [[(5, false)], [(4, false)], [(11, true)], [(4, false)], [(13, true)], [(4, false)], [(15, true)], [(12, true), (14, true), (16, true)], [(4, false)], [(18, true)], [(17, true), (19, true)], [(20, true)], [(2, false), (10, true)], [(21, true)]] (fun w' => ∃ f : Nat, f ≤ 15 ∧ SD w.heap.size B a len cap (.slice (some ⟨g1, 0, none⟩) zs1.length cp1) V2 f w') (fun w' => ∃ f : Nat, SD w.heap.size B a len cap (.slice (some ⟨g1, 0, none⟩) zs1.length cp1) V2 f w') (fun f w' => SD w.heap.size B a len cap (.slice (some ⟨g1, 0, none⟩) zs1.length cp1) V2 f w') (RD w.heap.size B a len cap (.slice (some ⟨g1, 0, none⟩) zs1.length cp1)) (by kernel_rfl) (by kernel_rfl) (by rfl) ⟨⟨rfl, rfl, rfl, Nat.le_refl _, fun _ _ _ _ => rfl⟩, (HC2.out.below (Below.refl _ _).drew).more (by simp), by simp, hDV, .inl rb⟩ (fun f w1 w2 h1 h2 => sd_step f w1 w2 h1 h2) (fun f w1 hf h => ⟨f + 1, Nat.le_succ_of_le (Nat.succ_le_of_lt (by simpa using hf)), h⟩) (fun f w1 hf h => ⟨f, h⟩) ?_
  iterate 1 (apply slot_eq; · (intro ρ w' ⟨p1, p2, p3⟩ ⟨f, hf, hS⟩ hn; have d0 := HC5.out w' hS.1.2.2.2.2; simp at hn; go_simp; exact ⟨HREF.out _, rfl⟩))
  iterate 1 (apply slot_eq; · (intro ρ w' ⟨p1, p2, p3⟩ ⟨f, hf, hS⟩ hn; simp at hn; go_simp; exact ⟨HREF.out _, rfl⟩))
  refine slot_fact (LessK 4) (fun _ _ _ h _ => h) ?_ ?_
  · intro ρ w' ⟨p1, p2, p3⟩ ⟨f, hf, hS⟩ hn
    simp at hn
    go_simp
    exact got_call (pick_curK 300 (by omega) B a len cap _ 4 w' (by omega) (by omega) (by omega) hS.2.1) fun e w'' ⟨r, he, hr, hk⟩ => ⟨_, he, rd_cur (by omega) hk, r, rfl, hr⟩
  iterate 1 (apply slot_eq; · (intro ρ w' ⟨p1, p2, p3⟩ ⟨f, hf, hS⟩ hn; simp at hn; go_simp; exact ⟨HREF.out _, rfl⟩))
  refine slot_fact (LessK 4) (fun _ _ _ h _ => h) ?_ ?_
  · intro ρ w' ⟨p1, p2, p3⟩ ⟨f, hf, hS⟩ hn
    simp at hn
    go_simp
    exact got_call (pick_curK 300 (by omega) B a len cap _ 4 w' (by omega) (by omega) (by omega) hS.2.1) fun e w'' ⟨r, he, hr, hk⟩ => ⟨_, he, rd_cur (by omega) hk, r, rfl, hr⟩
  iterate 1 (apply slot_eq; · (intro ρ w' ⟨p1, p2, p3⟩ ⟨f, hf, hS⟩ hn; simp at hn; go_simp; exact ⟨HREF.out _, rfl⟩))
  refine slot_fact IntK (fun _ _ _ h _ => h) ?_ ?_
  · intro ρ w' ⟨p1, p2, p3⟩ ⟨f, hf, hS⟩ hn
    simp at hn
    go_simp
    exact got_call (raw_curK 300 (by omega) B a len cap _ w' (by omega) hS.2.1) fun e w'' ⟨r, he, hk⟩ => ⟨_, he, rd_cur (by omega) hk, r, rfl⟩
  refine slot_fact (BuiltD w.heap.size B 3) (lasts_builtD _ _ _ _ _ _ _) ?_ ?_
  · intro ρ w' ⟨p1, p2, p3⟩ ⟨f, hf, hS⟩ hn
    simp at hn
    obtain ⟨⟨x, f12, -⟩, ⟨y, f14, -⟩, z, f16⟩ := hn
    have hbs := hS.2.1.lt
    have hsz := hS.1.2.2.2.1
    go_simp
    exact ⟨rd_cur (by omega) (curK_below 300 (by omega) _ _ _ _ ((Below.refl _ _).alloc (Nat.le_refl _) _)), _, rfl, by omega, laid3v w' B x y z hbs⟩
  iterate 1 (apply slot_eq; · (intro ρ w' ⟨p1, p2, p3⟩ ⟨f, hf, hS⟩ hn; simp at hn; go_simp; exact ⟨HREF.out _, rfl⟩))
  refine slot_fact (LessK 3) (fun _ _ _ h _ => h) ?_ ?_
  · intro ρ w' ⟨p1, p2, p3⟩ ⟨f, hf, hS⟩ hn
    simp at hn
    go_simp
    exact got_call (pick_curK 300 (by omega) B a len cap _ 3 w' (by omega) (by omega) (by omega) hS.2.1) fun e w'' ⟨r, he, hr, hk⟩ => ⟨_, he, rd_cur (by omega) hk, r, rfl, hr⟩
  refine slot_fact (PtrD w.heap.size B 3) (lasts_ptrD _ _ _ _ _ _ _) ?_ ?_
  · intro ρ w' ⟨p1, p2, p3⟩ ⟨f, hf, hS⟩ hn
    simp at hn
    obtain ⟨⟨b, f17, hbD, hL⟩, q, f19, hq⟩ := hn
    have i1 : (0 : Int) ≤ (q : Int) := by omega
    go_simp
    exact ⟨HREF.out _, b, q, rfl, by omega, hbD, hL⟩
  refine slot_fact IntK (fun _ _ _ h _ => h) ?_ ?_
  · intro ρ w' ⟨p1, p2, p3⟩ ⟨f, hf, hS⟩ hn
    simp at hn
    obtain ⟨b, q, f20, hq, hbD, hL⟩ := hn
    obtain ⟨z, hz⟩ := hL.cell hq
    go_simp
    exact ⟨HREF.out _, z, rfl⟩
  refine slot_fact (fun _ _ => True) (fun _ _ _ h _ => h) ?_ ?_
  · intro ρ w' ⟨p1, p2, p3⟩ ⟨f, hf, hS⟩ hn
    simp at hn
    rcases hS.2.2.2.2 with hb | hb
    · have d0 := (cells_one hb).1
      have d1 := (cells_one hb).2.1
      go_simp
      exact rd_set (by omega) hb
    · have d0 := (cells_one hb).1
      have d1 := (cells_one hb).2.1
      go_simp
      exact rd_set (by omega) hb
  refine slot_fact IntK (fun _ _ _ h _ => h) ?_ ?_
  · intro ρ w' ⟨p1, p2, p3⟩ ⟨f, hf, hS⟩ hn
    simp at hn
    obtain ⟨z, f21⟩ := hn
    go_simp
    exact ⟨HREF.out _, z, rfl⟩
  refine slot_end ?_
  rintro vs w4 ⟨f, hS⟩ hF
  simp at hF
  obtain ⟨⟨z3, f3⟩, ⟨z21, f21⟩, ⟨b20, q20, f20, -⟩, ⟨q19, f19, -⟩, f18, ⟨b17, f17, -⟩, ⟨z16, f16⟩, f15, ⟨q14, f14, -⟩, f13, ⟨q12, f12, -⟩, f11, f10⟩ := hF
  have HSX := Lib.hid hS
  clear hS
  simp only [List.take_succ_cons, List.take_zero, List.drop_succ_cons, List.drop_zero, putAll, f3, f21, f20, f19, f18, f17, f16, f15, f14, f13, f12, f11, f10]
  clear f3 f21 f20 f19 f18 f17 f16 f15 f14 f13 f12 f11 f10
  simp only [Act.put, List.setIfInBounds_toArray, List.set_cons_succ, List.set_cons_zero]
  have HB9 : Hid (Below w.heap.size w w4) := by
    obtain ⟨⟨h1, h2, h3, h4, h5⟩, -⟩ := HSX.out
    have hb2 := Hole.below HB1.out HH2.out (by omega) HB1.out.size
    exact hb2.trans ⟨h1, h2, h3, h4, fun k hk => h5 k (by omega) (by omega) (by omega)⟩
  have HI9 : Hid (OwnI w4 w1.heap.size V2.heap.size (some ⟨g1, 0, none⟩) zs1) := by
    obtain ⟨⟨h1, h2, h3, h4, h5⟩, -⟩ := HSX.out
    rcases HR2.out.toOwn with h0 | ⟨b, ha, l1, l2, l3, hc, hf⟩
    · exact .inl h0
    · have hb : w4.heap[b]? = V2.heap[b]? := h5 b l3 (by omega) (by omega)
      exact .inr ⟨b, ha, l1, l2, Nat.lt_of_lt_of_le l3 h4, fun i hi => (World.cell?_of_block (a := ⟨b, i, none⟩) hb).trans (hc i hi), fun o => (World.frozen?_of_block (a := ⟨b, o, none⟩) hb).trans (hf o)⟩
  rcases HSX.out.2.2.2.2 with hb | hb
  · have d0 := (cells_one hb).1
    have d1 := (cells_one hb).2.2
    clear hb
    go_wp2
    exact bodyPost_ret (v := .tuple #[vecV none 0 0, .int .i64 z3]) (by simp only [results, hres]; go_simp) rfl ⟨none, 0, [], z3, rfl, by simp, .inl rfl, HB9.out⟩
  · have d0 := (cells_one hb).1
    have d1 := (cells_one hb).2.2
    clear hb
    go_wp2
    exact bodyPost_ret (v := .tuple #[vecV (some ⟨g1, 0, none⟩) zs1.length cp1, .int .i64 z3]) (by simp only [results, hres]; go_simp) rfl ⟨some ⟨g1, 0, none⟩, cp1, zs1, z3, rfl, h51, HI9.out.isIs, HB9.out⟩

end Go.Proofs.Ytolmlcbgdihcbab
