import Derived.Test.YtpejdhbajejmoaaPack4
import Derived.OneCell
import Derived.Deep.DeepCutAuto
import Derived.Test.YtpejdhbajejmoaaPack1
import Derived.Deep.Slices
import Derived.Deep.Strs
import Derived.Test.YtpejdhbajejmoaaPack2
/- The draw of a vector. -/
namespace Go.Proofs.Ytpejdhbajejmoaa
open Go.ChangeShapes Go.WideShapes Go.ChangeAt Go.RowKit Go.Joins

/-- What one operation with the cursor may do: c numbers drawn at most. -/
def CurK (c : Int) (B : Nat) (a : Option Addr) (len cap : Nat) (w w' : World) : Prop := Hole B w w' ∧ ∀ K : Int, K ≤ 90000 → Cur w B a len cap K → Cur w' B a len cap (K + c)

theorem curK_refl (c : Int) (hc : 0 ≤ c) (B : Nat) (a : Option Addr) (len cap : Nat) (w : World) : CurK c B a len cap w w := ⟨Hole.refl _ _, fun _ _ h => h.more (by omega)⟩

theorem curK_below (c : Int) (hc : 0 ≤ c) (B : Nat) (a : Option Addr) (len cap : Nat) {w w' : World} (hb : Below w.heap.size w w') : CurK c B a len cap w w' := ⟨Hole.of_below hb, fun _ _ h => (h.below hb).more (by omega)⟩

/-- The cursor stands where it stands: what is told of one bound is told of every. -/
theorem cur_told {B : Nat} {a : Option Addr} {len cap : Nat} {K c : Int} {w w' : World} (h : Cur w B a len cap K) (hk : ∀ at_ : Int, at_ ≤ K → Cur w B a len cap at_ → Cur w' B a len cap (at_ + c)) : ∀ K : Int, K ≤ 90000 → Cur w B a len cap K → Cur w' B a len cap (K + c) := by
  intro K' _ hK'
  obtain ⟨at_, seed, hc, hN', hcode, hl⟩ := h
  obtain ⟨at2, seed2, hc2, h2, _⟩ := hK'
  have e1 : at2 = at_ := by
    have h3 := hc2.c1
    rw [hc.c1] at h3
    injection h3 with h3
    injection h3 with _ h3
    exact h3.symm
  exact (hk at_ hN' ⟨at_, seed, hc, Int.le_refl _, hcode, hl⟩).more (by omega)

theorem pick_curK (c : Int) (hc : 1 ≤ c) (B : Nat) (a : Option Addr) (len cap : Nat) (M n : Int) (w : World) (hM : M ≤ 90000) (hn : 2 ≤ n) (hn' : n ≤ 1000) (h : Cur w B a len cap M) :
    Calls Try.prog 24 #[.pointer (some ⟨B, 0, none⟩), .int .i64 n] w fun e w' => ∃ r : Nat, e = .returned (.int .i64 (r : Int)) ∧ (r : Int) < n ∧ CurK c B a len cap w w' := by
  obtain ⟨at_, seed, hcur, hN', hk, hl⟩ := h
  have h0 : Cur w B a len cap at_ := ⟨at_, seed, hcur, Int.le_refl _, hk, hl⟩
  refine (pick_any B a len cap at_ n w (by omega) hn (by omega) h0).mono ?_
  rintro e w' ⟨r, rfl, r0, r1, hc', hh⟩
  refine ⟨r.toNat, by rw [Int.toNat_of_nonneg r0], by omega, hh, fun K _ hK => hc'.more ?_⟩
  obtain ⟨at2, seed2, hc2, h2, _⟩ := hK
  have e1 : at2 = at_ := by
    have h3 := hc2.c1
    rw [hcur.c1] at h3
    injection h3 with h3
    injection h3 with _ h3
    exact h3.symm
  omega

theorem raw_curK (c : Int) (hc : 2 ≤ c) (B : Nat) (a : Option Addr) (len cap : Nat) (M : Int) (w : World) (hM : M ≤ 90000) (h : Cur w B a len cap M) :
    Calls Try.prog 27 #[.pointer (some ⟨B, 0, none⟩)] w fun e w' => ∃ r : Int, e = .returned (.int .i64 r) ∧ CurK c B a len cap w w' := by
  obtain ⟨at_, seed, hcur, hN', hk, hl⟩ := h
  have h0 : Cur w B a len cap at_ := ⟨at_, seed, hcur, Int.le_refl _, hk, hl⟩
  refine (raw_any B a len cap at_ w (by omega) h0).mono ?_
  rintro e w' ⟨r, rfl, hc', hh⟩
  refine ⟨r, rfl, hh, fun K _ hK => hc'.more ?_⟩
  obtain ⟨at2, seed2, hc2, h2, _⟩ := hK
  have e1 : at2 = at_ := by
    have h3 := hc2.c1
    rw [hcur.c1] at h3
    injection h3 with h3
    injection h3 with _ h3
    exact h3.symm
  omega

theorem RowI.off {w w' : World} {B base : Nat} {v : Value} {zs : List Int} (h : RowI w base v zs) (hh : Hole B w w') (hB : B < base) : RowI w' base v zs :=
  World.ownsRow.kept (row := some B) h ⟨hh.os, hh.tape, hh.output, hh.size, fun k hk hn => hh.block k hk (fun e => hn (by rw [e]))⟩ (by
    by_cases e : v.ownBlock = none
    · exact .inl e
    · refine .inr fun e2 => ?_
      have := World.ownsRow.lt h B e2
      omega)

theorem Cur.grown {w w' : World} {B : Nat} {a : Option Addr} {len cap : Nat} {N : Int} {ob : Option Nat} (h : Cur w B a len cap N) (hg : w.grownBy w' ob) (hob : ∀ g, ob = some g → B < g) : Cur w' B a len cap N := by
  have hl := h.lt
  have hb : Below (B + 1) w w' := ⟨hg.os, hg.tape, hg.output, hg.size, fun k hk => hg.block k (by omega) fun e => by have := hob _ e.symm; omega⟩
  obtain ⟨at_, seed, hc, hN, hk, hl⟩ := h
  refine ⟨at_, seed, ⟨Nat.lt_of_lt_of_le hc.lt hg.size, (hb.cell (p := ⟨B, 0, none⟩) (Nat.lt_succ_self _)).trans hc.c0, (hb.cell (p := ⟨B, 1, none⟩) (Nat.lt_succ_self _)).trans hc.c1, (hb.cell (p := ⟨B, 2, none⟩) (Nat.lt_succ_self _)).trans hc.c2, fun o => (hb.frozen (p := ⟨B, o, none⟩) (Nat.lt_succ_self _)).trans (hc.fz o), hc.p0, hc.s0, hc.s1⟩, hN, ?_, hl⟩
  rcases hk with h | ⟨b, o, ha, hb', hz⟩
  · exact .inl h
  · refine .inr ⟨b, o, ha, hb', fun i hi => ?_⟩
    obtain ⟨z, z0, z1, hcell⟩ := hz i hi
    exact ⟨z, z0, z1, (hb.cell (p := ⟨b, o + i, none⟩) (show b < B + 1 by omega)).trans hcell⟩

/-- What lies where while a vector is drawn. -/
structure VS (w wr : World) (B : Nat) (a : Option Addr) (len cap : Nat) (N : Int) (x : Option Addr) (k cpd : Nat) (zs : List Int) : Prop where
  hole : Hole B w wr
  cur : Cur wr B a len cap N
  b0 : wr.heap[w.heap.size]? = some (.cells #[.slice none 0 0] 28 (0, 0))
  b1 : wr.heap[w.heap.size + 1]? = some (.cells #[.slice x k cpd] 28 (0, 0))
  row : RowI wr (w.heap.size + 1 + 1) (.slice x k cpd) zs
  len : zs.length = k

theorem VS.lt {w wr : World} {B : Nat} {a : Option Addr} {len cap : Nat} {N : Int} {x : Option Addr} {k cpd : Nat} {zs : List Int} (h : VS w wr B a len cap N x k cpd zs) : w.heap.size + 1 < wr.heap.size := (Array.getElem?_eq_some_iff.1 h.b1).1

/-- What an operation may do in a region with an append into slot s: the append grows the row, all others may move the cursor on. -/
def RowK (s : Tmp) (ob : Option Nat) (c : Int) (B : Nat) (a : Option Addr) (len cap : Nat) : ReachU := fun d w w' => if d = some s then w.grownBy w' ob else CurK c B a len cap w w'

theorem rowK_row {s : Tmp} {ob : Option Nat} {c : Int} {B : Nat} {a : Option Addr} {len cap : Nat} {w w' : World} (h : w.grownBy w' ob) : RowK s ob c B a len cap (some s) w w' := by
  unfold RowK
  rw [if_pos rfl]
  exact h

theorem rowK_cur {s : Tmp} {ob : Option Nat} {c : Int} {B : Nat} {a : Option Addr} {len cap : Nat} {d : Option Tmp} {w w' : World} (hd : d ≠ some s) (h : CurK c B a len cap w w') : RowK s ob c B a len cap d w w' := by
  unfold RowK
  rw [if_neg hd]
  exact h

theorem rowK_of {s : Tmp} {ob : Option Nat} {c : Int} {B : Nat} {a : Option Addr} {len cap : Nat} {d : Option Tmp} {w w' : World} (hd : d ≠ some s) (h : RowK s ob c B a len cap d w w') : CurK c B a len cap w w' := by
  unfold RowK at h
  rw [if_neg hd] at h
  exact h

/-- What holds behind each operation, with a count of those still to come. -/
def VSc (w wr : World) (B : Nat) (a : Option Addr) (len cap : Nat) (M c : Int) (x : Option Addr) (k cpd : Nat) (f : Nat) (w' : World) : Prop :=
  Hole B w w' ∧ Cur w' B a len cap (M - c * f) ∧ w'.heap[w.heap.size]? = some (.cells #[.slice none 0 0] 28 (0, 0)) ∧ w'.heap[w.heap.size + 1]? = some (.cells #[.slice x k cpd] 28 (0, 0)) ∧ wr.heap.size ≤ w'.heap.size ∧ M ≤ 90000

theorem vsc_step {w wr : World} {B : Nat} {a : Option Addr} {len cap : Nat} {M c : Int} {x : Option Addr} {k cpd : Nat} {s : Tmp} {ob : Option Nat} (hc : 0 ≤ c) (hB : B < w.heap.size) (hob : ∀ g, ob = some g → w.heap.size + 1 + 1 ≤ g) (d : Option Tmp) (f : Nat) (w1 w2 : World) (h : VSc w wr B a len cap M c x k cpd (f + 1) w1) (hr : RowK s ob c B a len cap d w1 w2) : VSc w wr B a len cap M c x k cpd f w2 := by
  obtain ⟨h1, h2, h3, h4, h5, h6⟩ := h
  have l3 := (Array.getElem?_eq_some_iff.1 h3).1
  have l4 := (Array.getElem?_eq_some_iff.1 h4).1
  by_cases hd : d = some s
  · unfold RowK at hr
    rw [if_pos hd] at hr
    have hne : ∀ j, j < w.heap.size + 1 + 1 → some j ≠ ob := fun j hj e => by have := hob j e.symm; omega
    refine ⟨⟨hr.os.trans h1.os, hr.tape.trans h1.tape, hr.output.trans h1.output, Nat.le_trans h1.size hr.size, fun j hj hn => (hr.block j (Nat.lt_of_lt_of_le hj h1.size) (hne j (by omega))).trans (h1.block j hj hn)⟩, (h2.grown hr (fun g hg => by have := hob g hg; omega)).more ?_, (hr.block _ l3 (hne _ (by omega))).trans h3, (hr.block _ l4 (hne _ (by omega))).trans h4, Nat.le_trans h5 hr.size, h6⟩
    have : c * ((f : Nat) + 1 : Nat) = c * (f : Int) + c := by push_cast; rw [Int.mul_add, Int.mul_one]
    omega
  · have hk := rowK_of hd hr
    have hcf : 0 ≤ c * ((f + 1 : Nat) : Int) := Int.mul_nonneg hc (by omega)
    refine ⟨h1.trans hk.1, (hk.2 _ (by omega) h2).more ?_, (hk.1.block _ l3 (by omega)).trans h3, (hk.1.block _ l4 (by omega)).trans h4, Nat.le_trans h5 hk.1.size, h6⟩
    have : c * ((f : Nat) + 1 : Nat) = c * (f : Int) + c := by push_cast; rw [Int.mul_add, Int.mul_one]
    omega

theorem lasts_oneK (z : Tmp) (U : Tmp → Option Tmp) (dst : Option Tmp) (ob : Option Nat) (c : Int) (B : Nat) (a : Option Addr) (len cap : Nat) (d : Int) : lastsU U (RowK z ob c B a len cap) dst (fun v w => OneI ob d v w ∧ ∃ g', v = .slice (some ⟨g', 0, none⟩) 1 1 ∧ B < g') := by
  rintro d' _ _ v w w' ⟨⟨g', h1, h2, h3, h4⟩, g2, h5, h6⟩ hr
  have e : g2 = g' := by
    rw [h1] at h5
    injection h5 with h5
    injection h5 with h5
    injection h5 with h5
    exact h5.symm
  subst e
  have hb : w'.heap[g2]? = w.heap[g2]? ∧ w.heap.size ≤ w'.heap.size := by
    by_cases hd : d' = some z
    · unfold RowK at hr
      rw [if_pos hd] at hr
      exact ⟨hr.block g2 h2 fun e => h3 e.symm, hr.size⟩
    · have := rowK_of hd hr
      exact ⟨this.1.block g2 h2 (by omega), this.1.size⟩
  exact ⟨⟨g2, h1, Nat.lt_of_lt_of_le h2 hb.2, h3, fun j u hu => (World.cell?_of_block (a := (⟨g2, 0, none⟩ : Addr).add j) (by rw [add_block]; exact hb.1)).trans (h4 j u hu)⟩, g2, h5, h6⟩

theorem lasts_rowK (z : Tmp) (U : Tmp → Option Tmp) (ob : Option Nat) (c : Int) (B : Nat) (a : Option Addr) (len cap base k : Nat) (hB : B < base) (zs : List Int) : lastsU U (RowK z ob c B a len cap) (some z) (RowF base k zs) := by
  rintro d' hd _ v w w' ⟨g3, cp3, h1, h2⟩ hr
  exact ⟨g3, cp3, h1, h2.off (rowK_of hd hr).1 hB⟩

def OneR (ob : Option Nat) (B : Nat) : Fact := fun v w => ∃ z : Int, OneI ob z v w ∧ ∃ g', v = .slice (some ⟨g', 0, none⟩) 1 1 ∧ B < g'

theorem lasts_oneR (z : Tmp) (U : Tmp → Option Tmp) (dst : Option Tmp) (ob : Option Nat) (c : Int) (B : Nat) (a : Option Addr) (len cap : Nat) : lastsU U (RowK z ob c B a len cap) dst (OneR ob B) := by
  rintro d' h1 h2 v w w' ⟨q, h⟩ hr
  exact ⟨q, lasts_oneK z U dst ob c B a len cap q d' h1 h2 v w w' h hr⟩

def RowR (base k : Nat) (zs : List Int) : Fact := fun v w => ∃ z : Int, RowF base k (zs ++ [z]) v w

theorem lasts_rowR (z : Tmp) (U : Tmp → Option Tmp) (ob : Option Nat) (c : Int) (B : Nat) (a : Option Addr) (len cap base k : Nat) (hB : B < base) (zs : List Int) : lastsU U (RowK z ob c B a len cap) (some z) (RowR base k zs) := by
  rintro d' h1 h2 v w w' ⟨q, h⟩ hr
  exact ⟨q, lasts_rowK z U ob c B a len cap base k hB (zs ++ [q]) d' h1 h2 v w w' h hr⟩

/-- The box behind an append: the row is one longer. -/
theorem VS.next {w w' : World} {B : Nat} {a : Option Addr} {len cap : Nat} {M : Int} {x : Option Addr} {k cpd g c : Nat} {zs : List Int} {z : Int} (hl : zs.length = k) (hB : B < w.heap.size) (h1 : Hole B w w') (h2 : Cur w' B a len cap M) (h3 : w'.heap[w.heap.size]? = some (.cells #[.slice none 0 0] 28 (0, 0))) (h4 : w'.heap[w.heap.size + 1]? = some (.cells #[.slice x k cpd] 28 (0, 0)))
    (hr : RowI w' (w.heap.size + 1 + 1) (.slice (some ⟨g, 0, none⟩) (k + 1) c) (zs ++ [z])) :
    VS w (w'.setCell ⟨w.heap.size + 1, 0, none⟩ (.slice (some ⟨g, 0, none⟩) (k + 1) c)) B a len cap M (some ⟨g, 0, none⟩) (k + 1) c (zs ++ [z]) :=
  ⟨h1.setNew (Nat.le_add_right _ 1) 0 _, h2.setOther (by omega) 0 _, (Below.heap_setCell _ _ _ _ (by show w.heap.size ≠ w.heap.size + 1; omega)).trans h3, one_setCell h4, ownsRow_setCell_below (a := ⟨w.heap.size + 1, 0, none⟩) hr (Nat.lt_succ_self _) _, by simp [hl]⟩

theorem VS.move {w wr w' : World} {B : Nat} {a : Option Addr} {len cap : Nat} {N M : Int} {x : Option Addr} {k cpd : Nat} {zs : List Int} (h : VS w wr B a len cap N x k cpd zs) (hB : B < w.heap.size) (hh : Hole B wr w') (hc : Cur w' B a len cap M) : VS w w' B a len cap M x k cpd zs := by
  have hl := h.lt
  exact ⟨h.hole.trans hh, hc, (hh.block _ (by omega) (by omega)).trans h.b0, (hh.block _ (by omega) (by omega)).trans h.b1, h.row.off hh (by omega), h.len⟩

theorem VS.more {w wr : World} {B : Nat} {a : Option Addr} {len cap : Nat} {N M : Int} {x : Option Addr} {k cpd : Nat} {zs : List Int} (h : VS w wr B a len cap N x k cpd zs) (hM : N ≤ M) : VS w wr B a len cap M x k cpd zs :=
  ⟨h.hole, h.cur.more hM, h.b0, h.b1, h.row, h.len⟩

theorem VS.set {w wr : World} {B : Nat} {a : Option Addr} {len cap : Nat} {N : Int} {g k cpd : Nat} {zs : List Int} (h : VS w wr B a len cap N (some ⟨g, 0, none⟩) k cpd zs) (hB : B < w.heap.size) (r : Nat) (z : Int) : VS w (wr.setCell ⟨g, r, none⟩ (.int .i64 z)) B a len cap N (some ⟨g, 0, none⟩) k cpd (zs.set r z) := by
  have hg := World.ownsRow.lt h.row g rfl
  have hl := h.len
  have hst := (World.ownsRow.stored (by have := h.row; unfold RowI at this; rw [hl] at this; exact this) r (.int .i64 z)).1
  refine ⟨h.hole.setNew (by omega) r _, h.cur.setOther (by omega) r _, (Below.heap_setCell _ _ _ _ (by show w.heap.size ≠ g; omega)).trans h.b0, (Below.heap_setCell _ _ _ _ (by show w.heap.size + 1 ≠ g; omega)).trans h.b1, ?_, by simp [hl]⟩
  unfold RowI
  rw [List.length_set, hl, List.map_set]
  exact hst

theorem VS.ptr {w wr : World} {B : Nat} {a : Option Addr} {len cap : Nat} {N : Int} {x : Option Addr} {k cpd : Nat} {zs : List Int} (h : VS w wr B a len cap N x k cpd zs) (hk : 0 < k) : ∃ g, x = some ⟨g, 0, none⟩ := by
  rcases h.row.2 with ⟨h1, h2⟩ | ⟨g, c, cur, h1, _⟩
  · rw [h.len] at h2
    omega
  · injection h1 with h1
    exact ⟨g, h1⟩

/-- A row of numbers that was laid. -/
def LaidK (B n : Nat) (b : Nat) (w : World) : Prop := B < b ∧ ∃ cs : Array Value, w.heap[b]? = some (.cells cs 3 (0, 0)) ∧ ∀ i, i < n → ∃ z : Int, cs[i]? = some (.int .i64 z)

def BuiltK (B n : Nat) : Fact := fun v w => ∃ b, v = .slice (some ⟨b, 0, none⟩) n n ∧ LaidK B n b w

def PtrK (B n : Nat) : Fact := fun v w => ∃ b q, v = .pointer (some ⟨b, q, none⟩) ∧ q < n ∧ LaidK B n b w

theorem LaidK.step {B n b : Nat} {w w' : World} (h : LaidK B n b w) (hh : Hole B w w') : LaidK B n b w' := by
  obtain ⟨h1, cs, h2, h3⟩ := h
  exact ⟨h1, cs, (hh.block b (Array.getElem?_eq_some_iff.1 h2).1 (by omega)).trans h2, h3⟩

theorem LaidK.cell {B n b : Nat} {w : World} (h : LaidK B n b w) {i : Nat} (hi : i < n) : ∃ z : Int, w.cell? ⟨b, i, none⟩ = some (.int .i64 z) := by
  obtain ⟨_, cs, h2, h3⟩ := h
  obtain ⟨z, hz⟩ := h3 i hi
  exact ⟨z, (cell_of_row _ _ i _ _ (0, 0) h2).trans hz⟩

theorem lasts_builtK (c : Int) (B n : Nat) (a : Option Addr) (len cap : Nat) : lasts (CurK c B a len cap) (BuiltK B n) := by
  rintro v w w' ⟨b, h1, h2⟩ hr
  exact ⟨b, h1, h2.step hr.1⟩

theorem lasts_ptrK (c : Int) (B n : Nat) (a : Option Addr) (len cap : Nat) : lasts (CurK c B a len cap) (PtrK B n) := by
  rintro v w w' ⟨b, q, h1, h0, h2⟩ hr
  exact ⟨b, q, h1, h0, h2.step hr.1⟩

theorem laid3 (w : World) (B : Nat) (r : Int) (h : B < w.heap.size) (x y : Int) : LaidK B 3 w.heap.size (w.alloc (.cells #[.int .i64 r, .int .i64 x, .int .i64 y] 3)) :=
  ⟨h, _, heap_alloc_new w _, fun i hi => by
    match i, hi with
    | 0, _ => exact ⟨_, rfl⟩
    | 1, _ => exact ⟨_, rfl⟩
    | 2, _ => exact ⟨_, rfl⟩⟩

def IntK : Fact := fun v _ => ∃ r : Int, v = .int .i64 r

def LessK (n : Int) : Fact := fun v _ => ∃ r : Nat, v = .int .i64 (r : Int) ∧ (r : Int) < n

set_option maxRecDepth 100000 in
set_option maxHeartbeats 8000000 in
theorem vec_any (B : Nat) (a : Option Addr) (len cap : Nat) (N : Int) (w : World) (hN : N ≤ 80000) (h : Cur w B a len cap N) :
    Calls Try.prog 28 #[.pointer (some ⟨B, 0, none⟩)] w fun e w' => ∃ g cp zs, e = .returned (vecV (some ⟨g, 0, none⟩) zs.length cp) ∧ zs.length ≤ 5 ∧ RowI w' w.heap.size (.slice (some ⟨g, 0, none⟩) zs.length cp) zs ∧ Cur w' B a len cap (N + 200) ∧ Hole B w w' := by
  have HC := Lib.hid h
  have hB := h.lt
  have hres : Try.f28.results = #[.cell 2 28] := by kernel_rfl
  clear h
  obtain ⟨i0, hi0, hx0⟩ := Option.map_eq_some_iff.1 infoInt
  simp only [Prod.mk.injEq] at hx0
  have HI0 := Lib.hid hi0
  have HX0 := Lib.hid hx0
  clear hi0 hx0
  have hA : Below w.heap.size w ((w.alloc (.cells #[.slice none 0 0] 28)).alloc (.cells #[.slice none 0 0] 28)) := ((Below.refl _ _).alloc (Nat.le_refl _) _).alloc (by simp) _
  have HVS : Hid (VS w ((w.alloc (.cells #[.slice none 0 0] 28)).alloc (.cells #[.slice none 0 0] 28)) B a len cap N none 0 0 []) := ⟨Hole.of_below hA, HC.out.below hA, by rw [Below.heap_alloc _ _ _ (by simp)]; exact heap_alloc_new w _, by simpa using heap_alloc_new (w.alloc (.cells #[.slice none 0 0] 28)) (.cells #[.slice none 0 0] 28), World.ownsRow_nil _ _ _ _, rfl⟩
  clear hA
  go_enter Try.func28, Try.ntmps28
  go_wp2
  go_loopw [4] (fun i wr => ∃ (k : Nat) (x : Option Addr) (cpd : Nat) (zs : List Int), k ≤ 4 ∧ i = .int .i64 k ∧ Hid (VS w wr B a len cap (N + 10 * (k : Int)) x k cpd zs)) (fun i _ => 4 - (intOf i).toNat)
  case atStart => exact ⟨0, none, 0, [], Nat.zero_le _, rfl, by simpa using HVS⟩
  case round =>
    clear HVS
    obtain ⟨k, x, cpd, zs, hk, rfl, HS⟩ := hrel
    have hlt := HS.out.lt
    have hlen := HS.out.len
    by_cases hk' : k < 4
    · have i1 : (0 : Int) ≤ (k : Int) := by omega
      have i2 : (k : Int) < 4 := by omega
      obtain ⟨ob, hob⟩ : ∃ ob, (Value.slice x k cpd).ownBlock = ob := ⟨_, rfl⟩
      have HOB : Hid (∀ g, ob = some g → w.heap.size + 1 + 1 ≤ g) := fun g hg => (World.ownsRow.lt HS.out.row g (hob.trans hg)).1
      have HOL : Hid (∀ g, ob = some g → g < wr.heap.size) := fun g hg => (World.ownsRow.lt HS.out.row g (hob.trans hg)).2
      have HOE := Lib.hid hob
      clear hob
      go_wp2_with fail
      refine wp_region_slots_u 6 [[(3, false)], [(10, true)], [(0, false)], [(12, true)], [(13, true)], [(11, true), (14, true)]] (fun w' => ∃ f : Nat, f ≤ 8 ∧ VSc w wr B a len cap (N + 10 * (k : Int) + 8) 1 x k cpd f w') (fun w' => VSc w wr B a len cap (N + 10 * (k : Int) + 8) 1 x k cpd 0 w') (fun f w' => VSc w wr B a len cap (N + 10 * (k : Int) + 8) 1 x k cpd f w') (fun d w' => d = some 15 → RowI w' (w.heap.size + 1 + 1) (.slice x k cpd) zs) (fun _ => none) (RowK 15 ob 1 B a len cap) (by kernel_rfl) (by kernel_rfl) (by rfl) ⟨HS.out.hole.drew, (HS.out.cur.below (Below.refl _ _).drew).more (by simp), HS.out.b0, HS.out.b1, Nat.le_refl _, by omega⟩ (by kernel_rfl) (fun _ _ => HS.out.row.below (Below.refl _ _).drew) (fun _ h => by cases h) (fun d d' hd w1 w2 h1 h2 h3 => (h1 h3).off (rowK_of (h3 ▸ hd) h2).1 (by omega)) (fun _ _ _ _ _ _ h => by cases h) (fun d f w1 w2 h1 h2 => vsc_step (by omega) hB HOB.out d f w1 w2 h1 h2) (fun f w1 hf h => ⟨f + 1, Nat.succ_le_of_lt (by simpa using hf), h⟩) (fun f w1 hf h => ⟨h.1, h.2.1.more (by omega), h.2.2⟩) ?_
      have HRF : Hid (∀ (d : Option Tmp) (w : World), d ≠ some 15 → RowK 15 ob 1 B a len cap d w w) := fun d w hd => rowK_cur hd (curK_refl 1 (by omega) B a len cap w)
      apply slotU_eq
      · intro ρ w' ⟨p1, p2, p3⟩ hS hEE hn
        simp at hn
        go_simp
        exact ⟨HRF.out _ _ (by simp), rfl⟩
      apply slotU_eq
      · intro ρ w' ⟨p1, p2, p3⟩ ⟨f, hf, h1, h2, h3, h4, h5, h6⟩ hEE hn
        have c1 := (cells_one h4).1
        simp at hn
        go_simp
        exact ⟨HRF.out _ _ (by simp), rfl⟩
      apply slotU_eq
      · intro ρ w' ⟨p1, p2, p3⟩ hS hEE hn
        simp at hn
        go_simp
        exact ⟨HRF.out _ _ (by simp), rfl⟩
      refine slotU_fact (fun v _ => ∃ r : Nat, v = .int .i64 (r : Int)) (fun _ _ _ _ _ _ h _ => h) ?_ ?_
      · intro ρ w' ⟨p1, p2, p3⟩ ⟨f, hf, h1, h2, h3, h4, h5, h6⟩ hEE hn
        simp at hn
        go_simp
        exact got_call (pick_curK 1 (by omega) B a len cap _ 4 w' (by omega) (by omega) (by omega) h2) fun e w'' ⟨r, he, hr, hk⟩ => ⟨_, he, rowK_cur (by simp) hk, r, rfl⟩
      refine slotU_fact (OneR ob B) (lasts_oneR _ _ _ _ _ _ _ _ _) ?_ ?_
      · intro ρ w' ⟨p1, p2, p3⟩ ⟨f, hf, h1, h2, h3, h4, h5, h6⟩ hEE hn
        simp at hn
        obtain ⟨r, f13⟩ := hn
        go_simp
        exact ⟨rowK_cur (by simp) (curK_below 1 (by omega) B a len cap ((Below.refl _ _).alloc (Nat.le_refl _) _)), (r : Int), ⟨_, rfl, by simp, fun e => by have h7 := HOL.out _ e; omega, oneI_cells _ _ _⟩, _, rfl, by omega⟩
      refine slotU_fact (RowR (w.heap.size + 1 + 1) k zs) (lasts_rowR _ _ _ _ _ _ _ _ _ _ (by omega) _) ?_ ?_
      · intro ρ w' ⟨p1, p2, p3⟩ ⟨f, hf, h1, h2, h3, h4, h5, h6⟩ hEE hn
        simp at hn
        obtain ⟨f11, z, ⟨g', f14, hg3, hg4, hg5⟩, -⟩ := hn
        have hown := hEE rfl
        unfold RowI at hown
        rw [hlen] at hown
        refine got_append (.tmp 11) (.tmp 14) _ rfl (w.heap.size + 1 + 1) 3 i0 (.int .i64 0) 1 8 Try.underlying26 HI0.out HX0.out.1 HX0.out.2.1 HX0.out.2.2 (by rfl) (by omega) (.slice x k cpd) k (zs.map intV) f11 hown ⟨g', 0, none⟩ 1 1 [intV z] f14 (by rfl) hg5 (intV_one [z]) (by omega) (by unfold maxLen; omega) (by omega) (by omega) _ rfl ?_
        intro g3 cp3 w5 q1 q2 q3 q4
        rw [HOE.out] at q2
        refine ⟨rowK_row q2, z, g3, cp3, rfl, ?_⟩
        unfold RowI
        rw [List.length_append, List.map_append, hlen]
        simpa using q1
      refine slotU_end ?_
      rintro vs w4 ⟨h1, h2, h3, h4, h5, h6⟩ hF
      simp at hF
      obtain ⟨⟨z, g3, cp3, f15, hrow⟩, ⟨z2, ⟨g2, f14, -, -, -⟩, -⟩, ⟨r, f13⟩, f12, f11, f10⟩ := hF
      have HN5 := Lib.hid (VS.next hlen hB h1 (h2.more (show _ ≤ N + 10 * ((k + 1 : Nat) : Int) by push_cast; omega)) h3 h4 hrow)
      obtain ⟨c1, q1, -⟩ := cells_one h4
      clear hrow h1 h2 h3 h4 h5 HRF HS HOB HOL HOE
      simp only [List.take_succ_cons, List.take_zero, List.drop_succ_cons, List.drop_zero, putAll, f15, f14, f13, f12, f11, f10]
      clear f15 f14 f13 f12 f11 f10
      simp only [Act.put, List.setIfInBounds_toArray, List.set_cons_succ, List.set_cons_zero]
      go_wp2
      exact ⟨⟨k + 1, _, _, _, by omega, by go_num, HN5⟩, by simp [intOf]; omega⟩
    · have hkk : k = 4 := by omega
      subst hkk
      go_wp2_with fail
      obtain ⟨g, rfl⟩ := HS.out.ptr (by omega)
      clear hlt hlen
      refine (once_any B a len cap _ 12 _ (by omega) (by omega) (by omega) HS.out.cur).mono ?_
      rintro e w5 ⟨r5, rfl, hc5, hh5⟩
      have HV5 := Lib.hid (HS.out.move hB hh5 hc5)
      clear hc5 hh5 HS
      cases r5
      · obtain ⟨c1, q1, l1⟩ := cells_one HV5.out.b1
        go_wp2_with fail
        refine (once_any B a len cap _ 20 _ (by omega) (by omega) (by omega) HV5.out.cur).mono ?_
        rintro e w7 ⟨r7, rfl, hc7, hh7⟩
        have HV7 := Lib.hid (HV5.out.move hB hh7 hc7)
        clear hc7 hh7 c1 q1 l1 HV5
        cases r7
        · obtain ⟨c1, q1, l1⟩ := cells_one HV7.out.b1
          obtain ⟨c0, q0, l0⟩ := cells_one HV7.out.b0
          go_wp2
          refine bodyPost_ret (v := vecV (some ⟨g, 0, none⟩) 4 cpd) (by simp only [results, hres]; go_simp) rfl ⟨g, cpd, _, by rw [HV7.out.len], by rw [HV7.out.len]; omega, ?_, (HV7.out.cur.setOther hB 0 _).more (by omega), HV7.out.hole.setNew (Nat.le_refl _) 0 _⟩
          rw [HV7.out.len]
          exact (RowI.mono (ownsRow_setCell_below (a := ⟨w.heap.size, 0, none⟩) HV7.out.row (by show w.heap.size < w.heap.size + 1 + 1; omega) _) (by omega))
        · obtain ⟨c1, q1, l1⟩ := cells_one HV7.out.b1
          have hlt7 := HV7.out.lt
          have HA : Hid (Below w7.heap.size w7 (w7.alloc (.cells #[.int .i64 1] 3))) := (Below.refl _ _).alloc (Nat.le_refl _) _
          have HRA : Hid ((w7.alloc (.cells #[.int .i64 1] 3)).ownsRow (w.heap.size + 1 + 1) 3 1 (.slice (some ⟨g, 0, none⟩) 4 cpd) 4 ((zs).map intV)) := by
            have h := HV7.out.row.below HA.out
            unfold RowI at h
            rw [HV7.out.len] at h
            exact h
          have HCC := Lib.hid (oneI_cells w7 3 1)
          have HLZ : Hid (((zs).map intV).length = 4 * 1) := by
            show _ = _
            rw [List.length_map, HV7.out.len]
          have HOB : Hid (∀ j, (Value.slice (some ⟨g, 0, none⟩) 4 cpd).ownBlock = some j → w.heap.size + 1 + 1 ≤ j) := fun j hj => (World.ownsRow.lt HRA.out j hj).1
          go_wp2_with (at_builtin; refine wpList_append_lies _ (by rfl) _ _ _ (by rfl) (w.heap.size + 1 + 1) 3 i0 (.int .i64 0) 1 8 Try.underlying26 HI0.out HX0.out.1 HX0.out.2.1 HX0.out.2.2 (by rfl) (by omega) (.slice (some ⟨g, 0, none⟩) 4 cpd) 4 ((zs).map intV) (by rfl) HRA.out ⟨w7.heap.size, 0, none⟩ 1 1 [intV 1] (by rfl) (by rfl) HCC.out (intV_one [1]) (by omega) (by unfold maxLen; omega) (by omega) (by simp; omega) _ rfl ?_; intro g8 cp8 w8 hown hgrow hg8 _; refine Hid.out ?_)
          refine Lib.hid ?_
          have hne : ∀ j, j < w.heap.size + 1 + 1 → some j ≠ (Value.slice (some ⟨g, 0, none⟩) 4 cpd).ownBlock := fun j hj e => by have := HOB.out j e.symm; omega
          have hbl : ∀ j, j < w.heap.size + 1 + 1 → w8.heap[j]? = w7.heap[j]? := fun j hj => (hgrow.block j (by simp; omega) (hne j hj)).trans (HA.out.block j (by omega))
          have HV8 := Lib.hid (VS.next (z := 1) (c := cp8) (g := g8) HV7.out.len hB ⟨hgrow.os.trans HV7.out.hole.os, hgrow.tape.trans HV7.out.hole.tape, hgrow.output.trans HV7.out.hole.output, Nat.le_trans HV7.out.hole.size (Nat.le_trans HA.out.size hgrow.size), fun j hj hn => (hbl j (by omega)).trans (HV7.out.hole.block j hj hn)⟩ ((HV7.out.cur.below HA.out).grown hgrow (fun j hj => by have := HOB.out j hj; omega)) ((hbl _ (by omega)).trans HV7.out.b0) ((hbl _ (by omega)).trans HV7.out.b1) (by
            unfold RowI
            rw [List.length_append, List.map_append, HV7.out.len]
            exact hown))
          obtain ⟨c2, q2, l2⟩ := cells_one ((hbl _ (by omega)).trans HV7.out.b1)
          clear hown hgrow hg8 HRA HCC HLZ hne hbl c1 q1 l1 HA HOB HV7
          go_upto_region 10 with fail
          generalize (w8.setCell ⟨w.heap.size + 1, 0, none⟩ (.slice (some ⟨g8, 0, none⟩) (4 + 1) cp8)) = w9 at *
          clear c2 q2 l2
          obtain ⟨c1, q1, l1⟩ := cells_one HV8.out.b1
          obtain ⟨c0, q0, l0⟩ := cells_one HV8.out.b0
          go_wp2
          refine bodyPost_ret (v := vecV (some ⟨g8, 0, none⟩) 5 cp8) (by simp only [results, hres]; go_simp) rfl ⟨g8, cp8, _, by rw [HV8.out.len], by rw [HV8.out.len]; omega, ?_, (HV8.out.cur.setOther hB 0 _).more (by omega), HV8.out.hole.setNew (Nat.le_refl _) 0 _⟩
          rw [HV8.out.len]
          exact (RowI.mono (ownsRow_setCell_below (a := ⟨w.heap.size, 0, none⟩) HV8.out.row (by show w.heap.size < w.heap.size + 1 + 1; omega) _) (by omega))
      · have HS6 := Lib.hid (HV5.out.more (show _ ≤ N + 10 * ((4 : Nat) : Int) + 1 + 3 * 13 - 3 * ((13 : Nat) : Int) by omega))
        go_wp2_with fail
        refine wp_region_slots_n 12 [[(3, false)], [(19, true)], [(0, false)], [(21, true)], [(0, false)], [(23, true)], [(24, true)], [(0, false)], [(26, true)], [(25, true), (27, true)], [(28, true)], [(20, true), (22, true)]] (fun w' => ∃ f : Nat, f ≤ 13 ∧ VS w w' B a len cap (N + 10 * ((4 : Nat) : Int) + 1 + 3 * 13 - 3 * (f : Int)) (some ⟨g, 0, none⟩) 4 cpd zs) (fun w' => VS w w' B a len cap (N + 10 * ((4 : Nat) : Int) + 1 + 3 * 13) (some ⟨g, 0, none⟩) 4 cpd zs) (fun f w' => VS w w' B a len cap (N + 10 * ((4 : Nat) : Int) + 1 + 3 * 13 - 3 * (f : Int)) (some ⟨g, 0, none⟩) 4 cpd zs) (CurK 3 B a len cap) (by kernel_rfl) (by kernel_rfl) (by rfl) (HS6.out.move hB (Hole.refl _ _).drew (HS6.out.cur.below (Below.refl _ _).drew)) (fun f w1 w2 h1 h2 => (h1.move hB h2.1 (h2.2 _ (by omega) h1.cur)).more (by push_cast; omega)) (fun f w1 hf h => ⟨f + 1, Nat.succ_le_of_lt (by simpa using hf), h⟩) (fun f w1 hf h => h.more (by omega)) ?_
        apply slot_eq
        · intro ρ w' ⟨p1, p2, p3⟩ ⟨f, hf, hS⟩ hn
          simp at hn
          go_simp
          exact ⟨curK_refl 3 (by omega) _ _ _ _ _, rfl⟩
        apply slot_eq
        · intro ρ w' ⟨p1, p2, p3⟩ ⟨f, hf, hS⟩ hn
          have c1 := (cells_one hS.b1).1
          simp at hn
          go_simp
          exact ⟨curK_refl 3 (by omega) _ _ _ _ _, rfl⟩
        apply slot_eq
        · intro ρ w' ⟨p1, p2, p3⟩ ⟨f, hf, hS⟩ hn
          simp at hn
          go_simp
          exact ⟨curK_refl 3 (by omega) _ _ _ _ _, rfl⟩
        refine slot_fact (LessK 4) (fun _ _ _ h _ => h) ?_ ?_
        · intro ρ w' ⟨p1, p2, p3⟩ ⟨f, hf, hS⟩ hn
          simp at hn
          go_simp
          exact got_call (pick_curK 3 (by omega) B a len cap _ 4 w' (by omega) (by omega) (by omega) hS.cur) fun e w'' ⟨r, he, hr, hk⟩ => ⟨_, he, hk, r, rfl, hr⟩
        apply slot_eq
        · intro ρ w' ⟨p1, p2, p3⟩ ⟨f, hf, hS⟩ hn
          simp at hn
          go_simp
          exact ⟨curK_refl 3 (by omega) _ _ _ _ _, rfl⟩
        refine slot_fact IntK (fun _ _ _ h _ => h) ?_ ?_
        · intro ρ w' ⟨p1, p2, p3⟩ ⟨f, hf, hS⟩ hn
          simp at hn
          go_simp
          exact got_call (raw_curK 3 (by omega) B a len cap _ w' (by omega) hS.cur) fun e w'' ⟨r, he, hk⟩ => ⟨_, he, hk, r, rfl⟩
        refine slot_fact (BuiltK B 3) (lasts_builtK _ _ _ _ _ _) ?_ ?_
        · intro ρ w' ⟨p1, p2, p3⟩ ⟨f, hf, hS⟩ hn
          simp at hn
          obtain ⟨r, f24⟩ := hn
          have hbs := hS.cur.lt
          go_simp
          exact ⟨curK_below 3 (by omega) _ _ _ _ ((Below.refl _ _).alloc (Nat.le_refl _) _), _, rfl, laid3 w' B r hbs _ _⟩
        apply slot_eq
        · intro ρ w' ⟨p1, p2, p3⟩ ⟨f, hf, hS⟩ hn
          simp at hn
          go_simp
          exact ⟨curK_refl 3 (by omega) _ _ _ _ _, rfl⟩
        refine slot_fact (LessK 3) (fun _ _ _ h _ => h) ?_ ?_
        · intro ρ w' ⟨p1, p2, p3⟩ ⟨f, hf, hS⟩ hn
          simp at hn
          go_simp
          exact got_call (pick_curK 3 (by omega) B a len cap _ 3 w' (by omega) (by omega) (by omega) hS.cur) fun e w'' ⟨r, he, hr, hk⟩ => ⟨_, he, hk, r, rfl, hr⟩
        refine slot_fact (PtrK B 3) (lasts_ptrK _ _ _ _ _ _) ?_ ?_
        · intro ρ w' ⟨p1, p2, p3⟩ ⟨f, hf, hS⟩ hn
          simp at hn
          obtain ⟨⟨b, f25, hL⟩, q, f27, hq⟩ := hn
          have i1 : (0 : Int) ≤ (q : Int) := by omega
          go_simp
          exact ⟨curK_refl 3 (by omega) _ _ _ _ _, b, q, rfl, by omega, hL⟩
        refine slot_fact IntK (fun _ _ _ h _ => h) ?_ ?_
        · intro ρ w' ⟨p1, p2, p3⟩ ⟨f, hf, hS⟩ hn
          simp at hn
          obtain ⟨b, q, f28, hq, hL⟩ := hn
          obtain ⟨z, hz⟩ := hL.cell hq
          go_simp
          exact ⟨curK_refl 3 (by omega) _ _ _ _ _, z, rfl⟩
        refine slot_fact (fun v _ => ∃ q : Nat, v = .pointer (some ⟨g, q, none⟩) ∧ (q : Int) < 4) (fun _ _ _ h _ => h) ?_ ?_
        · intro ρ w' ⟨p1, p2, p3⟩ ⟨f, hf, hS⟩ hn
          simp at hn
          obtain ⟨f20, q, f22, hq⟩ := hn
          have i1 : (0 : Int) ≤ (q : Int) := by omega
          go_simp
          exact ⟨curK_refl 3 (by omega) _ _ _ _ _, q, rfl, hq⟩
        refine slot_end ?_
        rintro vs w6 hS hF
        simp at hF
        obtain ⟨⟨q, f30, hq⟩, ⟨z, f29⟩, ⟨b28, q28, f28, -⟩, ⟨q27, f27, -⟩, f26, ⟨b25, f25, -⟩, ⟨z24, f24⟩, f23, ⟨q22, f22, -⟩, f21, f20, f19⟩ := hF
        have HV6 := Lib.hid (hS.set hB q z)
        have hcg : w6.cell? ⟨g, q, none⟩ = some (.int .i64 (zs.getD q 0)) := by
          have h := hS.row
          unfold RowI at h
          rw [hS.len] at h
          rw [World.ownsRow.cellAt h q (by omega)]
          have hz4 := hS.len
          have hq4 : q < zs.length := by omega
          simp [intV, List.getD, hq4]
        have hfg : ∀ o, w6.frozen? ⟨g, o, none⟩ = false := fun o => by
          have h := hS.row
          unfold RowI at h
          rw [hS.len] at h
          exact World.ownsRow.frozenAt h o
        clear hS
        simp only [List.take_succ_cons, List.take_zero, List.drop_succ_cons, List.drop_zero, putAll, f30, f29, f28, f27, f26, f25, f24, f23, f22, f21, f20, f19]
        clear f30 f29 f28 f27 f26 f25 f24 f23 f22 f21 f20 f19
        simp only [Act.put, List.setIfInBounds_toArray, List.set_cons_succ, List.set_cons_zero]
        go_upto_region 8 with fail
        generalize (w6.setCell ⟨g, q, none⟩ (.int .i64 z)) = wX at *
        clear hcg hfg
        obtain ⟨c1, q1, l1⟩ := cells_one HV6.out.b1
        go_wp2_with fail
        refine (once_any B a len cap _ 20 _ (by omega) (by omega) (by omega) HV6.out.cur).mono ?_
        rintro e w7 ⟨r7, rfl, hc7, hh7⟩
        have HV7 := Lib.hid (HV6.out.move hB hh7 hc7)
        clear hc7 hh7 c1 q1 l1 HV6
        cases r7
        · obtain ⟨c1, q1, l1⟩ := cells_one HV7.out.b1
          obtain ⟨c0, q0, l0⟩ := cells_one HV7.out.b0
          go_wp2
          refine bodyPost_ret (v := vecV (some ⟨g, 0, none⟩) 4 cpd) (by simp only [results, hres]; go_simp) rfl ⟨g, cpd, _, by rw [HV7.out.len], by rw [HV7.out.len]; omega, ?_, (HV7.out.cur.setOther hB 0 _).more (by omega), HV7.out.hole.setNew (Nat.le_refl _) 0 _⟩
          rw [HV7.out.len]
          exact (RowI.mono (ownsRow_setCell_below (a := ⟨w.heap.size, 0, none⟩) HV7.out.row (by show w.heap.size < w.heap.size + 1 + 1; omega) _) (by omega))
        · obtain ⟨c1, q1, l1⟩ := cells_one HV7.out.b1
          have hlt7 := HV7.out.lt
          have HA : Hid (Below w7.heap.size w7 (w7.alloc (.cells #[.int .i64 1] 3))) := (Below.refl _ _).alloc (Nat.le_refl _) _
          have HRA : Hid ((w7.alloc (.cells #[.int .i64 1] 3)).ownsRow (w.heap.size + 1 + 1) 3 1 (.slice (some ⟨g, 0, none⟩) 4 cpd) 4 ((zs.set q z).map intV)) := by
            have h := HV7.out.row.below HA.out
            unfold RowI at h
            rw [HV7.out.len] at h
            exact h
          have HCC := Lib.hid (oneI_cells w7 3 1)
          have HLZ : Hid (((zs.set q z).map intV).length = 4 * 1) := by
            show _ = _
            rw [List.length_map, HV7.out.len]
          have HOB : Hid (∀ j, (Value.slice (some ⟨g, 0, none⟩) 4 cpd).ownBlock = some j → w.heap.size + 1 + 1 ≤ j) := fun j hj => (World.ownsRow.lt HRA.out j hj).1
          go_wp2_with (at_builtin; refine wpList_append_lies _ (by rfl) _ _ _ (by rfl) (w.heap.size + 1 + 1) 3 i0 (.int .i64 0) 1 8 Try.underlying26 HI0.out HX0.out.1 HX0.out.2.1 HX0.out.2.2 (by rfl) (by omega) (.slice (some ⟨g, 0, none⟩) 4 cpd) 4 ((zs.set q z).map intV) (by rfl) HRA.out ⟨w7.heap.size, 0, none⟩ 1 1 [intV 1] (by rfl) (by rfl) HCC.out (intV_one [1]) (by omega) (by unfold maxLen; omega) (by omega) (by simp; omega) _ rfl ?_; intro g8 cp8 w8 hown hgrow hg8 _; refine Hid.out ?_)
          refine Lib.hid ?_
          have hne : ∀ j, j < w.heap.size + 1 + 1 → some j ≠ (Value.slice (some ⟨g, 0, none⟩) 4 cpd).ownBlock := fun j hj e => by have := HOB.out j e.symm; omega
          have hbl : ∀ j, j < w.heap.size + 1 + 1 → w8.heap[j]? = w7.heap[j]? := fun j hj => (hgrow.block j (by simp; omega) (hne j hj)).trans (HA.out.block j (by omega))
          have HV8 := Lib.hid (VS.next (z := 1) (c := cp8) (g := g8) HV7.out.len hB ⟨hgrow.os.trans HV7.out.hole.os, hgrow.tape.trans HV7.out.hole.tape, hgrow.output.trans HV7.out.hole.output, Nat.le_trans HV7.out.hole.size (Nat.le_trans HA.out.size hgrow.size), fun j hj hn => (hbl j (by omega)).trans (HV7.out.hole.block j hj hn)⟩ ((HV7.out.cur.below HA.out).grown hgrow (fun j hj => by have := HOB.out j hj; omega)) ((hbl _ (by omega)).trans HV7.out.b0) ((hbl _ (by omega)).trans HV7.out.b1) (by
            unfold RowI
            rw [List.length_append, List.map_append, HV7.out.len]
            exact hown))
          obtain ⟨c2, q2, l2⟩ := cells_one ((hbl _ (by omega)).trans HV7.out.b1)
          clear hown hgrow hg8 HRA HCC HLZ hne hbl c1 q1 l1 HA HOB HV7
          go_upto_region 10 with fail
          generalize (w8.setCell ⟨w.heap.size + 1, 0, none⟩ (.slice (some ⟨g8, 0, none⟩) (4 + 1) cp8)) = w9 at *
          clear c2 q2 l2
          obtain ⟨c1, q1, l1⟩ := cells_one HV8.out.b1
          obtain ⟨c0, q0, l0⟩ := cells_one HV8.out.b0
          go_wp2
          refine bodyPost_ret (v := vecV (some ⟨g8, 0, none⟩) 5 cp8) (by simp only [results, hres]; go_simp) rfl ⟨g8, cp8, _, by rw [HV8.out.len], by rw [HV8.out.len]; omega, ?_, (HV8.out.cur.setOther hB 0 _).more (by omega), HV8.out.hole.setNew (Nat.le_refl _) 0 _⟩
          rw [HV8.out.len]
          exact (RowI.mono (ownsRow_setCell_below (a := ⟨w.heap.size, 0, none⟩) HV8.out.row (by show w.heap.size < w.heap.size + 1 + 1; omega) _) (by omega))

end Go.Proofs.Ytpejdhbajejmoaa

/- What comes in, opened: tags, dependencies, slices of them, writes. -/
namespace Go.Proofs.Ytpejdhbajejmoaa
open Go.ChangeShapes Go.WideShapes Go.ChangeAt Go.RowKit Go.Joins Go.Deep
set_option maxRecDepth 100000

theorem cellsInt : Try.prog.cellsOf 3 = 1 := by kernel_rfl

section
variable {H : Type} {enc : TypeId × Value → H} {w : World} {base : Nat} {spare : Nat → Bool} {held : Bool}

theorem add_form {a : Addr} {v : Value} (h : w.cell? a = some v) : a = ⟨a.block, a.off, none⟩ := by
  cases a with
  | mk b o s =>
    cases s with
    | none => rfl
    | some s =>
      simp only [World.cell?] at h
      split at h <;> simp at h

theorem add_plain (b o i : Nat) : (Addr.mk b o none).add i = ⟨b, o + i, none⟩ := by
  unfold Addr.add
  split
  · rename_i h
    rw [h]
    rfl
  · rfl

theorem cellsBool : Try.prog.cellsOf 4 = 1 := by kernel_rfl

end
end Go.Proofs.Ytpejdhbajejmoaa

/- Vectors and posts that come in, opened. -/
namespace Go.Proofs.Ytpejdhbajejmoaa
open Go.ChangeShapes Go.WideShapes Go.ChangeAt Go.RowKit Go.Joins Go.Deep
set_option maxRecDepth 100000

theorem cellsIntS : Try.prog.cellsOf 26 = 1 := by kernel_rfl

def VecIn (w : World) (a : Option Addr) (len : Nat) (zs : List Int) : Prop := zs.length = len ∧ len ≤ maxLen ∧ IsIs w a zs ∧ ∀ z ∈ zs, Rng64 z

section
variable {H : Type} {enc : TypeId × Value → H} {w : World} {base : Nat} {held : Bool}

theorem ints_cells {fuel : Nat} {cs : List Value} {y : DataW H × List MemPlace} (hf : DataW.trod enc Try.prog w base (fun _ => true) held fuel 26 cs = some y) :
    ∃ (a : Option Addr) (len cap : Nat) (zs : List Int), cs = [.slice a len cap] ∧ VecIn w a len zs := by
  rcases open_ints Try.underlying26 Try.underlying3 (by kernel_rfl) hf with ⟨hcs, _⟩ | ⟨x, l, c, zs, hcs, _, hl, hm, hz, _, hcell, hwz⟩
  · exact ⟨_, _, _, [], hcs, rfl, Nat.zero_le _, .inl rfl, fun z hz => by simp at hz⟩
  · have hzl : zs.length = c := by simpa using hz
    refine ⟨_, _, _, zs.take l, hcs, by rw [List.length_take]; omega, by omega, ?_, fun z hz => ?_⟩
    · by_cases h0 : l = 0
      · subst h0
        exact .inl (by simp)
      · have hx : x = ⟨x.block, x.off, none⟩ := by
          have h1 := hcell 0 (by omega)
          have := add_form h1
          cases x with
          | mk b o s =>
            cases s with
            | none => rfl
            | some s =>
              simp [Addr.add] at h1
              simp only [World.cell?] at h1
              split at h1 <;> simp at h1
        refine .inr ⟨x.block, x.off, by rw [← hx], ?_, fun i hi => ?_⟩
        · have h1 := hcell 0 (by omega)
          have := World.block_lt_of_cell? w _ h1
          simpa [Addr.add] using this
        · have hi' : i < l := by rw [List.length_take] at hi; omega
          have h1 := hcell i (by omega)
          have e1 : x.add i = ⟨x.block, x.off + i, none⟩ := by
            rw [hx]
            exact add_plain _ _ _
          rw [e1] at h1
          rw [h1]
          simp [List.getD, hi']
    · have hw := hwz z (List.mem_of_mem_take hz)
      simp only [Lit.wf, Bool.and_eq_true, decide_eq_true_eq] at hw
      exact hw

end
end Go.Proofs.Ytpejdhbajejmoaa

/- The specification's VecCmp. -/
namespace Go.Proofs.Ytpejdhbajejmoaa
open Go.ChangeShapes Go.WideShapes Go.ChangeAt Go.RowKit Go.Joins
attribute [local go_sem ↓] Go.wp_at_zero Go.wp_at_succ

theorem IsIs.cell {w w' : World} {a : Option Addr} {zs : List Int} {b o : Nat} (h : IsIs w a zs) (ha : a = some ⟨b, o, none⟩) (hb : Below w.heap.size w w') {k : Nat} (hk : k < zs.length) : w'.cell? ⟨b, o + k, none⟩ = some (.int .i64 (zs.getD k 0)) := by
  subst ha
  exact h.all hb k hk

end Go.Proofs.Ytpejdhbajejmoaa

/- The specification's MayCome. -/
namespace Go.Proofs.Ytpejdhbajejmoaa
open Go.ChangeShapes Go.WideShapes Go.ChangeAt Go.RowKit Go.Joins
attribute [local go_sem ↓] Go.wp_at_zero Go.wp_at_succ

theorem vecB_rng {xs : List Int} (h : vecB xs = true) {k : Nat} (hk : k < 4) : 0 ≤ xs.getD k 0 ∧ xs.getD k 0 ≤ 1000000 := by
  obtain ⟨x0, x1, x2, x3, rfl, h0, h1, h2, h3⟩ := vecB_four h
  match k, hk with
  | 0, _ => exact h0
  | 1, _ => exact h1
  | 2, _ => exact h2
  | 3, _ => exact h3

theorem mayAt_le (xs ys : List Int) (q : Nat) {k n : Nat} (h : k ≤ n) (hb : mayAt xs ys q k = false) : mayAt xs ys q n = false := by
  unfold mayAt at *
  rw [List.all_eq_false] at *
  obtain ⟨i, hi, hm⟩ := hb
  exact ⟨i, List.mem_range.2 (Nat.lt_of_lt_of_le (List.mem_range.1 hi) h), hm⟩

set_option maxRecDepth 100000 in
set_option maxHeartbeats 4000000 in
theorem specMayCome_any (a a' : Option Addr) (n n' cap cap' : Nat) (f y : Int) (xs ys : List Int) (w : World) (hl : xs.length = n) (hn : n ≤ maxLen) (hh : IsIs w a xs) (hl' : ys.length = n') (hn' : n' ≤ maxLen) (hh' : IsIs w a' ys) :
    Calls Try.prog 18 #[vecV a n cap, postV f a' n' cap' y] w fun e w' => e = .returned (.bool (mayB xs ys f)) ∧ Below w.heap.size w w' := by
  have HB0 : Hid (Below w.heap.size w ((w.alloc (.cells #[.slice a n cap] 28)).alloc (.cells #[.int .i64 f, .slice a' n' cap', .int .i64 y] 33))) := ((Below.refl _ _).alloc (Nat.le_refl _) _).alloc (by simp) _
  have HC : Hid (∀ W, Below w.heap.size w W → Calls Try.prog 29 #[vecV a n cap] W fun e w' => e = .returned (.bool (vecB xs)) ∧ Below W.heap.size W w') := fun W hW => specVecOk_any a n cap xs W hl hn (hh.below hW)
  have HC' : Hid (∀ W, Below w.heap.size w W → Calls Try.prog 29 #[vecV a' n' cap'] W fun e w' => e = .returned (.bool (vecB ys)) ∧ Below W.heap.size W w') := fun W hW => specVecOk_any a' n' cap' ys W hl' hn' (hh'.below hW)
  cases hv : vecB xs
  · have HJ : Hid (mayB xs ys f = false) := mayB_bad (by rw [hv]; rfl)
    rw [hv] at HC
    clear hv hl hh hl' hh'
    go_enter Try.func18, Try.ntmps18
    go_wp2_with fail
    refine (HC.out _ HB0.out).mono ?_
    rintro e w1 ⟨rfl, hb⟩
    have HB1 := Lib.hid (below_step HB0.out HB0.out.size hb)
    obtain ⟨hc, hf⟩ := bcell hb
    have hz : w.heap.size + 1 < w1.heap.size := by have := hb.size; simp at this; omega
    have hz1 : w.heap.size < w1.heap.size := by omega
    clear hb
    go_wp2
    go_ret
    exact ⟨ret_bool HJ.out.symm, HB1.out⟩
  rw [hv] at HC
  cases hv' : vecB ys
  · have HJ : Hid (mayB xs ys f = false) := mayB_bad (by rw [hv', Bool.and_false])
    rw [hv'] at HC'
    clear hv hv' hl hh hl' hh'
    go_enter Try.func18, Try.ntmps18
    go_wp2_with fail
    refine (HC.out _ HB0.out).mono ?_
    rintro e w1 ⟨rfl, hb⟩
    have HB1 := Lib.hid (below_step HB0.out HB0.out.size hb)
    obtain ⟨hc, hf⟩ := bcell hb
    have hz : w.heap.size + 1 < w1.heap.size := by have := hb.size; simp at this; omega
    have hz1 : w.heap.size < w1.heap.size := by omega
    clear hb
    go_wp2_with fail
    refine (HC'.out _ HB1.out).mono ?_
    rintro e w2 ⟨rfl, hb⟩
    have HB2 := Lib.hid (below_step HB1.out HB1.out.size hb)
    obtain ⟨hc2, hf2⟩ := bcell hb
    have hz2 : w.heap.size + 1 < w2.heap.size := by have := hb.size; omega
    have hz3 : w.heap.size < w2.heap.size := by omega
    clear hb
    go_wp2
    go_ret
    exact ⟨ret_bool HJ.out.symm, HB2.out⟩
  rw [hv'] at HC'
  cases hs : btw f 0 3
  · have HJ : Hid (mayB xs ys f = false) := mayB_off hs
    have HS : Hid (∀ W, Calls Try.prog 30 #[.int .i64 f] W fun e w' => e = .returned (.bool false) ∧ w' = W) := fun W => by
      rw [← hs]
      exact specSite_any f W
    clear hv hv' hs hl hh hl' hh'
    go_enter Try.func18, Try.ntmps18
    go_wp2_with fail
    refine (HC.out _ HB0.out).mono ?_
    rintro e w1 ⟨rfl, hb⟩
    have HB1 := Lib.hid (below_step HB0.out HB0.out.size hb)
    obtain ⟨hc, hf⟩ := bcell hb
    have hz : w.heap.size + 1 < w1.heap.size := by have := hb.size; simp at this; omega
    have hz1 : w.heap.size < w1.heap.size := by omega
    clear hb
    go_wp2_with fail
    refine (HC'.out _ HB1.out).mono ?_
    rintro e w2 ⟨rfl, hb⟩
    have HB2 := Lib.hid (below_step HB1.out HB1.out.size hb)
    obtain ⟨hc2, hf2⟩ := bcell hb
    have hz2 : w.heap.size + 1 < w2.heap.size := by have := hb.size; omega
    have hz3 : w.heap.size < w2.heap.size := by omega
    clear hb
    go_wp2_with fail
    refine (HS.out _).mono ?_
    rintro e w3 ⟨rfl, hw⟩
    subst w3
    go_wp2
    go_ret
    exact ⟨ret_bool HJ.out.symm, HB2.out⟩
  obtain ⟨q, hq, rfl⟩ : ∃ q : Nat, q < 4 ∧ f = (q : Int) := ⟨f.toNat, by have := btw_site hs; omega, by have := btw_site hs; omega⟩
  have HS : Hid (∀ W, Calls Try.prog 30 #[.int .i64 (q : Int)] W fun e w' => e = .returned (.bool true) ∧ w' = W) := fun W => by
    rw [← hs]
    exact specSite_any (q : Int) W
  have HJ : Hid (mayB xs ys (q : Int) = mayAt xs ys q 4) := mayB_at hv hv' hs
  have HXR := Lib.hid (fun k hk => vecB_rng hv (k := k) hk)
  have hx4 : xs.length = 4 := by obtain ⟨x0, x1, x2, x3, rfl, -⟩ := vecB_four hv; rfl
  have hy4 : ys.length = 4 := by obtain ⟨y0, y1, y2, y3, rfl, -⟩ := vecB_four hv'; rfl
  have hn4 : n = 4 := by omega
  have hn4' : n' = 4 := by omega
  subst hn4 hn4'
  obtain ⟨b, o, hA, hbl, -⟩ := hh.at (Below.refl _ _) (show 0 < xs.length by omega)
  obtain ⟨b', o', hA', hbl', -⟩ := hh'.at (Below.refl _ _) (show 0 < ys.length by omega)
  have HH : Hid (∀ W, Below w.heap.size w W → ∀ k, k < 4 → W.cell? ⟨b, o + k, none⟩ = some (.int .i64 (xs.getD k 0))) := fun W hW k hk => hh.cell hA hW (by omega)
  have HH' : Hid (∀ W, Below w.heap.size w W → ∀ k, k < 4 → W.cell? ⟨b', o' + k, none⟩ = some (.int .i64 (ys.getD k 0))) := fun W hW k hk => hh'.cell hA' hW (by omega)
  have HBL : Hid (b < w.heap.size ∧ b' < w.heap.size) := ⟨hbl, hbl'⟩
  subst hA hA'
  clear hv hv' hs hl hh hl' hh' hx4 hy4 hbl hbl'
  go_enter Try.func18, Try.ntmps18
  go_wp2_with fail
  refine (HC.out _ HB0.out).mono ?_
  rintro e w1 ⟨rfl, hb⟩
  have HB1 := Lib.hid (below_step HB0.out HB0.out.size hb)
  obtain ⟨hc, hf⟩ := bcell hb
  have hz : w.heap.size + 1 < w1.heap.size := by have := hb.size; simp at this; omega
  have hz1 : w.heap.size < w1.heap.size := by omega
  clear hb
  go_wp2_with fail
  refine (HC'.out _ HB1.out).mono ?_
  rintro e w2 ⟨rfl, hb⟩
  have HB2 := Lib.hid (below_step HB1.out HB1.out.size hb)
  obtain ⟨hc2, hf2⟩ := bcell hb
  have hz2 : w.heap.size + 1 < w2.heap.size := by have := hb.size; omega
  have hz3 : w.heap.size < w2.heap.size := by omega
  clear hb
  have c0 : w2.cell? ⟨w.heap.size, 0, none⟩ = some (.slice (some ⟨b, o, none⟩) 4 cap) := by rw [hc2 _ _ hz1, hc _ _ (by simp; omega)]; go_simp
  have c1 : w2.cell? ⟨w.heap.size + 1, 0, none⟩ = some (.int .i64 (q : Int)) := by rw [hc2 _ _ hz, hc _ _ (by simp)]; go_simp
  have c2 : w2.cell? ⟨w.heap.size + 1, 1, none⟩ = some (.slice (some ⟨b', o', none⟩) 4 cap') := by rw [hc2 _ _ hz, hc _ _ (by simp)]; go_simp
  go_wp2_with fail
  refine (HS.out _).mono ?_
  rintro e w3 ⟨rfl, hw⟩
  subst w3
  clear hc hf hc2 hf2 hz hz1 HC HC' HB0 HB1 HS
  go_wp2
  have HC0 := Lib.hid c0
  have HC1 := Lib.hid c1
  have HC2 := Lib.hid c2
  clear c0 c1 c2
  go_loopw [5] (fun i wr => ∃ k : Nat, k ≤ 4 ∧ i = .int .i64 k ∧ Hid (mayAt xs ys q k = true) ∧ Hid (Below w2.heap.size w2 wr)) (fun i _ => 4 - (intOf i).toNat)
  case atStart => exact ⟨0, Nat.zero_le _, rfl, Lib.hid rfl, Below.refl _ _⟩
  case round =>
    obtain ⟨k, hk, rfl, HM, HB⟩ := hrel
    have c0wr := (HB.out.cell (p := ⟨w.heap.size, 0, none⟩) hz3).trans HC0.out
    have c1wr := (HB.out.cell (p := ⟨w.heap.size + 1, 0, none⟩) hz2).trans HC1.out
    have c2wr := (HB.out.cell (p := ⟨w.heap.size + 1, 1, none⟩) hz2).trans HC2.out
    by_cases hk' : k < 4
    · have d0wr := HH.out wr (below_step HB2.out HB2.out.size HB.out) k hk'
      have d1wr := HH'.out wr (below_step HB2.out HB2.out.size HB.out) k hk'
      have i1 : (0 : Int) ≤ (k : Int) := by omega
      have i2 : (k : Int) < 4 := by omega
      have z0wr : w.heap.size < wr.heap.size := Nat.lt_of_lt_of_le hz3 HB.out.size
      have z1wr : w.heap.size + 1 < wr.heap.size := Nat.lt_of_lt_of_le hz2 HB.out.size
      have z2wr : b < wr.heap.size := Nat.lt_trans HBL.out.1 z0wr
      have z3wr : b' < wr.heap.size := Nat.lt_trans HBL.out.2 z0wr
      obtain ⟨x0, x1⟩ := HXR.out k hk'
      have HN := Lib.hid (mayAt_next xs ys q k)
      have HO : Hid (mayOne xs ys q k = if k = q then decide (ys.getD k 0 = xs.getD k 0 + 1) else decide (ys.getD k 0 ≤ xs.getD k 0)) := Lib.hid rfl
      have HBD : Hid (mayOne xs ys q k = false → mayB xs ys (q : Int) = false) := fun h => by
        rw [HJ.out]
        exact mayAt_le xs ys q (show k + 1 ≤ 4 by omega) (by rw [HN.out, h, Bool.and_false])
      have HGD : Hid (mayOne xs ys q k = true → mayAt xs ys q (k + 1) = true) := fun h => by rw [HN.out, HM.out, h]; rfl
      clear HN HM HXR HH HH'
      generalize xs.getD k 0 = X at *
      generalize ys.getD k 0 = Y at *
      by_cases hkq : k = q
      · subst hkq
        rw [if_pos rfl] at HO
        by_cases hY : Y = X + 1
        · subst hY
          have HG := Lib.hid (HGD.out (by rw [HO.out]; simp))
          clear HBD HGD HO
          go_wp2_with fail
          have g0 := aft_cell z0wr c0wr
          have g1 := aft_cell z1wr c1wr
          have g4 := aft_cell z1wr c2wr
          have g2 := aft_cell z2wr d0wr
          have g3 := aft_cell z3wr d1wr
          have ne := aft_some wr
          refine wp_region_aft (by kernel_rfl) (by kernel_rfl) ?_
          repeat (first | go_big_quiet_step (fail))
          refine wpQuiet_nil ?_
          intro wa hqwa
          clear g0 g1 g2 g3 g4 ne
          have HBA := Lib.hid (below_step HB.out HB.out.size hqwa)
          clear hqwa c0wr c1wr c2wr d0wr d1wr
          go_wp2
          exact ⟨⟨k + 1, by omega, by go_num, HG, HBA⟩, by simp [intOf]; omega⟩
        · have HF := Lib.hid (HBD.out (by rw [HO.out]; simpa using hY))
          have hd : (Y != X + 1) = true := by simpa using hY
          clear HBD HGD HO
          go_wp2_with fail
          have g0 := aft_cell z0wr c0wr
          have g1 := aft_cell z1wr c1wr
          have g4 := aft_cell z1wr c2wr
          have g2 := aft_cell z2wr d0wr
          have g3 := aft_cell z3wr d1wr
          have ne := aft_some wr
          refine wp_region_aft (by kernel_rfl) (by kernel_rfl) ?_
          repeat (first | go_big_quiet_step (fail))
          refine wpQuiet_nil ?_
          intro wa hqwa
          clear g0 g1 g2 g3 g4 ne
          have HBA := Lib.hid (below_step HB.out HB.out.size hqwa)
          clear hqwa c0wr c1wr c2wr d0wr d1wr
          go_wp2
          go_ret
          exact ⟨ret_bool HF.out.symm, below_step HB2.out HB2.out.size HBA.out⟩
      · rw [if_neg hkq] at HO
        have hkd : ((k : Int) == (q : Int)) = false := by simp; omega
        have hkn : ((k : Int) != (q : Int)) = true := by simp; omega
        by_cases hY : X < Y
        · have HF := Lib.hid (HBD.out (by rw [HO.out]; simpa using hY))
          have hd : decide (X < Y) = true := by simpa using hY
          clear HBD HGD HO
          go_wp2_with fail
          have g0 := aft_cell z0wr c0wr
          have g1 := aft_cell z1wr c1wr
          have g4 := aft_cell z1wr c2wr
          have g2 := aft_cell z2wr d0wr
          have g3 := aft_cell z3wr d1wr
          have ne := aft_some wr
          refine wp_region_aft (by kernel_rfl) (by kernel_rfl) ?_
          repeat (first | go_big_quiet_step (fail))
          refine wpQuiet_nil ?_
          intro wa hqwa
          clear g0 g1 g2 g3 g4 ne
          have HBA := Lib.hid (below_step HB.out HB.out.size hqwa)
          clear hqwa c0wr c1wr c2wr d0wr d1wr
          go_wp2
          go_ret
          exact ⟨ret_bool HF.out.symm, below_step HB2.out HB2.out.size HBA.out⟩
        · have HG := Lib.hid (HGD.out (by rw [HO.out]; simpa using hY))
          have hd : decide (X < Y) = false := by simpa using hY
          clear HBD HGD HO
          go_wp2_with fail
          have g0 := aft_cell z0wr c0wr
          have g1 := aft_cell z1wr c1wr
          have g4 := aft_cell z1wr c2wr
          have g2 := aft_cell z2wr d0wr
          have g3 := aft_cell z3wr d1wr
          have ne := aft_some wr
          refine wp_region_aft (by kernel_rfl) (by kernel_rfl) ?_
          repeat (first | go_big_quiet_step (fail))
          refine wpQuiet_nil ?_
          intro wa hqwa
          clear g0 g1 g2 g3 g4 ne
          have HBA := Lib.hid (below_step HB.out HB.out.size hqwa)
          clear hqwa c0wr c1wr c2wr d0wr d1wr
          go_wp2
          exact ⟨⟨k + 1, by omega, by go_num, HG, HBA⟩, by simp [intOf]; omega⟩
    · have hkk : k = 4 := by omega
      subst hkk
      have HF : Hid (mayB xs ys (q : Int) = true) := HJ.out.trans HM.out
      go_wp2
      go_ret
      exact ⟨ret_bool HF.out.symm, below_step HB2.out HB2.out.size HB.out⟩

end Go.Proofs.Ytpejdhbajejmoaa

/- What the laws' walks over vectors carry: facts of slots in regions that draw their order, and what stays while a list is marked. -/
namespace Go.Proofs.Ytpejdhbajejmoaa
open Go.ChangeShapes Go.WideShapes Go.ChangeAt Go.RowKit Go.Joins

def LowR (w w' : World) : Prop := Below w.heap.size w w'

theorem lowR_refl (w : World) : LowR w w := Below.refl _ _

/-- A vector of one's own. -/
def VecF (B n : Nat) (zs : List Int) : Fact := fun v w => ∃ g, v = vecV (some ⟨g, 0, none⟩) n n ∧ OwnI w B w.heap.size (some ⟨g, 0, none⟩) zs

theorem lasts_vecF (B n : Nat) (zs : List Int) : lasts LowR (VecF B n zs) := by
  rintro v w w' ⟨g, h1, h2⟩ hr
  exact ⟨g, h1, (h2.below hr).wider (Nat.le_refl _) hr.size⟩

/-- A vector that is answered. -/
def AnsF (B : Nat) (zs : List Int) : Fact := fun v w => ∃ g cp, v = vecV g zs.length cp ∧ OwnI w B w.heap.size g zs

theorem lasts_ansF (B : Nat) (zs : List Int) : lasts LowR (AnsF B zs) := by
  rintro v w w' ⟨g, cp, h1, h2⟩ hr
  exact ⟨g, cp, h1, (h2.below hr).wider (Nat.le_refl _) hr.size⟩

/-- A new box of a vector. -/
def BoxF (B : Nat) : Fact := fun v w => ∃ b, v = .pointer (some ⟨b, 0, none⟩) ∧ B ≤ b ∧ w.heap[b]? = some (.cells #[.slice none 0 0] 28 (0, 0))

theorem lasts_boxF (B : Nat) : lasts LowR (BoxF B) := by
  rintro v w w' ⟨b, h1, h2, h3⟩ hr
  exact ⟨b, h1, h2, (hr.block b (Array.getElem?_eq_some_iff.1 h3).1).trans h3⟩

/-- A list of numbers doesn't lie where a box of a vector does. -/
theorem OwnI.off {w : World} {lo hi b : Nat} {g : Option Addr} {zs : List Int} (h : OwnI w lo hi g zs) (hb : w.heap[b]? = some (.cells #[.slice none 0 0] 28 (0, 0))) (v : Value) : OwnI (w.setCell ⟨b, 0, none⟩ v) lo hi g zs := by
  rcases h with h | ⟨c, ha, h1, h2, hlt, hh, hf⟩
  · exact .inl h
  · refine .inr ⟨c, ha, h1, h2, by simpa using hlt, fun i hi => ?_, fun o => by rw [World.frozen?_setCell]; exact hf o⟩
    refine (World.cell?_setCell_other _ _ _ _ (fun e => ?_)).trans (hh i hi)
    have e1 : b = c := by injection e
    have e2 : 0 = i := by injection e
    subst e1 e2
    have := hh 0 hi
    rw [cell_of_row w b 0 _ _ (0, 0) hb] at this
    simp at this

theorem cell_marked {S : Nat → Prop} {w w' : World} {o : Obj} {b j : Nat} {v : Value} (ho : Only S (w.alloc o) w') (hb : b < w.heap.size) (hS : ¬ S b) (h : w.cell? ⟨b, j, none⟩ = some v) : w'.cell? ⟨b, j, none⟩ = some v := by
  have h1 : (w.alloc o).cell? ⟨b, j, none⟩ = some v := (((Below.refl _ _).alloc (Nat.le_refl _) o).cell (p := ⟨b, j, none⟩) hb).trans h
  exact (World.cell?_of_block (a := ⟨b, j, none⟩) (ho.block b hS)).trans h1

theorem lt_marked {S : Nat → Prop} {w w' : World} {o : Obj} (ho : Only S (w.alloc o) w') : w.heap.size < w'.heap.size := by
  rw [ho.size]
  simp

theorem low_marked {S : Nat → Prop} {w w' : World} {o : Obj} {B : Nat} (ho : Only S (w.alloc o) w') (hB : B ≤ w.heap.size) (hS : ∀ x, S x → B ≤ x) : Below B w w' :=
  ((Below.refl _ _).alloc hB o).trans (ho.below hS)

theorem own_marked {S : Nat → Prop} {w w' : World} {o : Obj} {lo hi : Nat} {a : Option Addr} {zs : List Int} (ho : Only S (w.alloc o) w') (h : OwnI w lo hi a zs) (hS : ∀ x, S x → x < lo ∨ hi ≤ x) : OwnI w' lo hi a zs := by
  rcases h.below ((Below.refl _ _).alloc (Nat.le_refl _) o) with h | ⟨b, ha, h1, h2, hlt, hh, hf⟩
  · exact .inl h
  · have hb : w'.heap[b]? = (w.alloc o).heap[b]? := ho.block b fun e => by have := hS b e; omega
    exact .inr ⟨b, ha, h1, h2, by rw [ho.size]; exact hlt, fun i hi => (World.cell?_of_block (a := ⟨b, i, none⟩) hb).trans (hh i hi), fun o => (ho.frozen _).trans (hf o)⟩

theorem own_out {w : World} {lo hi b : Nat} {a : Option Addr} {zs : List Int} (h : OwnI w lo hi a zs) (hb : b < lo ∨ hi ≤ b) (v : Value) : OwnI (w.setCell ⟨b, 0, none⟩ v) lo hi a zs := by
  rcases h with h | ⟨c, ha, h1, h2, hlt, hh, hf⟩
  · exact .inl h
  · refine .inr ⟨c, ha, h1, h2, by simpa using hlt, fun i hi => (World.cell?_setCell_other _ _ _ _ (fun e => ?_)).trans (hh i hi), fun o => by rw [World.frozen?_setCell]; exact hf o⟩
    have : b = c := by injection e
    omega

theorem mk_lt {w : World} {a : Option Addr} {n : Nat} {k : Int} (h : MarkedI w a n k) : ∀ c, a = some ⟨c, 0, none⟩ → n ≠ 0 → c < w.heap.size := by
  intro c hc hn
  rcases h with h | ⟨b, hb, hlt, -⟩
  · exact absurd h hn
  · rw [hc] at hb
    injection hb with hb
    injection hb with hb
    rw [hb]
    exact hlt

theorem mk_out {w : World} {b B : Nat} {a : Option Addr} {n : Nat} {k : Int} (h : MarkedI w a n k) (hl : ∀ c, a = some ⟨c, 0, none⟩ → n ≠ 0 → c < B) (hb : B ≤ b) (v : Value) : MarkedI (w.setCell ⟨b, 0, none⟩ v) a n k := by
  rcases h with h | ⟨c, hc, hlt, hcs⟩
  · exact .inl h
  · by_cases hn : n = 0
    · exact .inl hn
    · have := hl c hc hn
      exact .inr ⟨c, hc, by simpa using hlt, hcs.of_block (Below.heap_setCell _ _ _ _ (by show c ≠ b; omega))⟩

theorem low_drop {w w' : World} {B b : Nat} (h : Below B w w') (hb : B ≤ b) (v : Value) : Below B w (w'.setCell ⟨b, 0, none⟩ v) := h.setCell (p := ⟨b, 0, none⟩) hb v

theorem joinV_len (xs ys : List Int) : (joinV xs ys).length ≤ 4 := by
  unfold joinV
  split
  · rename_i h
    rw [Bool.and_eq_true] at h
    obtain ⟨x0, x1, x2, x3, rfl, -⟩ := vecB_four h.1
    simp
    omega
  · simp

theorem tickV_len (xs : List Int) (si : Int) : (tickV xs si).length ≤ 4 := by
  unfold tickV tickOk
  split
  · rename_i h
    rw [Bool.and_eq_true] at h
    obtain ⟨x0, x1, x2, x3, rfl, -⟩ := vecB_four h.1
    simp
  · simp

end Go.Proofs.Ytpejdhbajejmoaa

/- Posts: the contracts of the laws' toPost, szPost, eqPost. -/
namespace Go.Proofs.Ytpejdhbajejmoaa
open Go.ChangeShapes Go.WideShapes Go.ChangeAt Go.RowKit Go.Joins
attribute [local go_sem ↓] Go.wp_at_zero Go.wp_at_succ

/-- A post of one's own. -/
def PostF (B : Nat) (f : Int) (n : Nat) (y : Int) (zs : List Int) : Fact := fun v w => ∃ g, v = postV f (some ⟨g, 0, none⟩) n n y ∧ OwnI w B w.heap.size (some ⟨g, 0, none⟩) zs

theorem lasts_postF (B : Nat) (f : Int) (n : Nat) (y : Int) (zs : List Int) : lasts LowR (PostF B f n y zs) := by
  rintro v w w' ⟨g, h1, h2⟩ hr
  exact ⟨g, h1, (h2.below hr).wider (Nat.le_refl _) hr.size⟩

end Go.Proofs.Ytpejdhbajejmoaa
