import Derived.Test.YtaopkoamjfmhhaaPack3
import Derived.Test.YtaopkoamjfmhhaaPack6
import Derived.OneCell
import Derived.Laws.Append
import Derived.Test.YtaopkoamjfmhhaaPack1
/- The specification's VecJoin. -/
namespace Go.Proofs.Ytaopkoamjfmhhaa
open Go.ChangeShapes Go.WideShapes Go.ChangeAt Go.RowKit Go.Joins
attribute [local go_sem ↓] Go.wp_at_zero Go.wp_at_succ

theorem cells_one {w : World} {b t : Nat} {v : Value} (h : w.heap[b]? = some (.cells #[v] t (0, 0))) : w.cell? ⟨b, 0, none⟩ = some v ∧ (∀ o, w.frozen? ⟨b, o, none⟩ = false) ∧ b < w.heap.size :=
  ⟨by rw [cell_of_row w b 0 _ t (0, 0) h]; rfl, fun o => frozen_of_row w b o _ t h, (Array.getElem?_eq_some_iff.1 h).1⟩

theorem zip_take (xs ys : List Int) (k : Nat) (hx : k < xs.length) (hy : k < ys.length) : (List.zipWith max xs ys).take (k + 1) = (List.zipWith max xs ys).take k ++ [max (xs.getD k 0) (ys.getD k 0)] := by
  rw [List.take_add_one, List.getElem?_eq_getElem (by simp; omega)]
  simp [List.getD, hx, hy]

theorem heap_four (w : World) (o1 o2 o3 o4 : Obj) : ((((w.alloc o1).alloc o2).alloc o3).alloc o4).heap[w.heap.size]? = some o1 ∧ ((((w.alloc o1).alloc o2).alloc o3).alloc o4).heap[w.heap.size + 1]? = some o2 ∧ ((((w.alloc o1).alloc o2).alloc o3).alloc o4).heap[w.heap.size + 1 + 1]? = some o3 ∧ ((((w.alloc o1).alloc o2).alloc o3).alloc o4).heap[w.heap.size + 1 + 1 + 1]? = some o4 := by
  refine ⟨?_, ?_, ?_, ?_⟩
  · rw [Below.heap_alloc _ _ _ (by simp; omega), Below.heap_alloc _ _ _ (by simp; omega), Below.heap_alloc _ _ _ (by simp)]
    exact heap_alloc_new w o1
  · rw [Below.heap_alloc _ _ _ (by simp), Below.heap_alloc _ _ _ (by simp)]
    have := heap_alloc_new (w.alloc o1) o2
    simpa using this
  · rw [Below.heap_alloc _ _ _ (by simp)]
    have := heap_alloc_new ((w.alloc o1).alloc o2) o3
    simpa using this
  · have := heap_alloc_new (((w.alloc o1).alloc o2).alloc o3) o4
    simpa using this

/-- A new number of one's own. -/
def OneI (ob : Option Nat) (z : Int) : Fact := fun v w => ∃ g', v = .slice (some ⟨g', 0, none⟩) 1 1 ∧ g' < w.heap.size ∧ ob ≠ some g' ∧ ∀ j u, ([intV z] : List Value)[j]? = some u → w.cell? ((⟨g', 0, none⟩ : Addr).add j) = some u

theorem lasts_oneI (z : Tmp) (U : Tmp → Option Tmp) (dst : Option Tmp) (ob : Option Nat) (d : Int) : lastsU U (AppS z ob) dst (OneI ob d) := by
  rintro d' _ _ v w w' ⟨g', h1, h2, h3, h4⟩ hr
  have hG := appS_any hr
  have hb : w'.heap[g']? = w.heap[g']? := hG.block g' h2 fun e => h3 e.symm
  exact ⟨g', h1, Nat.lt_of_lt_of_le h2 hG.size, h3, fun j u hu => (World.cell?_of_block (a := (⟨g', 0, none⟩ : Addr).add j) (by rw [add_block]; exact hb)).trans (h4 j u hu)⟩

/-- A row of numbers that has grown by one. -/
def RowF (base k : Nat) (zs : List Int) : Fact := fun v w => ∃ g c, v = .slice (some ⟨g, 0, none⟩) (k + 1) c ∧ RowI w base (.slice (some ⟨g, 0, none⟩) (k + 1) c) zs

theorem lasts_rowF (z : Tmp) (U : Tmp → Option Tmp) (ob : Option Nat) (base k : Nat) (zs : List Int) : lastsU U (AppS z ob) (some z) (RowF base k zs) := by
  rintro d' hd _ v w w' ⟨g3, cp3, h1, h2⟩ hr
  exact ⟨g3, cp3, h1, h2.below (appS_below hd hr)⟩

end Go.Proofs.Ytaopkoamjfmhhaa

/- Counters: the specification's CounterJoin. -/
namespace Go.Proofs.Ytaopkoamjfmhhaa
open Go.ChangeShapes Go.WideShapes Go.ChangeAt Go.RowKit Go.Joins
attribute [local go_sem ↓] Go.wp_at_zero Go.wp_at_succ

/-- What lies where in a round of the specification's CounterJoin. -/
structure JoinC (w wr : World) (a b : Option Addr) (cap cb : Nat) (a' b' : Option Addr) (cap' cb' : Nat) (x : Option Addr) (k cx : Nat) (y : Option Addr) (j cy : Nat) (zs ts : List Int) : Prop where
  low : Below w.heap.size w wr
  b0 : wr.heap[w.heap.size]? = some (.cells #[.slice a 4 cap, .slice b 4 cb] 26 (0, 0))
  b1 : wr.heap[w.heap.size + 1]? = some (.cells #[.slice a' 4 cap', .slice b' 4 cb'] 26 (0, 0))
  b2 : wr.heap[w.heap.size + 1 + 1]? = some (.cells #[.slice none 0 0, .slice none 0 0] 26 (0, 0))
  b3 : wr.heap[w.heap.size + 1 + 1 + 1]? = some (.cells #[.slice x k cx, .slice y j cy] 26 (0, 0))
  rowx : RowI wr (w.heap.size + 1 + 1 + 1 + 1) (.slice x k cx) zs
  rowy : RowI wr (w.heap.size + 1 + 1 + 1 + 1) (.slice y j cy) ts
  lenx : zs.length = k
  leny : ts.length = j
  apart : ∀ g, (Value.slice x k cx).ownBlock = some g → (Value.slice y j cy).ownBlock ≠ some g

theorem cells_two {w : World} {b t : Nat} {v u : Value} (h : w.heap[b]? = some (.cells #[v, u] t (0, 0))) : w.cell? ⟨b, 0, none⟩ = some v ∧ w.cell? ⟨b, 1, none⟩ = some u ∧ (∀ o, w.frozen? ⟨b, o, none⟩ = false) ∧ b < w.heap.size :=
  ⟨by rw [cell_of_row w b 0 _ t (0, 0) h]; rfl, by rw [cell_of_row w b 1 _ t (0, 0) h]; rfl, fun o => frozen_of_row w b o _ t h, (Array.getElem?_eq_some_iff.1 h).1⟩

theorem two_setCell0 {w : World} {b : Nat} {v v' u : Value} {t : TypeId} (h : w.heap[b]? = some (.cells #[v, v'] t (0, 0))) : (w.setCell ⟨b, 0, none⟩ u).heap[b]? = some (.cells #[u, v'] t (0, 0)) := by
  have hlt := (Array.getElem?_eq_some_iff.1 h).1
  have h' : w.heap[b] = .cells #[v, v'] t (0, 0) := by simpa [Array.getElem?_eq_getElem hlt] using h
  show (w.heap.modify b _)[b]? = _
  rw [Array.getElem?_eq_getElem (by simpa using hlt), Array.getElem_modify_self, h']
  rfl

theorem two_setCell1 {w : World} {b : Nat} {v v' u : Value} {t : TypeId} (h : w.heap[b]? = some (.cells #[v, v'] t (0, 0))) : (w.setCell ⟨b, 1, none⟩ u).heap[b]? = some (.cells #[v, u] t (0, 0)) := by
  have hlt := (Array.getElem?_eq_some_iff.1 h).1
  have h' : w.heap[b] = .cells #[v, v'] t (0, 0) := by simpa [Array.getElem?_eq_getElem hlt] using h
  show (w.heap.modify b _)[b]? = _
  rw [Array.getElem?_eq_getElem (by simpa using hlt), Array.getElem_modify_self, h']
  rfl

theorem JoinC.lt {w wr : World} {a b a' b' : Option Addr} {cap cb cap' cb' : Nat} {x : Option Addr} {k cx : Nat} {y : Option Addr} {j cy : Nat} {zs ts : List Int} (h : JoinC w wr a b cap cb a' b' cap' cb' x k cx y j cy zs ts) : w.heap.size + 1 + 1 + 1 < wr.heap.size := (Array.getElem?_eq_some_iff.1 h.b3).1

/-- The cells that stay while a row grows. -/
theorem JoinC.cells {w wr : World} {a b a' b' : Option Addr} {cap cb cap' cb' : Nat} {x : Option Addr} {k cx : Nat} {y : Option Addr} {j cy : Nat} {zs ts : List Int} {w' : World} {ob : Option Nat} (h : JoinC w wr a b cap cb a' b' cap' cb' x k cx y j cy zs ts) (hob : ∀ g, ob = some g → w.heap.size + 1 + 1 + 1 + 1 ≤ g) (hG : wr.grownBy w' ob) :
    (w'.heap[w.heap.size]? = some (.cells #[.slice a 4 cap, .slice b 4 cb] 26 (0, 0)) ∧ w'.heap[w.heap.size + 1]? = some (.cells #[.slice a' 4 cap', .slice b' 4 cb'] 26 (0, 0)) ∧ w'.heap[w.heap.size + 1 + 1]? = some (.cells #[.slice none 0 0, .slice none 0 0] 26 (0, 0)) ∧ w'.heap[w.heap.size + 1 + 1 + 1]? = some (.cells #[.slice x k cx, .slice y j cy] 26 (0, 0))) ∧ Below w.heap.size w w' := by
  have hl := h.lt
  have hb : ∀ j, j < w.heap.size + 1 + 1 + 1 + 1 → w'.heap[j]? = wr.heap[j]? := fun j hj => hG.block j (by omega) fun e => by
    have := hob j e.symm
    omega
  exact ⟨⟨(hb _ (by omega)).trans h.b0, (hb _ (by omega)).trans h.b1, (hb _ (by omega)).trans h.b2, (hb _ (by omega)).trans h.b3⟩, h.low.grown hG h.low.size fun j hj => by
    have := hob j hj
    omega⟩

theorem JoinC.obx {w wr : World} {a b a' b' : Option Addr} {cap cb cap' cb' : Nat} {x : Option Addr} {k cx : Nat} {y : Option Addr} {j cy : Nat} {zs ts : List Int} (h : JoinC w wr a b cap cb a' b' cap' cb' x k cx y j cy zs ts) : ∀ g, (Value.slice x k cx).ownBlock = some g → w.heap.size + 1 + 1 + 1 + 1 ≤ g := fun g hg => (World.ownsRow.lt h.rowx g hg).1

theorem JoinC.oby {w wr : World} {a b a' b' : Option Addr} {cap cb cap' cb' : Nat} {x : Option Addr} {k cx : Nat} {y : Option Addr} {j cy : Nat} {zs ts : List Int} (h : JoinC w wr a b cap cb a' b' cap' cb' x k cx y j cy zs ts) : ∀ g, (Value.slice y j cy).ownBlock = some g → w.heap.size + 1 + 1 + 1 + 1 ≤ g := fun g hg => (World.ownsRow.lt h.rowy g hg).1

theorem own_slice {g n c q : Nat} (h : (Value.slice (some ⟨g, 0, none⟩) n c).ownBlock = some q) : q = g := by
  unfold Value.ownBlock at h
  simpa using h.symm

theorem JoinC.nextx {w wr : World} {a b a' b' : Option Addr} {cap cb cap' cb' : Nat} {x : Option Addr} {k cx : Nat} {y : Option Addr} {j cy : Nat} {zs ts : List Int} {w' : World} {g c : Nat} {z : Int} (h : JoinC w wr a b cap cb a' b' cap' cb' x k cx y j cy zs ts) (hG : wr.grownBy w' (Value.slice x k cx).ownBlock) (hg : (Value.slice x k cx).ownBlock = some g ∨ wr.heap.size ≤ g)
    (hr : RowI w' (w.heap.size + 1 + 1 + 1 + 1) (.slice (some ⟨g, 0, none⟩) (k + 1) c) (zs ++ [z])) :
    JoinC w (w'.setCell ⟨w.heap.size + 1 + 1 + 1, 0, none⟩ (.slice (some ⟨g, 0, none⟩) (k + 1) c)) a b cap cb a' b' cap' cb' (some ⟨g, 0, none⟩) (k + 1) c y j cy (zs ++ [z]) ts := by
  obtain ⟨⟨c0, c1, c2, c3⟩, hlow⟩ := h.cells h.obx hG
  refine ⟨hlow.setCell (p := ⟨w.heap.size + 1 + 1 + 1, 0, none⟩) (by show w.heap.size ≤ w.heap.size + 1 + 1 + 1; omega) _, ?_, ?_, ?_, ?_, ?_, ?_, by simp [h.lenx], h.leny, ?_⟩
  · exact (Below.heap_setCell _ _ _ _ (by show w.heap.size ≠ w.heap.size + 1 + 1 + 1; omega)).trans c0
  · exact (Below.heap_setCell _ _ _ _ (by show w.heap.size + 1 ≠ w.heap.size + 1 + 1 + 1; omega)).trans c1
  · exact (Below.heap_setCell _ _ _ _ (by show w.heap.size + 1 + 1 ≠ w.heap.size + 1 + 1 + 1; omega)).trans c2
  · exact two_setCell0 c3
  · exact ownsRow_setCell_below (a := ⟨w.heap.size + 1 + 1 + 1, 0, none⟩) hr (Nat.lt_succ_self _) _
  · refine ownsRow_setCell_below (a := ⟨w.heap.size + 1 + 1 + 1, 0, none⟩) (World.ownsRow.kept h.rowy hG ?_) (Nat.lt_succ_self _) _
    cases e : (Value.slice y j cy).ownBlock with
    | none => exact .inl rfl
    | some q => exact .inr fun e' => h.apart q e'.symm e
  · intro q hq e
    have := own_slice hq
    subst this
    rcases hg with hg | hg
    · exact h.apart q hg e
    · have := (World.ownsRow.lt h.rowy q e).2
      omega

theorem JoinC.nexty {w wr : World} {a b a' b' : Option Addr} {cap cb cap' cb' : Nat} {x : Option Addr} {k cx : Nat} {y : Option Addr} {j cy : Nat} {zs ts : List Int} {w' : World} {g c : Nat} {z : Int} (h : JoinC w wr a b cap cb a' b' cap' cb' x k cx y j cy zs ts) (hG : wr.grownBy w' (Value.slice y j cy).ownBlock) (hg : (Value.slice y j cy).ownBlock = some g ∨ wr.heap.size ≤ g)
    (hr : RowI w' (w.heap.size + 1 + 1 + 1 + 1) (.slice (some ⟨g, 0, none⟩) (j + 1) c) (ts ++ [z])) :
    JoinC w (w'.setCell ⟨w.heap.size + 1 + 1 + 1, 1, none⟩ (.slice (some ⟨g, 0, none⟩) (j + 1) c)) a b cap cb a' b' cap' cb' x k cx (some ⟨g, 0, none⟩) (j + 1) c zs (ts ++ [z]) := by
  obtain ⟨⟨c0, c1, c2, c3⟩, hlow⟩ := h.cells h.oby hG
  refine ⟨hlow.setCell (p := ⟨w.heap.size + 1 + 1 + 1, 1, none⟩) (by show w.heap.size ≤ w.heap.size + 1 + 1 + 1; omega) _, ?_, ?_, ?_, ?_, ?_, ?_, h.lenx, by simp [h.leny], ?_⟩
  · exact (Below.heap_setCell _ _ _ _ (by show w.heap.size ≠ w.heap.size + 1 + 1 + 1; omega)).trans c0
  · exact (Below.heap_setCell _ _ _ _ (by show w.heap.size + 1 ≠ w.heap.size + 1 + 1 + 1; omega)).trans c1
  · exact (Below.heap_setCell _ _ _ _ (by show w.heap.size + 1 + 1 ≠ w.heap.size + 1 + 1 + 1; omega)).trans c2
  · exact two_setCell1 c3
  · refine ownsRow_setCell_below (a := ⟨w.heap.size + 1 + 1 + 1, 1, none⟩) (World.ownsRow.kept h.rowx hG ?_) (Nat.lt_succ_self _) _
    cases e : (Value.slice x k cx).ownBlock with
    | none => exact .inl rfl
    | some q => exact .inr fun e' => h.apart q e e'.symm
  · exact ownsRow_setCell_below (a := ⟨w.heap.size + 1 + 1 + 1, 1, none⟩) hr (Nat.lt_succ_self _) _
  · intro q hq e
    have := own_slice e
    subst this
    rcases hg with hg | hg
    · exact h.apart q hq hg
    · have := (World.ownsRow.lt h.rowx q hq).2
      omega

theorem rowI_at {w : World} {base : Nat} {x : Option Addr} {k c : Nat} {zs : List Int} (h : RowI w base (.slice x k c) zs) : zs = [] ∨ ∃ g, (Value.slice x k c).ownBlock = some g ∧ base ≤ g ∧ g < w.heap.size ∧ OwnI w g (g + 1) x zs := by
  rcases h.2 with ⟨h1, h2⟩ | ⟨g, cap, cur, h1, h2, h3, _⟩
  · exact .inl (List.length_eq_zero_iff.1 h2)
  · have hlt : g < w.heap.size := (Array.getElem?_eq_some_iff.1 h3).1
    injection h1 with e1 e2 e3
    subst e1 e2 e3
    refine .inr ⟨g, rfl, h2, hlt, .inr ⟨g, rfl, Nat.le_refl _, Nat.lt_succ_self _, hlt, fun i hi => ?_, fun o => World.ownsRow.frozenAt h o⟩⟩
    rw [World.ownsRow.cellAt h i (by omega)]
    simp [intV, List.getD, hi]

theorem JoinC.own {w wr : World} {a b a' b' : Option Addr} {cap cb cap' cb' : Nat} {x : Option Addr} {k cx : Nat} {y : Option Addr} {j cy : Nat} {zs ts : List Int} (h : JoinC w wr a b cap cb a' b' cap' cb' x k cx y j cy zs ts) : OwnC wr (w.heap.size + 1 + 1 + 1 + 1) wr.heap.size x y zs ts := by
  have hl := h.lt
  rcases rowI_at h.rowx with rfl | ⟨g, hg, h1, h2, hx⟩
  · rcases rowI_at h.rowy with rfl | ⟨q, hq, h3, h4, hy⟩
    · exact OwnC.nil (by omega)
    · exact ⟨q, q, q, q + 1, h3, by omega, h3, h4, .inl (Nat.le_refl _), .inl rfl, hy⟩
  · rcases rowI_at h.rowy with rfl | ⟨q, hq, h3, h4, hy⟩
    · exact ⟨g, g + 1, g, g, h1, h2, h1, by omega, .inr (Nat.le_refl _), hx, .inl rfl⟩
    · have hne : g ≠ q := fun e => h.apart g hg (by rw [hq, e])
      exact ⟨g, g + 1, q, q + 1, h1, h2, h3, h4, by omega, hx, hy⟩

/-- A row of numbers that has grown by one, in its place or in a new one. -/
def RowG2 (base k : Nat) (ob : Option Nat) (H : Nat) (zs : List Int) : Fact := fun v w => ∃ g c, v = .slice (some ⟨g, 0, none⟩) (k + 1) c ∧ (ob = some g ∨ H ≤ g) ∧ RowI w base (.slice (some ⟨g, 0, none⟩) (k + 1) c) zs

theorem lasts_rowG2 (z : Tmp) (U : Tmp → Option Tmp) (ob : Option Nat) (base k H : Nat) (zs : List Int) : lastsU U (AppS z ob) (some z) (RowG2 base k ob H zs) := by
  rintro d' hd _ v w w' ⟨g3, cp3, h1, h3, h2⟩ hr
  exact ⟨g3, cp3, h1, h3, h2.below (appS_below hd hr)⟩

set_option maxRecDepth 100000 in
set_option maxHeartbeats 8000000 in
theorem specCounterJoin_any (a : Option Addr) (n cap : Nat) (b : Option Addr) (m cb : Nat) (a' : Option Addr) (n' cap' : Nat) (b' : Option Addr) (m' cb' : Nat) (us ds us' ds' : List Int) (w : World) (hl : us.length = n) (hn : n ≤ maxLen) (hl' : ds.length = m) (hm : m ≤ maxLen) (hh : IsC w a b us ds) (gl : us'.length = n') (gn : n' ≤ maxLen) (gl' : ds'.length = m') (gm : m' ≤ maxLen) (gg : IsC w a' b' us' ds') :
    Calls Try.prog 9 #[cntV a n cap b m cb, cntV a' n' cap' b' m' cb'] w fun e w' => ∃ g cp g' cp', e = .returned (cntV g (cjU us ds us' ds').length cp g' (cjD us ds us' ds').length cp') ∧ OwnC w' w.heap.size w'.heap.size g g' (cjU us ds us' ds') (cjD us ds us' ds') ∧ Below w.heap.size w w' := by
  have hres : Try.f9.results = #[.cell 4 26] := by kernel_rfl
  have HK : Hid (∀ W, Below w.heap.size w W → Calls Try.prog 10 #[cntV a n cap b m cb] W fun e w' => e = .returned (.bool (cntB us ds)) ∧ Below W.heap.size W w') := fun W hW => specCounterOk_any a n cap b m cb us ds W hl hn hl' hm (hh.below hW)
  have HK' : Hid (∀ W, Below w.heap.size w W → Calls Try.prog 10 #[cntV a' n' cap' b' m' cb'] W fun e w' => e = .returned (.bool (cntB us' ds')) ∧ Below W.heap.size W w') := fun W hW => specCounterOk_any a' n' cap' b' m' cb' us' ds' W gl gn gl' gm (gg.below hW)
  have HC := Lib.hid hh
  have HL := Lib.hid hl
  have HL' := Lib.hid hl'
  have GC := Lib.hid gg
  have GL := Lib.hid gl
  have GL' := Lib.hid gl'
  clear hh hl hl' gg gl gl'
  cases hv : cntB us ds
  · have HJ := Lib.hid (cj_bad (us := us) (ds := ds) (us' := us') (ds' := ds') (by rw [hv]; rfl))
    rw [hv] at HK
    clear hv
    go_enter Try.func9, Try.ntmps9
    go_wp2_with fail
    have HB : Hid (Below w.heap.size w ((((w.alloc (.cells #[.slice a n cap, .slice b m cb] 26)).alloc (.cells #[.slice a' n' cap', .slice b' m' cb'] 26)).alloc (.cells #[.slice none 0 0, .slice none 0 0] 26)).alloc (.cells #[.slice none 0 0, .slice none 0 0] 26))) := (((((Below.refl _ _).alloc (Nat.le_refl _) _).alloc (by simp) _).alloc (by simp <;> omega) _).alloc (by simp <;> omega) _)
    have cb1_0 : ((((w.alloc (.cells #[.slice a n cap, .slice b m cb] 26)).alloc (.cells #[.slice a' n' cap', .slice b' m' cb'] 26)).alloc (.cells #[.slice none 0 0, .slice none 0 0] 26)).alloc (.cells #[.slice none 0 0, .slice none 0 0] 26)).cell? ⟨w.heap.size, 0, none⟩ = some (.slice a n cap) := by go_simp
    have cb1_1 : ((((w.alloc (.cells #[.slice a n cap, .slice b m cb] 26)).alloc (.cells #[.slice a' n' cap', .slice b' m' cb'] 26)).alloc (.cells #[.slice none 0 0, .slice none 0 0] 26)).alloc (.cells #[.slice none 0 0, .slice none 0 0] 26)).cell? ⟨w.heap.size, 1, none⟩ = some (.slice b m cb) := by go_simp
    have zb1 : w.heap.size < ((((w.alloc (.cells #[.slice a n cap, .slice b m cb] 26)).alloc (.cells #[.slice a' n' cap', .slice b' m' cb'] 26)).alloc (.cells #[.slice none 0 0, .slice none 0 0] 26)).alloc (.cells #[.slice none 0 0, .slice none 0 0] 26)).heap.size := by simp <;> omega
    have cb2_0 : ((((w.alloc (.cells #[.slice a n cap, .slice b m cb] 26)).alloc (.cells #[.slice a' n' cap', .slice b' m' cb'] 26)).alloc (.cells #[.slice none 0 0, .slice none 0 0] 26)).alloc (.cells #[.slice none 0 0, .slice none 0 0] 26)).cell? ⟨w.heap.size + 1, 0, none⟩ = some (.slice a' n' cap') := by go_simp
    have cb2_1 : ((((w.alloc (.cells #[.slice a n cap, .slice b m cb] 26)).alloc (.cells #[.slice a' n' cap', .slice b' m' cb'] 26)).alloc (.cells #[.slice none 0 0, .slice none 0 0] 26)).alloc (.cells #[.slice none 0 0, .slice none 0 0] 26)).cell? ⟨w.heap.size + 1, 1, none⟩ = some (.slice b' m' cb') := by go_simp
    have zb2 : w.heap.size + 1 < ((((w.alloc (.cells #[.slice a n cap, .slice b m cb] 26)).alloc (.cells #[.slice a' n' cap', .slice b' m' cb'] 26)).alloc (.cells #[.slice none 0 0, .slice none 0 0] 26)).alloc (.cells #[.slice none 0 0, .slice none 0 0] 26)).heap.size := by simp <;> omega
    have cr_0 : ((((w.alloc (.cells #[.slice a n cap, .slice b m cb] 26)).alloc (.cells #[.slice a' n' cap', .slice b' m' cb'] 26)).alloc (.cells #[.slice none 0 0, .slice none 0 0] 26)).alloc (.cells #[.slice none 0 0, .slice none 0 0] 26)).cell? ⟨w.heap.size + 1 + 1, 0, none⟩ = some (.slice none 0 0) := by go_simp
    have cr_1 : ((((w.alloc (.cells #[.slice a n cap, .slice b m cb] 26)).alloc (.cells #[.slice a' n' cap', .slice b' m' cb'] 26)).alloc (.cells #[.slice none 0 0, .slice none 0 0] 26)).alloc (.cells #[.slice none 0 0, .slice none 0 0] 26)).cell? ⟨w.heap.size + 1 + 1, 1, none⟩ = some (.slice none 0 0) := by go_simp
    have zr : w.heap.size + 1 + 1 < ((((w.alloc (.cells #[.slice a n cap, .slice b m cb] 26)).alloc (.cells #[.slice a' n' cap', .slice b' m' cb'] 26)).alloc (.cells #[.slice none 0 0, .slice none 0 0] 26)).alloc (.cells #[.slice none 0 0, .slice none 0 0] 26)).heap.size := by simp <;> omega
    have fr : Hid (∀ o, ((((w.alloc (.cells #[.slice a n cap, .slice b m cb] 26)).alloc (.cells #[.slice a' n' cap', .slice b' m' cb'] 26)).alloc (.cells #[.slice none 0 0, .slice none 0 0] 26)).alloc (.cells #[.slice none 0 0, .slice none 0 0] 26)).frozen? ⟨w.heap.size + 1 + 1, o, none⟩ = false) := fun o => by go_simp
    have ct_0 : ((((w.alloc (.cells #[.slice a n cap, .slice b m cb] 26)).alloc (.cells #[.slice a' n' cap', .slice b' m' cb'] 26)).alloc (.cells #[.slice none 0 0, .slice none 0 0] 26)).alloc (.cells #[.slice none 0 0, .slice none 0 0] 26)).cell? ⟨w.heap.size + 1 + 1 + 1, 0, none⟩ = some (.slice none 0 0) := by go_simp
    have ct_1 : ((((w.alloc (.cells #[.slice a n cap, .slice b m cb] 26)).alloc (.cells #[.slice a' n' cap', .slice b' m' cb'] 26)).alloc (.cells #[.slice none 0 0, .slice none 0 0] 26)).alloc (.cells #[.slice none 0 0, .slice none 0 0] 26)).cell? ⟨w.heap.size + 1 + 1 + 1, 1, none⟩ = some (.slice none 0 0) := by go_simp
    have zt : w.heap.size + 1 + 1 + 1 < ((((w.alloc (.cells #[.slice a n cap, .slice b m cb] 26)).alloc (.cells #[.slice a' n' cap', .slice b' m' cb'] 26)).alloc (.cells #[.slice none 0 0, .slice none 0 0] 26)).alloc (.cells #[.slice none 0 0, .slice none 0 0] 26)).heap.size := by simp
    have hsV0 : w.heap.size + 1 + 1 + 1 < ((((w.alloc (.cells #[.slice a n cap, .slice b m cb] 26)).alloc (.cells #[.slice a' n' cap', .slice b' m' cb'] 26)).alloc (.cells #[.slice none 0 0, .slice none 0 0] 26)).alloc (.cells #[.slice none 0 0, .slice none 0 0] 26)).heap.size := by simp
    generalize ((((w.alloc (.cells #[.slice a n cap, .slice b m cb] 26)).alloc (.cells #[.slice a' n' cap', .slice b' m' cb'] 26)).alloc (.cells #[.slice none 0 0, .slice none 0 0] 26)).alloc (.cells #[.slice none 0 0, .slice none 0 0] 26)) = V0 at *
    refine (HK.out _ HB.out).mono ?_
    rintro e w1 ⟨rfl, hb⟩
    have hsw1 : V0.heap.size ≤ w1.heap.size := hb.size
    replace cb1_0 := cells_of hb zb1 cb1_0
    replace cb1_1 := cells_of hb zb1 cb1_1
    replace zb1 := Nat.lt_of_lt_of_le zb1 hb.size
    replace cb2_0 := cells_of hb zb2 cb2_0
    replace cb2_1 := cells_of hb zb2 cb2_1
    replace zb2 := Nat.lt_of_lt_of_le zb2 hb.size
    replace fr := Lib.hid (fun o => (hb.frozen (p := ⟨w.heap.size + 1 + 1, o, none⟩) zr).trans (fr.out o))
    replace cr_0 := cells_of hb zr cr_0
    replace cr_1 := cells_of hb zr cr_1
    replace zr := Nat.lt_of_lt_of_le zr hb.size
    replace ct_0 := cells_of hb zt ct_0
    replace ct_1 := cells_of hb zt ct_1
    replace zt := Nat.lt_of_lt_of_le zt hb.size
    replace HB := Lib.hid (below_step HB.out HB.out.size hb)
    clear hb
    have hrr := fr.out
    go_wp2
    refine bodyPost_ret (v := cntV none 0 0 none 0 0) ?_ rfl ?_
    · simp only [results, hres]
      go_simp
    · rw [HJ.out.1, HJ.out.2]
      refine ⟨none, 0, none, 0, rfl, OwnC.nil ?_, ?_⟩
      · simp
        omega
      · exact (HB.out.setCell (p := ⟨w.heap.size + 1 + 1, 0, none⟩) (Nat.le_add_right _ 2) _).setCell (p := ⟨w.heap.size + 1 + 1, 1, none⟩) (Nat.le_add_right _ 2) _
  rw [hv] at HK
  cases gv : cntB us' ds'
  · have HJ := Lib.hid (cj_bad (us := us) (ds := ds) (us' := us') (ds' := ds') (by rw [gv, Bool.and_false]))
    rw [gv] at HK'
    clear hv gv
    go_enter Try.func9, Try.ntmps9
    go_wp2_with fail
    have HB : Hid (Below w.heap.size w ((((w.alloc (.cells #[.slice a n cap, .slice b m cb] 26)).alloc (.cells #[.slice a' n' cap', .slice b' m' cb'] 26)).alloc (.cells #[.slice none 0 0, .slice none 0 0] 26)).alloc (.cells #[.slice none 0 0, .slice none 0 0] 26))) := (((((Below.refl _ _).alloc (Nat.le_refl _) _).alloc (by simp) _).alloc (by simp <;> omega) _).alloc (by simp <;> omega) _)
    have cb1_0 : ((((w.alloc (.cells #[.slice a n cap, .slice b m cb] 26)).alloc (.cells #[.slice a' n' cap', .slice b' m' cb'] 26)).alloc (.cells #[.slice none 0 0, .slice none 0 0] 26)).alloc (.cells #[.slice none 0 0, .slice none 0 0] 26)).cell? ⟨w.heap.size, 0, none⟩ = some (.slice a n cap) := by go_simp
    have cb1_1 : ((((w.alloc (.cells #[.slice a n cap, .slice b m cb] 26)).alloc (.cells #[.slice a' n' cap', .slice b' m' cb'] 26)).alloc (.cells #[.slice none 0 0, .slice none 0 0] 26)).alloc (.cells #[.slice none 0 0, .slice none 0 0] 26)).cell? ⟨w.heap.size, 1, none⟩ = some (.slice b m cb) := by go_simp
    have zb1 : w.heap.size < ((((w.alloc (.cells #[.slice a n cap, .slice b m cb] 26)).alloc (.cells #[.slice a' n' cap', .slice b' m' cb'] 26)).alloc (.cells #[.slice none 0 0, .slice none 0 0] 26)).alloc (.cells #[.slice none 0 0, .slice none 0 0] 26)).heap.size := by simp <;> omega
    have cb2_0 : ((((w.alloc (.cells #[.slice a n cap, .slice b m cb] 26)).alloc (.cells #[.slice a' n' cap', .slice b' m' cb'] 26)).alloc (.cells #[.slice none 0 0, .slice none 0 0] 26)).alloc (.cells #[.slice none 0 0, .slice none 0 0] 26)).cell? ⟨w.heap.size + 1, 0, none⟩ = some (.slice a' n' cap') := by go_simp
    have cb2_1 : ((((w.alloc (.cells #[.slice a n cap, .slice b m cb] 26)).alloc (.cells #[.slice a' n' cap', .slice b' m' cb'] 26)).alloc (.cells #[.slice none 0 0, .slice none 0 0] 26)).alloc (.cells #[.slice none 0 0, .slice none 0 0] 26)).cell? ⟨w.heap.size + 1, 1, none⟩ = some (.slice b' m' cb') := by go_simp
    have zb2 : w.heap.size + 1 < ((((w.alloc (.cells #[.slice a n cap, .slice b m cb] 26)).alloc (.cells #[.slice a' n' cap', .slice b' m' cb'] 26)).alloc (.cells #[.slice none 0 0, .slice none 0 0] 26)).alloc (.cells #[.slice none 0 0, .slice none 0 0] 26)).heap.size := by simp <;> omega
    have cr_0 : ((((w.alloc (.cells #[.slice a n cap, .slice b m cb] 26)).alloc (.cells #[.slice a' n' cap', .slice b' m' cb'] 26)).alloc (.cells #[.slice none 0 0, .slice none 0 0] 26)).alloc (.cells #[.slice none 0 0, .slice none 0 0] 26)).cell? ⟨w.heap.size + 1 + 1, 0, none⟩ = some (.slice none 0 0) := by go_simp
    have cr_1 : ((((w.alloc (.cells #[.slice a n cap, .slice b m cb] 26)).alloc (.cells #[.slice a' n' cap', .slice b' m' cb'] 26)).alloc (.cells #[.slice none 0 0, .slice none 0 0] 26)).alloc (.cells #[.slice none 0 0, .slice none 0 0] 26)).cell? ⟨w.heap.size + 1 + 1, 1, none⟩ = some (.slice none 0 0) := by go_simp
    have zr : w.heap.size + 1 + 1 < ((((w.alloc (.cells #[.slice a n cap, .slice b m cb] 26)).alloc (.cells #[.slice a' n' cap', .slice b' m' cb'] 26)).alloc (.cells #[.slice none 0 0, .slice none 0 0] 26)).alloc (.cells #[.slice none 0 0, .slice none 0 0] 26)).heap.size := by simp <;> omega
    have fr : Hid (∀ o, ((((w.alloc (.cells #[.slice a n cap, .slice b m cb] 26)).alloc (.cells #[.slice a' n' cap', .slice b' m' cb'] 26)).alloc (.cells #[.slice none 0 0, .slice none 0 0] 26)).alloc (.cells #[.slice none 0 0, .slice none 0 0] 26)).frozen? ⟨w.heap.size + 1 + 1, o, none⟩ = false) := fun o => by go_simp
    have ct_0 : ((((w.alloc (.cells #[.slice a n cap, .slice b m cb] 26)).alloc (.cells #[.slice a' n' cap', .slice b' m' cb'] 26)).alloc (.cells #[.slice none 0 0, .slice none 0 0] 26)).alloc (.cells #[.slice none 0 0, .slice none 0 0] 26)).cell? ⟨w.heap.size + 1 + 1 + 1, 0, none⟩ = some (.slice none 0 0) := by go_simp
    have ct_1 : ((((w.alloc (.cells #[.slice a n cap, .slice b m cb] 26)).alloc (.cells #[.slice a' n' cap', .slice b' m' cb'] 26)).alloc (.cells #[.slice none 0 0, .slice none 0 0] 26)).alloc (.cells #[.slice none 0 0, .slice none 0 0] 26)).cell? ⟨w.heap.size + 1 + 1 + 1, 1, none⟩ = some (.slice none 0 0) := by go_simp
    have zt : w.heap.size + 1 + 1 + 1 < ((((w.alloc (.cells #[.slice a n cap, .slice b m cb] 26)).alloc (.cells #[.slice a' n' cap', .slice b' m' cb'] 26)).alloc (.cells #[.slice none 0 0, .slice none 0 0] 26)).alloc (.cells #[.slice none 0 0, .slice none 0 0] 26)).heap.size := by simp
    have hsV0 : w.heap.size + 1 + 1 + 1 < ((((w.alloc (.cells #[.slice a n cap, .slice b m cb] 26)).alloc (.cells #[.slice a' n' cap', .slice b' m' cb'] 26)).alloc (.cells #[.slice none 0 0, .slice none 0 0] 26)).alloc (.cells #[.slice none 0 0, .slice none 0 0] 26)).heap.size := by simp
    generalize ((((w.alloc (.cells #[.slice a n cap, .slice b m cb] 26)).alloc (.cells #[.slice a' n' cap', .slice b' m' cb'] 26)).alloc (.cells #[.slice none 0 0, .slice none 0 0] 26)).alloc (.cells #[.slice none 0 0, .slice none 0 0] 26)) = V0 at *
    refine (HK.out _ HB.out).mono ?_
    rintro e w1 ⟨rfl, hb⟩
    have hsw1 : V0.heap.size ≤ w1.heap.size := hb.size
    replace cb1_0 := cells_of hb zb1 cb1_0
    replace cb1_1 := cells_of hb zb1 cb1_1
    replace zb1 := Nat.lt_of_lt_of_le zb1 hb.size
    replace cb2_0 := cells_of hb zb2 cb2_0
    replace cb2_1 := cells_of hb zb2 cb2_1
    replace zb2 := Nat.lt_of_lt_of_le zb2 hb.size
    replace fr := Lib.hid (fun o => (hb.frozen (p := ⟨w.heap.size + 1 + 1, o, none⟩) zr).trans (fr.out o))
    replace cr_0 := cells_of hb zr cr_0
    replace cr_1 := cells_of hb zr cr_1
    replace zr := Nat.lt_of_lt_of_le zr hb.size
    replace ct_0 := cells_of hb zt ct_0
    replace ct_1 := cells_of hb zt ct_1
    replace zt := Nat.lt_of_lt_of_le zt hb.size
    replace HB := Lib.hid (below_step HB.out HB.out.size hb)
    clear hb
    go_wp2_with fail
    refine (HK'.out _ HB.out).mono ?_
    rintro e w2 ⟨rfl, hb⟩
    have hsw2 : w1.heap.size ≤ w2.heap.size := hb.size
    replace cb1_0 := cells_of hb zb1 cb1_0
    replace cb1_1 := cells_of hb zb1 cb1_1
    replace zb1 := Nat.lt_of_lt_of_le zb1 hb.size
    replace cb2_0 := cells_of hb zb2 cb2_0
    replace cb2_1 := cells_of hb zb2 cb2_1
    replace zb2 := Nat.lt_of_lt_of_le zb2 hb.size
    replace fr := Lib.hid (fun o => (hb.frozen (p := ⟨w.heap.size + 1 + 1, o, none⟩) zr).trans (fr.out o))
    replace cr_0 := cells_of hb zr cr_0
    replace cr_1 := cells_of hb zr cr_1
    replace zr := Nat.lt_of_lt_of_le zr hb.size
    replace ct_0 := cells_of hb zt ct_0
    replace ct_1 := cells_of hb zt ct_1
    replace zt := Nat.lt_of_lt_of_le zt hb.size
    replace HB := Lib.hid (below_step HB.out HB.out.size hb)
    clear hb
    have hrr := fr.out
    go_wp2
    refine bodyPost_ret (v := cntV none 0 0 none 0 0) ?_ rfl ?_
    · simp only [results, hres]
      go_simp
    · rw [HJ.out.1, HJ.out.2]
      refine ⟨none, 0, none, 0, rfl, OwnC.nil ?_, ?_⟩
      · simp
        omega
      · exact (HB.out.setCell (p := ⟨w.heap.size + 1 + 1, 0, none⟩) (Nat.le_add_right _ 2) _).setCell (p := ⟨w.heap.size + 1 + 1, 1, none⟩) (Nat.le_add_right _ 2) _
  rw [gv] at HK'
  have HJ := Lib.hid (cj_good hv gv)
  have hlen : us.length = 4 ∧ ds.length = 4 := by obtain ⟨x0, x1, x2, x3, y0, y1, y2, y3, rfl, rfl, -⟩ := cntB_four hv; exact ⟨rfl, rfl⟩
  have glen : us'.length = 4 ∧ ds'.length = 4 := by obtain ⟨x0, x1, x2, x3, y0, y1, y2, y3, rfl, rfl, -⟩ := cntB_four gv; exact ⟨rfl, rfl⟩
  have hn4 : n = 4 := HL.out.symm.trans hlen.1
  have hm4 : m = 4 := HL'.out.symm.trans hlen.2
  have gn4 : n' = 4 := GL.out.symm.trans glen.1
  have gm4 : m' = 4 := GL'.out.symm.trans glen.2
  subst hn4 hm4 gn4 gm4
  clear hv gv hlen glen
  have HRZ : Hid (∀ W, Below ((((w.alloc (.cells #[.slice a 4 cap, .slice b 4 cb] 26)).alloc (.cells #[.slice a' 4 cap', .slice b' 4 cb'] 26)).alloc (.cells #[.slice none 0 0, .slice none 0 0] 26)).alloc (.cells #[.slice none 0 0, .slice none 0 0] 26)).heap.size ((((w.alloc (.cells #[.slice a 4 cap, .slice b 4 cb] 26)).alloc (.cells #[.slice a' 4 cap', .slice b' 4 cb'] 26)).alloc (.cells #[.slice none 0 0, .slice none 0 0] 26)).alloc (.cells #[.slice none 0 0, .slice none 0 0] 26)) W → JoinC w W a b cap cb a' b' cap' cb' none 0 0 none 0 0 ((List.zipWith max us us').take 0) ((List.zipWith max ds ds').take 0)) := fun W hW => by
    obtain ⟨h0, h1, h2, h3⟩ := heap_four w (.cells #[.slice a 4 cap, .slice b 4 cb] 26) (.cells #[.slice a' 4 cap', .slice b' 4 cb'] 26) (.cells #[.slice none 0 0, .slice none 0 0] 26) (.cells #[.slice none 0 0, .slice none 0 0] 26)
    refine ⟨below_step (((((Below.refl _ _).alloc (Nat.le_refl _) _).alloc (by simp) _).alloc (by simp <;> omega) _).alloc (by simp <;> omega) _) (by simp <;> omega) hW, (hW.block _ (by simp <;> omega)).trans h0, (hW.block _ (by simp <;> omega)).trans h1, (hW.block _ (by simp <;> omega)).trans h2, (hW.block _ (by simp <;> omega)).trans h3, World.ownsRow_nil _ _ _ _, World.ownsRow_nil _ _ _ _, rfl, rfl, fun g hg => ?_⟩
    unfold Value.ownBlock at hg
    cases hg
  go_enter Try.func9, Try.ntmps9
  go_wp2_with fail
  have HB : Hid (Below w.heap.size w ((((w.alloc (.cells #[.slice a 4 cap, .slice b 4 cb] 26)).alloc (.cells #[.slice a' 4 cap', .slice b' 4 cb'] 26)).alloc (.cells #[.slice none 0 0, .slice none 0 0] 26)).alloc (.cells #[.slice none 0 0, .slice none 0 0] 26))) := (((((Below.refl _ _).alloc (Nat.le_refl _) _).alloc (by simp) _).alloc (by simp <;> omega) _).alloc (by simp <;> omega) _)
  have cb1_0 : ((((w.alloc (.cells #[.slice a 4 cap, .slice b 4 cb] 26)).alloc (.cells #[.slice a' 4 cap', .slice b' 4 cb'] 26)).alloc (.cells #[.slice none 0 0, .slice none 0 0] 26)).alloc (.cells #[.slice none 0 0, .slice none 0 0] 26)).cell? ⟨w.heap.size, 0, none⟩ = some (.slice a 4 cap) := by go_simp
  have cb1_1 : ((((w.alloc (.cells #[.slice a 4 cap, .slice b 4 cb] 26)).alloc (.cells #[.slice a' 4 cap', .slice b' 4 cb'] 26)).alloc (.cells #[.slice none 0 0, .slice none 0 0] 26)).alloc (.cells #[.slice none 0 0, .slice none 0 0] 26)).cell? ⟨w.heap.size, 1, none⟩ = some (.slice b 4 cb) := by go_simp
  have zb1 : w.heap.size < ((((w.alloc (.cells #[.slice a 4 cap, .slice b 4 cb] 26)).alloc (.cells #[.slice a' 4 cap', .slice b' 4 cb'] 26)).alloc (.cells #[.slice none 0 0, .slice none 0 0] 26)).alloc (.cells #[.slice none 0 0, .slice none 0 0] 26)).heap.size := by simp <;> omega
  have cb2_0 : ((((w.alloc (.cells #[.slice a 4 cap, .slice b 4 cb] 26)).alloc (.cells #[.slice a' 4 cap', .slice b' 4 cb'] 26)).alloc (.cells #[.slice none 0 0, .slice none 0 0] 26)).alloc (.cells #[.slice none 0 0, .slice none 0 0] 26)).cell? ⟨w.heap.size + 1, 0, none⟩ = some (.slice a' 4 cap') := by go_simp
  have cb2_1 : ((((w.alloc (.cells #[.slice a 4 cap, .slice b 4 cb] 26)).alloc (.cells #[.slice a' 4 cap', .slice b' 4 cb'] 26)).alloc (.cells #[.slice none 0 0, .slice none 0 0] 26)).alloc (.cells #[.slice none 0 0, .slice none 0 0] 26)).cell? ⟨w.heap.size + 1, 1, none⟩ = some (.slice b' 4 cb') := by go_simp
  have zb2 : w.heap.size + 1 < ((((w.alloc (.cells #[.slice a 4 cap, .slice b 4 cb] 26)).alloc (.cells #[.slice a' 4 cap', .slice b' 4 cb'] 26)).alloc (.cells #[.slice none 0 0, .slice none 0 0] 26)).alloc (.cells #[.slice none 0 0, .slice none 0 0] 26)).heap.size := by simp <;> omega
  have cr_0 : ((((w.alloc (.cells #[.slice a 4 cap, .slice b 4 cb] 26)).alloc (.cells #[.slice a' 4 cap', .slice b' 4 cb'] 26)).alloc (.cells #[.slice none 0 0, .slice none 0 0] 26)).alloc (.cells #[.slice none 0 0, .slice none 0 0] 26)).cell? ⟨w.heap.size + 1 + 1, 0, none⟩ = some (.slice none 0 0) := by go_simp
  have cr_1 : ((((w.alloc (.cells #[.slice a 4 cap, .slice b 4 cb] 26)).alloc (.cells #[.slice a' 4 cap', .slice b' 4 cb'] 26)).alloc (.cells #[.slice none 0 0, .slice none 0 0] 26)).alloc (.cells #[.slice none 0 0, .slice none 0 0] 26)).cell? ⟨w.heap.size + 1 + 1, 1, none⟩ = some (.slice none 0 0) := by go_simp
  have zr : w.heap.size + 1 + 1 < ((((w.alloc (.cells #[.slice a 4 cap, .slice b 4 cb] 26)).alloc (.cells #[.slice a' 4 cap', .slice b' 4 cb'] 26)).alloc (.cells #[.slice none 0 0, .slice none 0 0] 26)).alloc (.cells #[.slice none 0 0, .slice none 0 0] 26)).heap.size := by simp <;> omega
  have ct_0 : ((((w.alloc (.cells #[.slice a 4 cap, .slice b 4 cb] 26)).alloc (.cells #[.slice a' 4 cap', .slice b' 4 cb'] 26)).alloc (.cells #[.slice none 0 0, .slice none 0 0] 26)).alloc (.cells #[.slice none 0 0, .slice none 0 0] 26)).cell? ⟨w.heap.size + 1 + 1 + 1, 0, none⟩ = some (.slice none 0 0) := by go_simp
  have ct_1 : ((((w.alloc (.cells #[.slice a 4 cap, .slice b 4 cb] 26)).alloc (.cells #[.slice a' 4 cap', .slice b' 4 cb'] 26)).alloc (.cells #[.slice none 0 0, .slice none 0 0] 26)).alloc (.cells #[.slice none 0 0, .slice none 0 0] 26)).cell? ⟨w.heap.size + 1 + 1 + 1, 1, none⟩ = some (.slice none 0 0) := by go_simp
  have zt : w.heap.size + 1 + 1 + 1 < ((((w.alloc (.cells #[.slice a 4 cap, .slice b 4 cb] 26)).alloc (.cells #[.slice a' 4 cap', .slice b' 4 cb'] 26)).alloc (.cells #[.slice none 0 0, .slice none 0 0] 26)).alloc (.cells #[.slice none 0 0, .slice none 0 0] 26)).heap.size := by simp
  have hsV0 : w.heap.size + 1 + 1 + 1 < ((((w.alloc (.cells #[.slice a 4 cap, .slice b 4 cb] 26)).alloc (.cells #[.slice a' 4 cap', .slice b' 4 cb'] 26)).alloc (.cells #[.slice none 0 0, .slice none 0 0] 26)).alloc (.cells #[.slice none 0 0, .slice none 0 0] 26)).heap.size := by simp
  generalize ((((w.alloc (.cells #[.slice a 4 cap, .slice b 4 cb] 26)).alloc (.cells #[.slice a' 4 cap', .slice b' 4 cb'] 26)).alloc (.cells #[.slice none 0 0, .slice none 0 0] 26)).alloc (.cells #[.slice none 0 0, .slice none 0 0] 26)) = V0 at *
  have HS0 : Hid (Below V0.heap.size V0 V0) := Below.refl _ _
  refine (HK.out _ HB.out).mono ?_
  rintro e w1 ⟨rfl, hb⟩
  have hsw1 : V0.heap.size ≤ w1.heap.size := hb.size
  replace cb1_0 := cells_of hb zb1 cb1_0
  replace cb1_1 := cells_of hb zb1 cb1_1
  replace zb1 := Nat.lt_of_lt_of_le zb1 hb.size
  replace cb2_0 := cells_of hb zb2 cb2_0
  replace cb2_1 := cells_of hb zb2 cb2_1
  replace zb2 := Nat.lt_of_lt_of_le zb2 hb.size
  replace cr_0 := cells_of hb zr cr_0
  replace cr_1 := cells_of hb zr cr_1
  replace zr := Nat.lt_of_lt_of_le zr hb.size
  replace ct_0 := cells_of hb zt ct_0
  replace ct_1 := cells_of hb zt ct_1
  replace zt := Nat.lt_of_lt_of_le zt hb.size
  replace HB := Lib.hid (below_step HB.out HB.out.size hb)
  replace HS0 := Lib.hid (below_step HS0.out HS0.out.size hb)
  clear hb
  go_wp2_with fail
  refine (HK'.out _ HB.out).mono ?_
  rintro e w2 ⟨rfl, hb⟩
  have hsw2 : w1.heap.size ≤ w2.heap.size := hb.size
  replace cb1_0 := cells_of hb zb1 cb1_0
  replace cb1_1 := cells_of hb zb1 cb1_1
  replace zb1 := Nat.lt_of_lt_of_le zb1 hb.size
  replace cb2_0 := cells_of hb zb2 cb2_0
  replace cb2_1 := cells_of hb zb2 cb2_1
  replace zb2 := Nat.lt_of_lt_of_le zb2 hb.size
  replace cr_0 := cells_of hb zr cr_0
  replace cr_1 := cells_of hb zr cr_1
  replace zr := Nat.lt_of_lt_of_le zr hb.size
  replace ct_0 := cells_of hb zt ct_0
  replace ct_1 := cells_of hb zt ct_1
  replace zt := Nat.lt_of_lt_of_le zt hb.size
  replace HB := Lib.hid (below_step HB.out HB.out.size hb)
  replace HS0 := Lib.hid (below_step HS0.out HS0.out.size hb)
  clear hb
  clear cb1_0 cb1_1 zb1
  clear cb2_0 cb2_1 zb2
  clear cr_0 cr_1 zr
  clear ct_0 ct_1 zt
  have HJS := Lib.hid (HRZ.out _ HS0.out)
  clear HRZ HS0 HB HK HK' hsV0 hsw1 hsw2
  go_wp2
  go_loopw [6] (fun i wr => ∃ (k : Nat) (x : Option Addr) (cx : Nat) (y : Option Addr) (cy : Nat), k ≤ 4 ∧ i = .int .i64 k ∧ Hid (JoinC w wr a b cap cb a' b' cap' cb' x k cx y k cy ((List.zipWith max us us').take k) ((List.zipWith max ds ds').take k))) (fun i _ => 4 - (intOf i).toNat)
  case atStart => exact ⟨0, none, 0, none, 0, Nat.zero_le _, rfl, HJS⟩
  case round =>
    clear HJS
    obtain ⟨k, x, cx, y, cy, hk, rfl, HS⟩ := hrel
    obtain ⟨c0, c0', f0, h0⟩ := cells_two HS.out.b0
    obtain ⟨c1, c1', f1, h1⟩ := cells_two HS.out.b1
    obtain ⟨c2, c2', f2, h2⟩ := cells_two HS.out.b2
    obtain ⟨c3, c3', f3, h3⟩ := cells_two HS.out.b3
    by_cases hk' : k < 4
    · have i1 : (0 : Int) ≤ (k : Int) := by omega
      have i2 : (k : Int) < 4 := by omega
      clear c0 c0' f0 h0 c1 c1' f1 h1 c2 c2' f2 h2 c3 c3' f3 h3
      have hkx : k < us.length := by rw [HL.out]; exact hk'
      have hky : k < us'.length := by rw [GL.out]; exact hk'
      obtain ⟨o1, p1, e1, hbl, -⟩ := HC.out.1.at HS.out.low hkx
      obtain ⟨o2, p2, e2, hbl', -⟩ := GC.out.1.at HS.out.low hky
      have HT := Lib.hid (zip_take us us' k hkx hky)
      obtain ⟨ob, hob⟩ : ∃ ob, (Value.slice x k cx).ownBlock = ob := ⟨_, rfl⟩
      have HOE := Lib.hid hob
      clear hob
      have HCL : Hid (∀ w', wr.grownBy w' ob → w'.cell? ⟨w.heap.size, 0, none⟩ = some (.slice (some ⟨o1, p1, none⟩) 4 cap) ∧ w'.cell? ⟨w.heap.size + 1, 0, none⟩ = some (.slice (some ⟨o2, p2, none⟩) 4 cap') ∧ w'.cell? ⟨w.heap.size + 1 + 1 + 1, 0, none⟩ = some (.slice x k cx) ∧ w'.cell? ⟨o1, p1 + k, none⟩ = some (.int .i64 (us.getD k 0)) ∧ w'.cell? ⟨o2, p2 + k, none⟩ = some (.int .i64 (us'.getD k 0))) := fun w' hG => by
        rw [← HOE.out] at hG
        obtain ⟨⟨q0, q1, q2, q3⟩, hlow⟩ := HS.out.cells HS.out.obx hG
        obtain ⟨_, _, he, -, p0⟩ := HC.out.1.at hlow hkx
        rw [e1] at he
        injection he with he
        injection he with he1 he2
        subst he1 he2
        obtain ⟨_, _, he, -, p1⟩ := GC.out.1.at hlow hky
        rw [e2] at he
        injection he with he
        injection he with he1 he2
        subst he1 he2
        rw [← e1, ← e2]
        exact ⟨(cells_two q0).1, (cells_two q1).1, (cells_two q3).1, p0, p1⟩
      have HOB : Hid (∀ g, ob = some g → g < wr.heap.size) := fun g hg => (World.ownsRow.lt HS.out.rowx g (HOE.out.trans hg)).2
      clear hbl hbl' e1 e2 hkx hky
      generalize us.getD k 0 = X at *
      generalize us'.getD k 0 = Y at *
      go_wp2_with fail
      refine wp_region_slots_u 16 [[(5, false)], [(21, true)], [(2, false)], [(23, true)], [(6, false)], [(24, true), (25, true)], [(26, true)], [(3, false)], [(28, true)], [(6, false)], [(29, true), (30, true)], [(31, true)], [(27, true), (32, true)], [(33, true)], [(22, true), (34, true)], [(5, false)]] (fun w' => wr.grownBy w' ob) (fun w' => wr.grownBy w' ob) (fun _ w' => wr.grownBy w' ob) (fun d w' => d = some 35 → RowI w' (w.heap.size + 1 + 1 + 1 + 1) (.slice x k cx) ((List.zipWith max us us').take k)) (fun _ => none) (AppS 35 ob) (by kernel_rfl) (by kernel_rfl) (by rfl) ⟨rfl, rfl, rfl, Nat.le_refl _, fun _ _ _ => rfl⟩ (by kernel_rfl) (fun _ _ => HS.out.rowx.below (Below.refl _ _).drew) (fun _ h => by cases h) (fun d d' hd w w' h1 h2 h3 => (h1 h3).below (appS_below (h3 ▸ hd) h2)) (fun _ _ _ _ _ _ h => by cases h) (fun d _ w w' h1 h2 => grown_trans h1 (appS_any h2)) (fun _ _ _ h => h) (fun _ _ _ h => h) ?_
      have HRF : Hid (∀ (d : Option Tmp) (w : World), d ≠ some 35 → AppS 35 ob d w w) := fun d w hd => appS_refl hd w
      iterate 13 (apply slotU_eq; · (intro ρ w' ⟨p1, p2, p3⟩ hG hEE hn; obtain ⟨c0, c1, c3, d0, d1⟩ := HCL.out w' hG; simp at hn; go_simp; exact ⟨HRF.out _ _ (by simp), rfl⟩))
      refine slotU_fact (OneI ob (max X Y)) (lasts_oneI _ _ _ _ _) ?_ ?_
      · intro ρ w' ⟨p1, p2, p3⟩ hG hEE hn
        simp at hn
        go_simp
        exact ⟨appS_alloc (by simp) _ _, _, rfl, by simp, fun e => by have h1 := HOB.out _ e; have h2 := hG.size; omega, oneI_cells _ _ _⟩
      refine slotU_fact (RowG2 (w.heap.size + 1 + 1 + 1 + 1) k ob wr.heap.size (((List.zipWith max us us').take k) ++ [max X Y])) (lasts_rowG2 _ _ _ _ _ _ _) ?_ ?_
      · intro ρ w' ⟨p1, p2, p3⟩ hG hEE hn
        simp at hn
        obtain ⟨f25, g', f37, hg3, hg4, hg5⟩ := hn
        have hown := hEE rfl
        have hlt := HS.out.lt
        have hsz := hG.size
        have hlen := HS.out.lenx
        unfold RowI at hown
        rw [hlen] at hown
        obtain ⟨i0, hi0, hx0⟩ := Option.map_eq_some_iff.1 infoInt
        simp only [Prod.mk.injEq] at hx0
        refine got_append (.tmp 22) (.tmp 34) _ rfl (w.heap.size + 1 + 1 + 1 + 1) 3 i0 (.int .i64 0) 1 8 Try.underlying24 hi0 hx0.1 hx0.2.1 hx0.2.2 (by rfl) (by omega) (.slice x k cx) k (((List.zipWith max us us').take k).map intV) f25 hown ⟨g', 0, none⟩ 1 1 [intV (max X Y)] f37 (by rfl) hg5 (intV_one [max X Y]) (by omega) (by unfold maxLen; omega) (by omega) (by omega) _ rfl ?_
        intro g3 cp3 w5 h1 h2 h3 h4
        rw [HOE.out] at h2 h3
        refine ⟨appS_grown h2, g3, cp3, rfl, h3.imp id (fun e => by omega), ?_⟩
        unfold RowI
        rw [List.length_append, List.map_append, hlen]
        simpa using h1
      apply slotU_eq
      · intro ρ w' ⟨p1, p2, p3⟩ hG hEE hn
        simp at hn
        go_simp
        exact ⟨HRF.out _ _ (by simp), rfl⟩
      refine slotU_end ?_
      rintro vs w4x hG hF
      simp at hF
      obtain ⟨f36, ⟨gx, cpx, f35, hgg, hrow⟩, ⟨g', f34, -, -, -⟩, f33, f32, f31, f30, f29, f28, f27, f26, f25, f24, f23, f22, f21⟩ := hF
      have hG' := hG
      rw [← HOE.out] at hG' hgg
      have HN5 := Lib.hid (HS.out.nextx hG' hgg hrow)
      rw [← HT.out] at HN5
      obtain ⟨⟨-, -, -, q3⟩, -⟩ := HS.out.cells HS.out.obx hG'
      obtain ⟨c3, c3', f3, h3⟩ := cells_two q3
      clear hrow hgg hG hG' HRF HS HT HCL HOB HOE q3
      simp only [List.take_succ_cons, List.take_zero, List.drop_succ_cons, List.drop_zero, putAll, f36, f35, f34, f33, f32, f31, f30, f29, f28, f27, f26, f25, f24, f23, f22, f21]
      clear f21 f22 f23 f24 f25 f26 f27 f28 f29 f30 f31 f32 f33 f34 f35 f36
      simp only [Act.put, List.setIfInBounds_toArray, List.set_cons_succ, List.set_cons_zero]
      go_wp2_with fail
      clear c3 c3' f3 h3
      generalize (w4x.setCell ⟨w.heap.size + 1 + 1 + 1, 0, none⟩ (.slice (some ⟨gx, 0, none⟩) (k + 1) cpx)) = W5 at *
      have HS := HN5
      clear HN5 ob
      have hkx : k < ds.length := by rw [HL'.out]; exact hk'
      have hky : k < ds'.length := by rw [GL'.out]; exact hk'
      obtain ⟨o1, p1, e1, hbl, -⟩ := HC.out.2.at HS.out.low hkx
      obtain ⟨o2, p2, e2, hbl', -⟩ := GC.out.2.at HS.out.low hky
      have HT := Lib.hid (zip_take ds ds' k hkx hky)
      obtain ⟨ob, hob⟩ : ∃ ob, (Value.slice y k cy).ownBlock = ob := ⟨_, rfl⟩
      have HOE := Lib.hid hob
      clear hob
      have HCL : Hid (∀ w', W5.grownBy w' ob → w'.cell? ⟨w.heap.size, 1, none⟩ = some (.slice (some ⟨o1, p1, none⟩) 4 cb) ∧ w'.cell? ⟨w.heap.size + 1, 1, none⟩ = some (.slice (some ⟨o2, p2, none⟩) 4 cb') ∧ w'.cell? ⟨w.heap.size + 1 + 1 + 1, 1, none⟩ = some (.slice y k cy) ∧ w'.cell? ⟨o1, p1 + k, none⟩ = some (.int .i64 (ds.getD k 0)) ∧ w'.cell? ⟨o2, p2 + k, none⟩ = some (.int .i64 (ds'.getD k 0))) := fun w' hG => by
        rw [← HOE.out] at hG
        obtain ⟨⟨q0, q1, q2, q3⟩, hlow⟩ := HS.out.cells HS.out.oby hG
        obtain ⟨_, _, he, -, p0⟩ := HC.out.2.at hlow hkx
        rw [e1] at he
        injection he with he
        injection he with he1 he2
        subst he1 he2
        obtain ⟨_, _, he, -, p1⟩ := GC.out.2.at hlow hky
        rw [e2] at he
        injection he with he
        injection he with he1 he2
        subst he1 he2
        rw [← e1, ← e2]
        exact ⟨(cells_two q0).2.1, (cells_two q1).2.1, (cells_two q3).2.1, p0, p1⟩
      have HOB : Hid (∀ g, ob = some g → g < W5.heap.size) := fun g hg => (World.ownsRow.lt HS.out.rowy g (HOE.out.trans hg)).2
      clear hbl hbl' e1 e2 hkx hky
      generalize ds.getD k 0 = X at *
      generalize ds'.getD k 0 = Y at *
      refine wp_region_slots_u 16 [[(5, false)], [(37, true)], [(2, false)], [(39, true)], [(6, false)], [(40, true), (41, true)], [(42, true)], [(3, false)], [(44, true)], [(6, false)], [(45, true), (46, true)], [(47, true)], [(43, true), (48, true)], [(49, true)], [(38, true), (50, true)], [(5, false)]] (fun w' => W5.grownBy w' ob) (fun w' => W5.grownBy w' ob) (fun _ w' => W5.grownBy w' ob) (fun d w' => d = some 51 → RowI w' (w.heap.size + 1 + 1 + 1 + 1) (.slice y k cy) ((List.zipWith max ds ds').take k)) (fun _ => none) (AppS 51 ob) (by kernel_rfl) (by kernel_rfl) (by rfl) ⟨rfl, rfl, rfl, Nat.le_refl _, fun _ _ _ => rfl⟩ (by kernel_rfl) (fun _ _ => HS.out.rowy.below (Below.refl _ _).drew) (fun _ h => by cases h) (fun d d' hd w w' h1 h2 h3 => (h1 h3).below (appS_below (h3 ▸ hd) h2)) (fun _ _ _ _ _ _ h => by cases h) (fun d _ w w' h1 h2 => grown_trans h1 (appS_any h2)) (fun _ _ _ h => h) (fun _ _ _ h => h) ?_
      have HRF : Hid (∀ (d : Option Tmp) (w : World), d ≠ some 51 → AppS 51 ob d w w) := fun d w hd => appS_refl hd w
      iterate 13 (apply slotU_eq; · (intro ρ w' ⟨p1, p2, p3⟩ hG hEE hn; obtain ⟨c0, c1, c3, d0, d1⟩ := HCL.out w' hG; simp at hn; go_simp; exact ⟨HRF.out _ _ (by simp), rfl⟩))
      refine slotU_fact (OneI ob (max X Y)) (lasts_oneI _ _ _ _ _) ?_ ?_
      · intro ρ w' ⟨p1, p2, p3⟩ hG hEE hn
        simp at hn
        go_simp
        exact ⟨appS_alloc (by simp) _ _, _, rfl, by simp, fun e => by have h1 := HOB.out _ e; have h2 := hG.size; omega, oneI_cells _ _ _⟩
      refine slotU_fact (RowG2 (w.heap.size + 1 + 1 + 1 + 1) k ob W5.heap.size (((List.zipWith max ds ds').take k) ++ [max X Y])) (lasts_rowG2 _ _ _ _ _ _ _) ?_ ?_
      · intro ρ w' ⟨p1, p2, p3⟩ hG hEE hn
        simp at hn
        obtain ⟨f25, g', f37, hg3, hg4, hg5⟩ := hn
        have hown := hEE rfl
        have hlt := HS.out.lt
        have hsz := hG.size
        have hlen := HS.out.leny
        unfold RowI at hown
        rw [hlen] at hown
        obtain ⟨i0, hi0, hx0⟩ := Option.map_eq_some_iff.1 infoInt
        simp only [Prod.mk.injEq] at hx0
        refine got_append (.tmp 38) (.tmp 50) _ rfl (w.heap.size + 1 + 1 + 1 + 1) 3 i0 (.int .i64 0) 1 8 Try.underlying24 hi0 hx0.1 hx0.2.1 hx0.2.2 (by rfl) (by omega) (.slice y k cy) k (((List.zipWith max ds ds').take k).map intV) f25 hown ⟨g', 0, none⟩ 1 1 [intV (max X Y)] f37 (by rfl) hg5 (intV_one [max X Y]) (by omega) (by unfold maxLen; omega) (by omega) (by omega) _ rfl ?_
        intro g3 cp3 w5 h1 h2 h3 h4
        rw [HOE.out] at h2 h3
        refine ⟨appS_grown h2, g3, cp3, rfl, h3.imp id (fun e => by omega), ?_⟩
        unfold RowI
        rw [List.length_append, List.map_append, hlen]
        simpa using h1
      apply slotU_eq
      · intro ρ w' ⟨p1, p2, p3⟩ hG hEE hn
        simp at hn
        go_simp
        exact ⟨HRF.out _ _ (by simp), rfl⟩
      refine slotU_end ?_
      rintro vs w4y hG hF
      simp at hF
      obtain ⟨f52, ⟨gy, cpy, f51, hgg, hrow⟩, ⟨g', f50, -, -, -⟩, f49, f48, f47, f46, f45, f44, f43, f42, f41, f40, f39, f38, f37⟩ := hF
      have hG' := hG
      rw [← HOE.out] at hG' hgg
      have HN5 := Lib.hid (HS.out.nexty hG' hgg hrow)
      rw [← HT.out] at HN5
      obtain ⟨⟨-, -, -, q3⟩, -⟩ := HS.out.cells HS.out.oby hG'
      obtain ⟨c3, c3', f3, h3⟩ := cells_two q3
      clear hrow hgg hG hG' HRF HS HT HCL HOB HOE q3
      simp only [List.take_succ_cons, List.take_zero, List.drop_succ_cons, List.drop_zero, putAll, f52, f51, f50, f49, f48, f47, f46, f45, f44, f43, f42, f41, f40, f39, f38, f37]
      clear f37 f38 f39 f40 f41 f42 f43 f44 f45 f46 f47 f48 f49 f50 f51 f52
      simp only [Act.put, List.setIfInBounds_toArray, List.set_cons_succ, List.set_cons_zero]
      go_wp2
      exact ⟨⟨k + 1, _, _, _, _, by omega, by go_num, HN5⟩, by simp [intOf]; omega⟩
    · have hkk : k = 4 := by omega
      subst hkk
      have hlt := HS.out.lt
      have hz1 := HL.out
      have hz2 := GL.out
      have hz3 := HL'.out
      have hz4 := GL'.out
      have hallx : (List.zipWith max us us').take 4 = cjU us ds us' ds' := by
        rw [HJ.out.1, List.take_of_length_le (by simp; omega)]
      have hally : (List.zipWith max ds ds').take 4 = cjD us ds us' ds' := by
        rw [HJ.out.2, List.take_of_length_le (by simp; omega)]
      have ho := HS.out.own
      have hlx := HS.out.lenx
      have hly := HS.out.leny
      rw [hallx] at ho hlx
      rw [hally] at ho hly
      have HO2 := Lib.hid ((ho.aside (p := ⟨w.heap.size + 1 + 1, 0, none⟩) (by show w.heap.size + 1 + 1 < w.heap.size + 1 + 1 + 1 + 1; omega) (.slice x 4 cx)).aside (p := ⟨w.heap.size + 1 + 1, 1, none⟩) (by show w.heap.size + 1 + 1 < w.heap.size + 1 + 1 + 1 + 1; omega) (.slice y 4 cy))
      have HLX := Lib.hid hlx
      have HLY := Lib.hid hly
      have HB5 := Lib.hid ((HS.out.low.setCell (p := ⟨w.heap.size + 1 + 1, 0, none⟩) (Nat.le_add_right _ 2) (.slice x 4 cx)).setCell (p := ⟨w.heap.size + 1 + 1, 1, none⟩) (Nat.le_add_right _ 2) (.slice y 4 cy))
      clear hallx hally ho hlx hly hz1 hz2 hz3 hz4 HJ
      go_wp2
      refine bodyPost_ret (v := cntV x 4 cx y 4 cy) ?_ rfl ?_
      · simp only [results, hres]
        go_simp
      · exact ⟨x, cx, y, cy, by rw [HLX.out, HLY.out], HO2.out.wider (by omega) (by simp), HB5.out⟩

end Go.Proofs.Ytaopkoamjfmhhaa

/- A list of numbers copied behind an empty row, inside a region that draws its order: a row of one's own in a block that was not there. -/
namespace Go.Proofs.Ytaopkoamjfmhhaa
open Go.ChangeShapes Go.WideShapes Go.ChangeAt Go.RowKit Go.Joins

theorem add_atN (b o j : Nat) : ((⟨b, o, none⟩ : Addr).add j) = ⟨b, o + j, none⟩ := by
  unfold Addr.add
  split
  · rename_i h
    rw [h]
    rfl
  · rfl

theorem isIs_rowN {w : World} {b o : Nat} {ys : List Int} (hh : ∀ i, i < ys.length → w.cell? ⟨b, o + i, none⟩ = some (.int .i64 (ys.getD i 0))) : ∀ j u, (ys.map intV)[j]? = some u → w.cell? ((⟨b, o, none⟩ : Addr).add j) = some u := by
  intro j u hu
  have hj : j < ys.length := by
    have := (List.getElem?_eq_some_iff.1 hu).1
    simpa using this
  rw [add_atN, hh j hj, ← hu]
  simp [intV, List.getD, hj]

set_option maxRecDepth 100000 in
theorem run_append_firstN {P : Program} (w : World) (t ty e : TypeId) (i : TypeInfo) (z : Value) (ht : P.underlying t = some (.slice e)) (hi : P.info? e = some i) (hz : i.zero = some z) (b : Addr) (a : Addr) (n c : Nat) (news : List Value) (hl : news.length = n * i.size) (hnews : ∀ j v, news[j]? = some v → w.cell? (a.add j) = some v)
    (h0 : 0 < n) (h63 : (n : Int) ≤ 9223372036854775807) (h48 : n * i.bytes ≤ 281474976710656) :
    (Builtin.append_ #[t, t] ty #[.slice (some b) 0 0, .slice (some a) n c]).run P w = (Builtin.append_ #[t, t] ty #[.slice none 0 0, .slice (some a) n c]).run P w := by
  rw [run_append_nil w t ty e i z ht hi hz a n c news hl hnews h0 h63 h48]
  rw [run_append_grow w t ty e i z ht hi hz b 0 0 [] (by simp) (by simp) a n c news hl hnews (by omega) (by simpa using h63) (by rw [Nat.zero_add, nextslicecap_zero h0]; exact h48)]
  simp

def RowNF (B : Nat) (ys : List Int) : Fact := fun v w => ∃ g cap, v = .slice (some ⟨g, 0, none⟩) ys.length cap ∧ B ≤ g ∧ g < w.heap.size ∧ RowI w B (.slice (some ⟨g, 0, none⟩) ys.length cap) ys

theorem lasts_rowNF (B : Nat) (ys : List Int) : lasts (fun w w' => Below w.heap.size w w') (RowNF B ys) := by
  rintro v w w' ⟨g, cap, h1, h2, h3, h4⟩ hr
  exact ⟨g, cap, h1, h2, Nat.lt_of_lt_of_le h3 hr.size, h4.below hr⟩

set_option maxRecDepth 100000 in
theorem got_append_new {o : Oper} {ρ : Operand → Value} {w : World} (s x : Operand)
    (ho : o.op = .call { callee := .builtin .append, args := #[s, x], argTypes := #[24, 24] }) (g : Nat) (hs : ρ s = .slice (some ⟨g, 0, none⟩) 0 0)
    (sa : Option Addr) (m c : Nat) (ys : List Int) (hm : ys.length = m) (h0 : 0 < m) (hx : ρ x = .slice sa m c) (src : IsIs w sa ys) (hb : m ≤ 1048576) (B : Nat) (hB : B ≤ w.heap.size) : got Try.prog (fun v w' => Below w.heap.size w w' ∧ RowNF B ys v w' ∧ NewV w v w') ((execOp ρ o).run Try.prog w) := by
  obtain ⟨i0, hi0, hx0⟩ := Option.map_eq_some_iff.1 infoInt
  simp only [Prod.mk.injEq] at hx0
  subst hm
  rcases src with h | ⟨b, off, rfl, hlt, hh⟩
  · rw [h] at h0
    simp at h0
  have hn := isIs_rowN hh
  have hl : (ys.map intV).length = ys.length * 1 := by simp
  have hfirst := run_append_firstN (P := Try.prog) w 24 o.type 3 i0 (.int .i64 0) Try.underlying24 hi0 hx0.1 ⟨g, 0, none⟩ ⟨b, off, none⟩ ys.length c (ys.map intV) (by rw [hx0.2.1]; exact hl) hn (by omega) (by omega) (by rw [hx0.2.2]; omega)
  obtain ⟨g', cap, w', hr, h2, h3, h4, h5⟩ := run_append_lies (P := Try.prog) w 24 o.type w.heap.size 3 i0 (.int .i64 0) 1 8 Try.underlying24 hi0 hx0.1 hx0.2.1 hx0.2.2 (by rfl) (by omega) (.slice none 0 0) 0 [] ⟨by simp, .inl ⟨rfl, rfl⟩⟩ ⟨b, off, none⟩ ys.length c (ys.map intV) hl hn (intV_one ys) (by omega) (by unfold maxLen; omega) (by omega) (Nat.le_refl _) _ rfl
  unfold execOp
  simp only [ho, resolve, invoke, builtin, Sem.run_bind, Sem.run_pure, Result.andThen_ok, List.map_toArray, List.map_cons, List.map_nil, hs, hx, hfirst, hr]
  have hown : RowI w' w.heap.size (.slice (some ⟨g', 0, none⟩) ys.length cap) ys := by
    unfold RowI
    simpa using h2
  have hg : g' = w.heap.size := by
    rcases h4 with h4 | h4
    · simp [Value.ownBlock] at h4
    · exact h4
  have hlow : Below w.heap.size w w' := ⟨h3.os, h3.tape, h3.output, h3.size, fun k hk => h3.block k hk (by simp [Value.ownBlock])⟩
  rw [Nat.zero_add]
  refine ⟨hlow, ⟨g', cap, rfl, by omega, h5, hown.mono hB⟩, h3.size, fun q hq => ?_⟩
  have := own_slice hq
  subst this
  exact ⟨by omega, h5⟩

end Go.Proofs.Ytaopkoamjfmhhaa
