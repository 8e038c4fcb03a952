import Derived.Test.YtaopkoamjfmhhaaPack7
import Derived.Test.YtaopkoamjfmhhaaPack1
import Derived.BigQuiet
import Derived.Deep.QuietTactic
import Derived.WalkSmall
/- Counters: the specification's CounterAdd. -/
namespace Go.Proofs.Ytaopkoamjfmhhaa
open Go.ChangeShapes Go.WideShapes Go.ChangeAt Go.RowKit Go.Joins
attribute [local go_sem ↓] Go.wp_at_zero Go.wp_at_succ

/-- Two rows of numbers of one's own, in two blocks. -/
def RowsC (w : World) (base : Nat) (a : Option Addr) (n c : Nat) (b : Option Addr) (m d : Nat) (us ds : List Int) : Prop :=
  RowI w base (.slice a n c) us ∧ RowI w base (.slice b m d) ds ∧ (∀ g, (Value.slice a n c).ownBlock = some g → (Value.slice b m d).ownBlock ≠ some g) ∧ us.length = n ∧ ds.length = m

theorem RowsC.nil (w : World) (base : Nat) : RowsC w base none 0 0 none 0 0 [] [] := ⟨World.ownsRow_nil _ _ _ _, World.ownsRow_nil _ _ _ _, fun g hg => (by unfold Value.ownBlock at hg; cases hg), rfl, rfl⟩

theorem RowsC.below {w w' : World} {base : Nat} {a : Option Addr} {n c : Nat} {b : Option Addr} {m d : Nat} {us ds : List Int} (h : RowsC w base a n c b m d us ds) (hb : Below w.heap.size w w') : RowsC w' base a n c b m d us ds := ⟨h.1.below hb, h.2.1.below hb, h.2.2⟩

theorem RowsC.mono {w : World} {base base' : Nat} {a : Option Addr} {n c : Nat} {b : Option Addr} {m d : Nat} {us ds : List Int} (h : RowsC w base a n c b m d us ds) (hb : base' ≤ base) : RowsC w base' a n c b m d us ds := ⟨h.1.mono hb, h.2.1.mono hb, h.2.2⟩

theorem RowsC.aside {w : World} {base : Nat} {a : Option Addr} {n c : Nat} {b : Option Addr} {m d : Nat} {us ds : List Int} (h : RowsC w base a n c b m d us ds) {p : Addr} (hp : p.block < base) (v : Value) : RowsC (w.setCell p v) base a n c b m d us ds := ⟨ownsRow_setCell_below h.1 hp _, ownsRow_setCell_below h.2.1 hp _, h.2.2⟩

theorem RowsC.kept {w w' : World} {base : Nat} {a : Option Addr} {n c : Nat} {b : Option Addr} {m d : Nat} {us ds : List Int} {x : Nat} (h : RowsC w base a n c b m d us ds) (hg : w.grownBy w' (some x)) (h1 : (Value.slice a n c).ownBlock ≠ some x) (h2 : (Value.slice b m d).ownBlock ≠ some x) : RowsC w' base a n c b m d us ds :=
  ⟨World.ownsRow.kept h.1 hg (.inr h1), World.ownsRow.kept h.2.1 hg (.inr h2), h.2.2⟩

theorem RowsC.own {w : World} {base : Nat} {a : Option Addr} {n c : Nat} {b : Option Addr} {m d : Nat} {us ds : List Int} (h : RowsC w base a n c b m d us ds) (hl : base ≤ w.heap.size) : OwnC w base w.heap.size a b us ds := by
  rcases rowI_at h.1 with rfl | ⟨g, hg, h1, h2, hx⟩
  · rcases rowI_at h.2.1 with rfl | ⟨q, hq, h3, h4, hy⟩
    · exact OwnC.nil hl
    · exact ⟨q, q, q, q + 1, h3, by omega, h3, h4, .inl (Nat.le_refl _), .inl rfl, hy⟩
  · rcases rowI_at h.2.1 with rfl | ⟨q, hq, h3, h4, hy⟩
    · exact ⟨g, g + 1, g, g, h1, h2, h1, by omega, .inr (Nat.le_refl _), hx, .inl rfl⟩
    · have hne : g ≠ q := fun e => h.2.2.1 g hg (by rw [hq, e])
      exact ⟨g, g + 1, q, q + 1, h1, h2, h3, h4, by omega, hx, hy⟩

theorem row_set {w : World} {base g n c : Nat} {zs : List Int} (h : RowI w base (.slice (some ⟨g, 0, none⟩) n c) zs) (hl : zs.length = n) (q : Nat) (z : Int) : RowI (w.setCell ⟨g, q, none⟩ (.int .i64 z)) base (.slice (some ⟨g, 0, none⟩) n c) (zs.set q z) := by
  have hst := (World.ownsRow.stored (by have := h; unfold RowI at this; rw [hl] at this; exact this) q (.int .i64 z)).1
  unfold RowI
  rw [List.length_set, hl, List.map_set]
  exact hst

theorem RowsC.setx {w : World} {base g n c : Nat} {b : Option Addr} {m d : Nat} {us ds : List Int} (h : RowsC w base (some ⟨g, 0, none⟩) n c b m d us ds) (q : Nat) (z : Int) : RowsC (w.setCell ⟨g, q, none⟩ (.int .i64 z)) base (some ⟨g, 0, none⟩) n c b m d (us.set q z) ds :=
  ⟨row_set h.1 h.2.2.2.1 q z, World.ownsRow.kept h.2.1 (grown_set w g q _) (.inr (h.2.2.1 g rfl)), h.2.2.1, by rw [List.length_set]; exact h.2.2.2.1, h.2.2.2.2⟩

theorem RowsC.sety {w : World} {base g n c : Nat} {a : Option Addr} {m d : Nat} {us ds : List Int} (h : RowsC w base a n c (some ⟨g, 0, none⟩) m d us ds) (q : Nat) (z : Int) : RowsC (w.setCell ⟨g, q, none⟩ (.int .i64 z)) base a n c (some ⟨g, 0, none⟩) m d us (ds.set q z) :=
  ⟨World.ownsRow.kept h.1 (grown_set w g q _) (.inr fun e => h.2.2.1 g e rfl), row_set h.2.1 h.2.2.2.2 q z, h.2.2.1, h.2.2.2.1, by rw [List.length_set]; exact h.2.2.2.2⟩

theorem own_far {w : World} {lo hi : Nat} {a : Option Addr} {zs : List Int} {p : Addr} (h : OwnI w lo hi a zs) (hp : p.block < lo ∨ hi ≤ p.block) (v : Value) : OwnI (w.setCell p v) lo hi a zs := by
  rcases h with h | ⟨b, ha, h1, h2, hlt, hh, hf⟩
  · exact .inl h
  · refine .inr ⟨b, ha, h1, h2, by simpa using hlt, fun i hi => (World.cell?_setCell_other _ _ _ _ (fun e => ?_)).trans (hh i hi), fun o => by rw [World.frozen?_setCell]; exact hf o⟩
    have : p.block = b := by rw [e]
    omega

theorem own_set {w : World} {lo hi g : Nat} {zs : List Int} (h : OwnI w lo hi (some ⟨g, 0, none⟩) zs) (q : Nat) (z : Int) : OwnI (w.setCell ⟨g, q, none⟩ (.int .i64 z)) lo hi (some ⟨g, 0, none⟩) (zs.set q z) := by
  rcases h with h | ⟨b, ha, h1, h2, hlt, hh, hf⟩
  · subst h
    exact .inl (by simp)
  · injection ha with ha
    injection ha with ha
    subst ha
    refine .inr ⟨g, rfl, h1, h2, by simpa using hlt, fun i hi => ?_, fun o => by rw [World.frozen?_setCell]; exact hf o⟩
    rw [List.length_set] at hi
    by_cases hq : i = q
    · subst hq
      rw [World.cell?_setCell_same _ _ _ (hh i hi)]
      simp [List.getD, hi]
    · rw [World.cell?_setCell_other _ _ _ _ (by intro e; injection e with e1 e2; exact hq e2.symm), hh i hi]
      simp [List.getD, Ne.symm hq]

/-- Where a box of two slices lies, there lies no list of numbers. -/
theorem own_off {w : World} {lo hi b : Nat} {g : Option Addr} {zs : List Int} (h : OwnI w lo hi g zs) {s t : Value} {ty : TypeId} (hs : ∀ k z, s ≠ .int k z) (hb : w.heap[b]? = some (.cells #[s, t] ty (0, 0))) (i : Nat) (v : Value) : OwnI (w.setCell ⟨b, i, none⟩ v) lo hi g zs := by
  rcases h with h | ⟨c, ha, h1, h2, hlt, hh, hf⟩
  · exact .inl h
  · by_cases hz : zs = []
    · exact .inl hz
    · refine .inr ⟨c, ha, h1, h2, by simpa using hlt, fun j hj => ?_, fun o => by rw [World.frozen?_setCell]; exact hf o⟩
      refine (World.cell?_setCell_other _ _ _ _ (fun e => ?_)).trans (hh j hj)
      have e1 : b = c := by injection e
      subst e1
      have h0 := hh 0 (List.length_pos_iff.2 hz)
      rw [cell_of_row w b 0 _ _ (0, 0) hb] at h0
      simp at h0
      exact hs _ _ h0

def Box2F (B : Nat) : Fact := fun v w => ∃ b, v = .pointer (some ⟨b, 0, none⟩) ∧ B ≤ b ∧ w.heap[b]? = some (.cells #[.slice none 0 0, .slice none 0 0] 26 (0, 0))

theorem lasts_box2F (B : Nat) : lasts (fun w w' => Below w.heap.size w w') (Box2F B) := by
  rintro v w w' ⟨b, h1, h2, h3⟩ hr
  exact ⟨b, h1, h2, (hr.block b (Array.getElem?_eq_some_iff.1 h3).1).trans h3⟩

/-- Two rows of one's own in one value. -/
def TwoF (B : Nat) (us ds : List Int) : Fact := fun v w => ∃ g c g' c', v = cntV (some ⟨g, 0, none⟩) us.length c (some ⟨g', 0, none⟩) ds.length c' ∧ B ≤ g ∧ B ≤ g' ∧ g < w.heap.size ∧ g' < w.heap.size ∧ g' ≠ g ∧ RowsC w B (some ⟨g, 0, none⟩) us.length c (some ⟨g', 0, none⟩) ds.length c' us ds

theorem lasts_twoF (B : Nat) (us ds : List Int) : lasts (fun w w' => Below w.heap.size w w') (TwoF B us ds) := by
  rintro v w w' ⟨g, c, g', c', h1, h2, h3, h4, h5, h6, h7⟩ hr
  exact ⟨g, c, g', c', h1, h2, h3, Nat.lt_of_lt_of_le h4 hr.size, Nat.lt_of_lt_of_le h5 hr.size, h6, h7.below hr⟩

def EmptyN : Fact := fun v _ => ∃ g, v = .slice (some ⟨g, 0, none⟩) 0 0

theorem lasts_emptyN (R : World → World → Prop) : lasts R EmptyN := fun _ _ _ h _ => h

theorem betweenN (n : Int) (v : Bool) (h : btw n (-1000000000) 1000000000 = v) (w : World) :
    Calls Try.prog 32 #[.int .i64 n, .int .i64 (-1000000000), .int .i64 1000000000] w fun e w' => e = .returned (.bool v) ∧ w' = w := by
  rw [← h]
  exact between_any n _ _ w

theorem getD_rng {us ds : List Int} (h : cntB us ds = true) (q : Nat) (hq : q < 4) : (0 ≤ us.getD q 0 ∧ us.getD q 0 ≤ 1000000000) ∧ 0 ≤ ds.getD q 0 ∧ ds.getD q 0 ≤ 1000000000 := by
  obtain ⟨x0, x1, x2, x3, y0, y1, y2, y3, rfl, rfl, ⟨h0, h1, h2, h3⟩, k0, k1, k2, k3⟩ := cntB_four h
  match q, hq with
  | 0, _ => exact ⟨h0, k0⟩
  | 1, _ => exact ⟨h1, k1⟩
  | 2, _ => exact ⟨h2, k2⟩
  | 3, _ => exact ⟨h3, k3⟩

set_option maxRecDepth 100000 in
set_option maxHeartbeats 8000000 in
theorem specCounterAdd_row (a : Option Addr) (n cap : Nat) (b : Option Addr) (m cb : Nat) (us ds : List Int) (si nn : Int) (w : World) (hl : us.length = n) (hn : n ≤ maxLen) (hl' : ds.length = m) (hm : m ≤ maxLen) (hh : IsC w a b us ds) :
    Calls Try.prog 15 #[cntV a n cap b m cb, .int .i64 si, .int .i64 nn] w fun e w' => ∃ g cp g' cp', e = .returned (.tuple #[cntV g (caU us ds si nn).length cp g' (caD us ds si nn).length cp', .bool (addOk us ds si nn)]) ∧ RowsC w' w.heap.size g (caU us ds si nn).length cp g' (caD us ds si nn).length cp' (caU us ds si nn) (caD us ds si nn) ∧ Below w.heap.size w w' := by
  have hres : Try.f15.results = #[.cell 6 26, .tmp 7] := by kernel_rfl
  have HK : Hid (∀ W, Below w.heap.size w W → Calls Try.prog 10 #[cntV a n cap b m cb] W fun e w' => e = .returned (.bool (cntB us ds)) ∧ Below W.heap.size W w') := fun W hW => specCounterOk_any a n cap b m cb us ds W hl hn hl' hm (hh.below hW)
  have HC := Lib.hid hh
  have HL := Lib.hid hl
  have HL' := Lib.hid hl'
  clear hh hl hl'
  cases hv : cntB us ds
  · have HJ := Lib.hid (addOk_bad (si := si) (n := nn) hv)
    rw [hv] at HK
    clear hv
    go_enter Try.func15, Try.ntmps15
    go_wp2_with fail
    have HB : Hid (Below w.heap.size w ((w.alloc (.cells #[.slice a n cap, .slice b m cb] 26)).alloc (.cells #[.slice none 0 0, .slice none 0 0] 26))) := (((Below.refl _ _).alloc (Nat.le_refl _) _).alloc (by simp) _)
    have cb1_0 : ((w.alloc (.cells #[.slice a n cap, .slice b m cb] 26)).alloc (.cells #[.slice none 0 0, .slice none 0 0] 26)).cell? ⟨w.heap.size, 0, none⟩ = some (.slice a n cap) := by go_simp
    have cb1_1 : ((w.alloc (.cells #[.slice a n cap, .slice b m cb] 26)).alloc (.cells #[.slice none 0 0, .slice none 0 0] 26)).cell? ⟨w.heap.size, 1, none⟩ = some (.slice b m cb) := by go_simp
    have zb1 : w.heap.size < ((w.alloc (.cells #[.slice a n cap, .slice b m cb] 26)).alloc (.cells #[.slice none 0 0, .slice none 0 0] 26)).heap.size := by simp <;> omega
    have cr_0 : ((w.alloc (.cells #[.slice a n cap, .slice b m cb] 26)).alloc (.cells #[.slice none 0 0, .slice none 0 0] 26)).cell? ⟨w.heap.size + 1, 0, none⟩ = some (.slice none 0 0) := by go_simp
    have cr_1 : ((w.alloc (.cells #[.slice a n cap, .slice b m cb] 26)).alloc (.cells #[.slice none 0 0, .slice none 0 0] 26)).cell? ⟨w.heap.size + 1, 1, none⟩ = some (.slice none 0 0) := by go_simp
    have zr : w.heap.size + 1 < ((w.alloc (.cells #[.slice a n cap, .slice b m cb] 26)).alloc (.cells #[.slice none 0 0, .slice none 0 0] 26)).heap.size := by simp
    have fr : Hid (∀ o, ((w.alloc (.cells #[.slice a n cap, .slice b m cb] 26)).alloc (.cells #[.slice none 0 0, .slice none 0 0] 26)).frozen? ⟨w.heap.size + 1, o, none⟩ = false) := fun o => by go_simp
    have hsV0 : w.heap.size + 1 < ((w.alloc (.cells #[.slice a n cap, .slice b m cb] 26)).alloc (.cells #[.slice none 0 0, .slice none 0 0] 26)).heap.size := by simp
    generalize ((w.alloc (.cells #[.slice a n cap, .slice b m cb] 26)).alloc (.cells #[.slice none 0 0, .slice none 0 0] 26)) = V0 at *
    refine (HK.out _ HB.out).mono ?_
    rintro e w1 ⟨rfl, hb⟩
    have hsw1 : V0.heap.size ≤ w1.heap.size := hb.size
    replace cb1_0 := cells_of hb zb1 cb1_0
    replace cb1_1 := cells_of hb zb1 cb1_1
    replace zb1 := Nat.lt_of_lt_of_le zb1 hb.size
    replace fr := Lib.hid (fun o => (hb.frozen (p := ⟨w.heap.size + 1, o, none⟩) zr).trans (fr.out o))
    replace cr_0 := cells_of hb zr cr_0
    replace cr_1 := cells_of hb zr cr_1
    replace zr := Nat.lt_of_lt_of_le zr hb.size
    replace HB := Lib.hid (below_step HB.out HB.out.size hb)
    clear hb
    have hrr := fr.out
    go_wp2
    refine bodyPost_ret (v := .tuple #[cntV none 0 0 none 0 0, .bool false]) ?_ rfl ?_
    · simp only [results, hres]
      go_simp
    · rw [(ca_bad HJ.out).1, (ca_bad HJ.out).2, HJ.out]
      refine ⟨none, 0, none, 0, rfl, RowsC.nil _ _, ?_⟩
      · exact (HB.out.setCell (p := ⟨w.heap.size + 1, 0, none⟩) (Nat.le_add_right _ 1) _).setCell (p := ⟨w.heap.size + 1, 1, none⟩) (Nat.le_add_right _ 1) _
  rw [hv] at HK
  cases hs : btw si 0 3
  · have HJ := Lib.hid (addOk_off (us := us) (ds := ds) (n := nn) hs)
    have HS : Hid (∀ W, Calls Try.prog 31 #[.int .i64 si] W fun e w' => e = .returned (.bool false) ∧ w' = W) := fun W => by
      rw [← hs]
      exact specSite_any si W
    clear hv hs
    go_enter Try.func15, Try.ntmps15
    go_wp2_with fail
    have HB : Hid (Below w.heap.size w ((w.alloc (.cells #[.slice a n cap, .slice b m cb] 26)).alloc (.cells #[.slice none 0 0, .slice none 0 0] 26))) := (((Below.refl _ _).alloc (Nat.le_refl _) _).alloc (by simp) _)
    have cb1_0 : ((w.alloc (.cells #[.slice a n cap, .slice b m cb] 26)).alloc (.cells #[.slice none 0 0, .slice none 0 0] 26)).cell? ⟨w.heap.size, 0, none⟩ = some (.slice a n cap) := by go_simp
    have cb1_1 : ((w.alloc (.cells #[.slice a n cap, .slice b m cb] 26)).alloc (.cells #[.slice none 0 0, .slice none 0 0] 26)).cell? ⟨w.heap.size, 1, none⟩ = some (.slice b m cb) := by go_simp
    have zb1 : w.heap.size < ((w.alloc (.cells #[.slice a n cap, .slice b m cb] 26)).alloc (.cells #[.slice none 0 0, .slice none 0 0] 26)).heap.size := by simp <;> omega
    have cr_0 : ((w.alloc (.cells #[.slice a n cap, .slice b m cb] 26)).alloc (.cells #[.slice none 0 0, .slice none 0 0] 26)).cell? ⟨w.heap.size + 1, 0, none⟩ = some (.slice none 0 0) := by go_simp
    have cr_1 : ((w.alloc (.cells #[.slice a n cap, .slice b m cb] 26)).alloc (.cells #[.slice none 0 0, .slice none 0 0] 26)).cell? ⟨w.heap.size + 1, 1, none⟩ = some (.slice none 0 0) := by go_simp
    have zr : w.heap.size + 1 < ((w.alloc (.cells #[.slice a n cap, .slice b m cb] 26)).alloc (.cells #[.slice none 0 0, .slice none 0 0] 26)).heap.size := by simp
    have fr : Hid (∀ o, ((w.alloc (.cells #[.slice a n cap, .slice b m cb] 26)).alloc (.cells #[.slice none 0 0, .slice none 0 0] 26)).frozen? ⟨w.heap.size + 1, o, none⟩ = false) := fun o => by go_simp
    have hsV0 : w.heap.size + 1 < ((w.alloc (.cells #[.slice a n cap, .slice b m cb] 26)).alloc (.cells #[.slice none 0 0, .slice none 0 0] 26)).heap.size := by simp
    generalize ((w.alloc (.cells #[.slice a n cap, .slice b m cb] 26)).alloc (.cells #[.slice none 0 0, .slice none 0 0] 26)) = V0 at *
    refine (HK.out _ HB.out).mono ?_
    rintro e w1 ⟨rfl, hb⟩
    have hsw1 : V0.heap.size ≤ w1.heap.size := hb.size
    replace cb1_0 := cells_of hb zb1 cb1_0
    replace cb1_1 := cells_of hb zb1 cb1_1
    replace zb1 := Nat.lt_of_lt_of_le zb1 hb.size
    replace fr := Lib.hid (fun o => (hb.frozen (p := ⟨w.heap.size + 1, o, none⟩) zr).trans (fr.out o))
    replace cr_0 := cells_of hb zr cr_0
    replace cr_1 := cells_of hb zr cr_1
    replace zr := Nat.lt_of_lt_of_le zr hb.size
    replace HB := Lib.hid (below_step HB.out HB.out.size hb)
    clear hb
    go_wp2_with fail
    refine (HS.out _).mono ?_
    rintro e wz ⟨rfl, hwz⟩
    subst wz
    have hrr := fr.out
    go_wp2
    refine bodyPost_ret (v := .tuple #[cntV none 0 0 none 0 0, .bool false]) ?_ rfl ?_
    · simp only [results, hres]
      go_simp
    · rw [(ca_bad HJ.out).1, (ca_bad HJ.out).2, HJ.out]
      refine ⟨none, 0, none, 0, rfl, RowsC.nil _ _, ?_⟩
      · exact (HB.out.setCell (p := ⟨w.heap.size + 1, 0, none⟩) (Nat.le_add_right _ 1) _).setCell (p := ⟨w.heap.size + 1, 1, none⟩) (Nat.le_add_right _ 1) _
  obtain ⟨q, hq, rfl⟩ : ∃ q : Nat, q < 4 ∧ si = (q : Int) := ⟨si.toNat, by have := btw_site hs; omega, by have := btw_site hs; omega⟩
  have HS : Hid (∀ W, Calls Try.prog 31 #[.int .i64 (q : Int)] W fun e w' => e = .returned (.bool true) ∧ w' = W) := fun W => by
    rw [← hs]
    exact specSite_any (q : Int) W
  cases hr : btw nn (-1000000000) 1000000000
  · have HJ := Lib.hid (addOk_far (us := us) (ds := ds) (si := (q : Int)) hr)
    have HN := Lib.hid (betweenN nn _ hr)
    clear hv hs hr
    go_enter Try.func15, Try.ntmps15
    go_wp2_with fail
    have HB : Hid (Below w.heap.size w ((w.alloc (.cells #[.slice a n cap, .slice b m cb] 26)).alloc (.cells #[.slice none 0 0, .slice none 0 0] 26))) := (((Below.refl _ _).alloc (Nat.le_refl _) _).alloc (by simp) _)
    have cb1_0 : ((w.alloc (.cells #[.slice a n cap, .slice b m cb] 26)).alloc (.cells #[.slice none 0 0, .slice none 0 0] 26)).cell? ⟨w.heap.size, 0, none⟩ = some (.slice a n cap) := by go_simp
    have cb1_1 : ((w.alloc (.cells #[.slice a n cap, .slice b m cb] 26)).alloc (.cells #[.slice none 0 0, .slice none 0 0] 26)).cell? ⟨w.heap.size, 1, none⟩ = some (.slice b m cb) := by go_simp
    have zb1 : w.heap.size < ((w.alloc (.cells #[.slice a n cap, .slice b m cb] 26)).alloc (.cells #[.slice none 0 0, .slice none 0 0] 26)).heap.size := by simp <;> omega
    have cr_0 : ((w.alloc (.cells #[.slice a n cap, .slice b m cb] 26)).alloc (.cells #[.slice none 0 0, .slice none 0 0] 26)).cell? ⟨w.heap.size + 1, 0, none⟩ = some (.slice none 0 0) := by go_simp
    have cr_1 : ((w.alloc (.cells #[.slice a n cap, .slice b m cb] 26)).alloc (.cells #[.slice none 0 0, .slice none 0 0] 26)).cell? ⟨w.heap.size + 1, 1, none⟩ = some (.slice none 0 0) := by go_simp
    have zr : w.heap.size + 1 < ((w.alloc (.cells #[.slice a n cap, .slice b m cb] 26)).alloc (.cells #[.slice none 0 0, .slice none 0 0] 26)).heap.size := by simp
    have fr : Hid (∀ o, ((w.alloc (.cells #[.slice a n cap, .slice b m cb] 26)).alloc (.cells #[.slice none 0 0, .slice none 0 0] 26)).frozen? ⟨w.heap.size + 1, o, none⟩ = false) := fun o => by go_simp
    have hsV0 : w.heap.size + 1 < ((w.alloc (.cells #[.slice a n cap, .slice b m cb] 26)).alloc (.cells #[.slice none 0 0, .slice none 0 0] 26)).heap.size := by simp
    generalize ((w.alloc (.cells #[.slice a n cap, .slice b m cb] 26)).alloc (.cells #[.slice none 0 0, .slice none 0 0] 26)) = V0 at *
    refine (HK.out _ HB.out).mono ?_
    rintro e w1 ⟨rfl, hb⟩
    have hsw1 : V0.heap.size ≤ w1.heap.size := hb.size
    replace cb1_0 := cells_of hb zb1 cb1_0
    replace cb1_1 := cells_of hb zb1 cb1_1
    replace zb1 := Nat.lt_of_lt_of_le zb1 hb.size
    replace fr := Lib.hid (fun o => (hb.frozen (p := ⟨w.heap.size + 1, o, none⟩) zr).trans (fr.out o))
    replace cr_0 := cells_of hb zr cr_0
    replace cr_1 := cells_of hb zr cr_1
    replace zr := Nat.lt_of_lt_of_le zr hb.size
    replace HB := Lib.hid (below_step HB.out HB.out.size hb)
    clear hb
    go_wp2_with fail
    refine (HS.out _).mono ?_
    rintro e wz ⟨rfl, hwz⟩
    subst wz
    go_wp2_with fail
    refine (HN.out _).mono ?_
    rintro e wz ⟨rfl, hwz⟩
    subst wz
    have hrr := fr.out
    go_wp2
    refine bodyPost_ret (v := .tuple #[cntV none 0 0 none 0 0, .bool false]) ?_ rfl ?_
    · simp only [results, hres]
      go_simp
    · rw [(ca_bad HJ.out).1, (ca_bad HJ.out).2, HJ.out]
      refine ⟨none, 0, none, 0, rfl, RowsC.nil _ _, ?_⟩
      · exact (HB.out.setCell (p := ⟨w.heap.size + 1, 0, none⟩) (Nat.le_add_right _ 1) _).setCell (p := ⟨w.heap.size + 1, 1, none⟩) (Nat.le_add_right _ 1) _
  have HJ := Lib.hid (addOk_at hv hs hr)
  have HN := Lib.hid (betweenN nn _ hr)
  have hrng := getD_rng hv q hq
  have hnr : -1000000000 ≤ nn ∧ nn ≤ 1000000000 := by
    unfold btw at hr
    simpa using hr
  have hlen : us.length = 4 ∧ ds.length = 4 := by obtain ⟨x0, x1, x2, x3, y0, y1, y2, y3, rfl, rfl, -⟩ := cntB_four hv; exact ⟨rfl, rfl⟩
  have hn4 : n = 4 := HL.out.symm.trans hlen.1
  have hm4 : m = 4 := HL'.out.symm.trans hlen.2
  subst hn4 hm4
  clear hv hs hr hlen
  go_enter Try.func15, Try.ntmps15
  go_wp2_with fail
  have HB : Hid (Below w.heap.size w ((w.alloc (.cells #[.slice a 4 cap, .slice b 4 cb] 26)).alloc (.cells #[.slice none 0 0, .slice none 0 0] 26))) := (((Below.refl _ _).alloc (Nat.le_refl _) _).alloc (by simp) _)
  have cb1_0 : ((w.alloc (.cells #[.slice a 4 cap, .slice b 4 cb] 26)).alloc (.cells #[.slice none 0 0, .slice none 0 0] 26)).cell? ⟨w.heap.size, 0, none⟩ = some (.slice a 4 cap) := by go_simp
  have cb1_1 : ((w.alloc (.cells #[.slice a 4 cap, .slice b 4 cb] 26)).alloc (.cells #[.slice none 0 0, .slice none 0 0] 26)).cell? ⟨w.heap.size, 1, none⟩ = some (.slice b 4 cb) := by go_simp
  have zb1 : w.heap.size < ((w.alloc (.cells #[.slice a 4 cap, .slice b 4 cb] 26)).alloc (.cells #[.slice none 0 0, .slice none 0 0] 26)).heap.size := by simp <;> omega
  have cr_0 : ((w.alloc (.cells #[.slice a 4 cap, .slice b 4 cb] 26)).alloc (.cells #[.slice none 0 0, .slice none 0 0] 26)).cell? ⟨w.heap.size + 1, 0, none⟩ = some (.slice none 0 0) := by go_simp
  have cr_1 : ((w.alloc (.cells #[.slice a 4 cap, .slice b 4 cb] 26)).alloc (.cells #[.slice none 0 0, .slice none 0 0] 26)).cell? ⟨w.heap.size + 1, 1, none⟩ = some (.slice none 0 0) := by go_simp
  have zr : w.heap.size + 1 < ((w.alloc (.cells #[.slice a 4 cap, .slice b 4 cb] 26)).alloc (.cells #[.slice none 0 0, .slice none 0 0] 26)).heap.size := by simp
  have fr : Hid (∀ o, ((w.alloc (.cells #[.slice a 4 cap, .slice b 4 cb] 26)).alloc (.cells #[.slice none 0 0, .slice none 0 0] 26)).frozen? ⟨w.heap.size + 1, o, none⟩ = false) := fun o => by go_simp
  have hsV0 : w.heap.size + 1 < ((w.alloc (.cells #[.slice a 4 cap, .slice b 4 cb] 26)).alloc (.cells #[.slice none 0 0, .slice none 0 0] 26)).heap.size := by simp
  generalize ((w.alloc (.cells #[.slice a 4 cap, .slice b 4 cb] 26)).alloc (.cells #[.slice none 0 0, .slice none 0 0] 26)) = V0 at *
  refine (HK.out _ HB.out).mono ?_
  rintro e w1 ⟨rfl, hb⟩
  have hsw1 : V0.heap.size ≤ w1.heap.size := hb.size
  replace cb1_0 := cells_of hb zb1 cb1_0
  replace cb1_1 := cells_of hb zb1 cb1_1
  replace zb1 := Nat.lt_of_lt_of_le zb1 hb.size
  replace fr := Lib.hid (fun o => (hb.frozen (p := ⟨w.heap.size + 1, o, none⟩) zr).trans (fr.out o))
  replace cr_0 := cells_of hb zr cr_0
  replace cr_1 := cells_of hb zr cr_1
  replace zr := Nat.lt_of_lt_of_le zr hb.size
  replace HB := Lib.hid (below_step HB.out HB.out.size hb)
  clear hb
  go_wp2_with fail
  refine (HS.out _).mono ?_
  rintro e wz ⟨rfl, hwz⟩
  subst wz
  go_wp2_with fail
  refine (HN.out _).mono ?_
  rintro e wz ⟨rfl, hwz⟩
  subst wz
  go_wp2_with fail
  refine wp_region_slotsP 10 [[], [(3, false)], [(24, true)], [(23, true), (25, true)], [], [(3, false)], [(28, true)], [(27, true), (29, true)], [(26, true), (30, true)], []] (fun a w' => Below w1.heap.size w1 w' ∧ PairB (fun x => x == 26 || x == 30) a w') (fun w w' => Below w.heap.size w w') (by kernel_rfl) (by kernel_rfl) (by rfl) ⟨(Below.refl _ _).drew, ?_⟩ ?_
  · intro x hx g hg
    simp only [Bool.or_eq_true, beq_iff_eq] at hx
    rcases hx with rfl | rfl
    · simp [Act.eval, undef, Value.ownBlock] at hg
    · simp [Act.eval, undef, Value.ownBlock] at hg
  refine slotP_fact EmptyN (lasts_emptyN _) (by intro x hx; cases hx; rfl) (fun _ _ h hr => below_step h h.size hr) (fun _ _ h => h.size) ?_ ?_
  · intro ρ w' ⟨p1, p2, p3⟩ hS hn
    go_simp
    exact ⟨(Below.refl _ _).alloc (Nat.le_refl _) _, _, rfl⟩
  apply slotP_eq (by intro x hx; cases hx; rfl) (fun _ _ h hr => below_step h h.size hr) (fun _ _ h => h.size)
  · intro ρ w' ⟨p1, p2, p3⟩ hS hn
    have d0 := cells_of hS zb1 cb1_0
    have d1 := cells_of hS zb1 cb1_1
    simp at hn
    go_simp
    exact ⟨Below.refl _ _, rfl⟩
  apply slotP_eq (by intro x hx; cases hx; rfl) (fun _ _ h hr => below_step h h.size hr) (fun _ _ h => h.size)
  · intro ρ w' ⟨p1, p2, p3⟩ hS hn
    have d0 := cells_of hS zb1 cb1_0
    have d1 := cells_of hS zb1 cb1_1
    simp at hn
    go_simp
    exact ⟨Below.refl _ _, rfl⟩
  refine slotP_new (d := 26) (RowNF w1.heap.size us) (lasts_rowNF _ _) rfl (by simp) (fun _ _ h hr => below_step h h.size hr) ?_ ?_
  · intro ρ w' _ hS hn
    simp at hn
    obtain ⟨⟨g0, e0⟩, e1⟩ := hn
    exact got_append_new (.tmp 23) (.tmp 25) rfl g0 e0 a 4 cap us HL.out (by omega) e1 ((HC.out.1.below HB.out).below hS) (by omega) w1.heap.size hS.size
  refine slotP_fact EmptyN (lasts_emptyN _) (by intro x hx; cases hx; rfl) (fun _ _ h hr => below_step h h.size hr) (fun _ _ h => h.size) ?_ ?_
  · intro ρ w' ⟨p1, p2, p3⟩ hS hn
    go_simp
    exact ⟨(Below.refl _ _).alloc (Nat.le_refl _) _, _, rfl⟩
  apply slotP_eq (by intro x hx; cases hx; rfl) (fun _ _ h hr => below_step h h.size hr) (fun _ _ h => h.size)
  · intro ρ w' ⟨p1, p2, p3⟩ hS hn
    have d0 := cells_of hS zb1 cb1_0
    have d1 := cells_of hS zb1 cb1_1
    simp at hn
    go_simp
    exact ⟨Below.refl _ _, rfl⟩
  apply slotP_eq (by intro x hx; cases hx; rfl) (fun _ _ h hr => below_step h h.size hr) (fun _ _ h => h.size)
  · intro ρ w' ⟨p1, p2, p3⟩ hS hn
    have d0 := cells_of hS zb1 cb1_0
    have d1 := cells_of hS zb1 cb1_1
    simp at hn
    go_simp
    exact ⟨Below.refl _ _, rfl⟩
  refine slotP_new (d := 30) (RowNF w1.heap.size ds) (lasts_rowNF _ _) rfl (by simp) (fun _ _ h hr => below_step h h.size hr) ?_ ?_
  · intro ρ w' _ hS hn
    simp at hn
    obtain ⟨⟨g0, e0⟩, e1⟩ := hn
    exact got_append_new (.tmp 27) (.tmp 29) rfl g0 e0 b 4 cb ds HL'.out (by omega) e1 ((HC.out.2.below HB.out).below hS) (by omega) w1.heap.size hS.size
  refine slotP_act (TwoF w1.heap.size us ds) (lasts_twoF _ _ _) (by intro x hx; cases hx; rfl) (fun _ _ h hr => below_step h h.size hr) (fun _ _ h => h.size) ?_ ?_
  · intro ρ w' ⟨p1, p2, p3⟩ hS hP hn
    simp at hn
    obtain ⟨⟨g1, c1, e1, l1, k1, o1⟩, g2, c2, e2, l2, k2, o2⟩ := hn
    have hne : g2 ≠ g1 := fun e => hP 26 rfl g1 (by rw [e1]; rfl) 30 rfl (by decide) (by rw [e2, e]; rfl)
    go_simp
    exact ⟨Below.refl _ _, g1, c1, g2, c2, rfl, l1, l2, k1, k2, hne, o1, o2, fun q hq e => hne (by rw [own_slice hq] at e; exact (own_slice e).symm), rfl, rfl⟩
  refine slotP_fact (Box2F w1.heap.size) (lasts_box2F _) (by intro x hx; cases hx; rfl) (fun _ _ h hr => below_step h h.size hr) (fun _ _ h => h.size) ?_ ?_
  · intro ρ w' ⟨p1, p2, p3⟩ hS hn
    have hz := hS.size
    go_simp
    exact ⟨(Below.refl _ _).alloc (Nat.le_refl _) _, _, rfl, hz, heap_alloc_new _ _⟩
  refine slotP_end ?_
  rintro vs w2 ⟨hS, -⟩ hF
  simp at hF
  obtain ⟨⟨bx, fb, hb1, hb2⟩, ⟨g1, c1, g2, c2, f31, l1, l2, k1, k2, hne, hrc⟩, ⟨_, _, f30, -⟩, f29, f28, ⟨_, f27⟩, ⟨_, _, f26, -⟩, f25, f24, _, f23⟩ := hF
  simp only [List.take_succ_cons, List.take_zero, List.drop_succ_cons, List.drop_zero, putAll, fb, f31, f30, f29, f28, f27, f26, f25, f24, f23]
  clear f23 f24 f25 f26 f27 f28 f29 f30 f31 fb
  simp only [Act.put, List.setIfInBounds_toArray, List.set_cons_succ, List.set_cons_zero]
  have hsw2 : w1.heap.size ≤ w2.heap.size := hS.size
  replace cb1_0 := cells_of hS zb1 cb1_0
  replace cb1_1 := cells_of hS zb1 cb1_1
  replace zb1 := Nat.lt_of_lt_of_le zb1 hS.size
  replace fr := Lib.hid (fun o => (hS.frozen (p := ⟨w.heap.size + 1, o, none⟩) zr).trans (fr.out o))
  replace cr_0 := cells_of hS zr cr_0
  replace cr_1 := cells_of hS zr cr_1
  replace zr := Nat.lt_of_lt_of_le zr hS.size
  replace HB := Lib.hid (below_step HB.out HB.out.size hS)
  clear hS
  rw [HL.out, HL'.out]
  have hbl : bx < w2.heap.size := (Array.getElem?_eq_some_iff.1 hb2).1
  obtain ⟨cx0, cx1, fx, -⟩ := cells_two hb2
  have hb3 : ((w2.setCell ⟨bx, 0, none⟩ (.slice (some ⟨g1, 0, none⟩) 4 c1)).setCell ⟨bx, 1, none⟩ (.slice (some ⟨g2, 0, none⟩) 4 c2)).heap[bx]? = some (.cells #[(.slice (some ⟨g1, 0, none⟩) 4 c1), (.slice (some ⟨g2, 0, none⟩) 4 c2)] 26 (0, 0)) := two_setCell1 (two_setCell0 hb2)
  rw [HL.out, HL'.out] at hrc
  have o1 : OwnI w2 g1 (g1 + 1) (some ⟨g1, 0, none⟩) us := by
    rcases rowI_at hrc.1 with e | ⟨g, hg, -, -, ho⟩
    · have := HL.out
      rw [e] at this
      cases this
    · have := own_slice hg
      subst this
      exact ho
  have o2 : OwnI w2 g2 (g2 + 1) (some ⟨g2, 0, none⟩) ds := by
    rcases rowI_at hrc.2.1 with e | ⟨g, hg, -, -, ho⟩
    · have := HL'.out
      rw [e] at this
      cases this
    · have := own_slice hg
      subst this
      exact ho
  have p1 : OwnI ((w2.setCell ⟨bx, 0, none⟩ (.slice (some ⟨g1, 0, none⟩) 4 c1)).setCell ⟨bx, 1, none⟩ (.slice (some ⟨g2, 0, none⟩) 4 c2)) g1 (g1 + 1) (some ⟨g1, 0, none⟩) us := own_off (own_off o1 (fun _ _ e => by cases e) hb2 0 _) (fun _ _ e => by cases e) (two_setCell0 hb2) 1 _
  have p2 : OwnI ((w2.setCell ⟨bx, 0, none⟩ (.slice (some ⟨g1, 0, none⟩) 4 c1)).setCell ⟨bx, 1, none⟩ (.slice (some ⟨g2, 0, none⟩) 4 c2)) g2 (g2 + 1) (some ⟨g2, 0, none⟩) ds := own_off (own_off o2 (fun _ _ e => by cases e) hb2 0 _) (fun _ _ e => by cases e) (two_setCell0 hb2) 1 _
  replace HB := Lib.hid ((HB.out.setCell (p := ⟨bx, 0, none⟩) (by show w.heap.size ≤ bx; omega) (.slice (some ⟨g1, 0, none⟩) 4 c1)).setCell (p := ⟨bx, 1, none⟩) (by show w.heap.size ≤ bx; omega) (.slice (some ⟨g2, 0, none⟩) 4 c2))
  replace cr_0 : ((w2.setCell ⟨bx, 0, none⟩ (.slice (some ⟨g1, 0, none⟩) 4 c1)).setCell ⟨bx, 1, none⟩ (.slice (some ⟨g2, 0, none⟩) 4 c2)).cell? ⟨w.heap.size + 1, 0, none⟩ = _ := (World.cell?_setCell_other _ ⟨bx, 1, none⟩ ⟨w.heap.size + 1, 0, none⟩ _ (fun e => by injection e; omega)).trans ((World.cell?_setCell_other _ ⟨bx, 0, none⟩ ⟨w.heap.size + 1, 0, none⟩ _ (fun e => by injection e; omega)).trans cr_0)
  replace cr_1 : ((w2.setCell ⟨bx, 0, none⟩ (.slice (some ⟨g1, 0, none⟩) 4 c1)).setCell ⟨bx, 1, none⟩ (.slice (some ⟨g2, 0, none⟩) 4 c2)).cell? ⟨w.heap.size + 1, 1, none⟩ = _ := (World.cell?_setCell_other _ ⟨bx, 1, none⟩ ⟨w.heap.size + 1, 1, none⟩ _ (fun e => by injection e; omega)).trans ((World.cell?_setCell_other _ ⟨bx, 0, none⟩ ⟨w.heap.size + 1, 1, none⟩ _ (fun e => by injection e; omega)).trans cr_1)
  replace fr : Hid (∀ o, ((w2.setCell ⟨bx, 0, none⟩ (.slice (some ⟨g1, 0, none⟩) 4 c1)).setCell ⟨bx, 1, none⟩ (.slice (some ⟨g2, 0, none⟩) 4 c2)).frozen? ⟨w.heap.size + 1, o, none⟩ = false) := fun o => by rw [World.frozen?_setCell, World.frozen?_setCell]; exact fr.out o
  have hz3 : w2.heap.size = ((w2.setCell ⟨bx, 0, none⟩ (.slice (some ⟨g1, 0, none⟩) 4 c1)).setCell ⟨bx, 1, none⟩ (.slice (some ⟨g2, 0, none⟩) 4 c2)).heap.size := by simp
  have hsz3 := Lib.hid hz3
  clear hz3
  obtain ⟨hX, hY⟩ := hrng
  have i1 : (0 : Int) ≤ (q : Int) := by omega
  have i2 : (q : Int) < 4 := by omega
  rcases p1 with e | ⟨gg, ge, u1, u2, u3, u4, u5⟩
  · have := HL.out
    rw [e] at this
    simp at this
  rcases p2 with e | ⟨gg', ge', v1, v2, v3, v4, v5⟩
  · have := HL'.out
    rw [e] at this
    simp at this
  injection ge with ge
  injection ge with ge
  subst ge
  injection ge' with ge'
  injection ge' with ge'
  subst ge'
  have HP1 : Hid (OwnI ((w2.setCell ⟨bx, 0, none⟩ (.slice (some ⟨g1, 0, none⟩) 4 c1)).setCell ⟨bx, 1, none⟩ (.slice (some ⟨g2, 0, none⟩) 4 c2)) g1 (g1 + 1) (some ⟨g1, 0, none⟩) us) := .inr ⟨g1, rfl, u1, u2, u3, u4, u5⟩
  have HP2 : Hid (OwnI ((w2.setCell ⟨bx, 0, none⟩ (.slice (some ⟨g1, 0, none⟩) 4 c1)).setCell ⟨bx, 1, none⟩ (.slice (some ⟨g2, 0, none⟩) 4 c2)) g2 (g2 + 1) (some ⟨g2, 0, none⟩) ds) := .inr ⟨g2, rfl, v1, v2, v3, v4, v5⟩
  have a1 := u4 q (by rw [HL.out]; exact hq)
  have a2 := v4 q (by rw [HL'.out]; exact hq)
  obtain ⟨cy0, cy1, fy, -⟩ := cells_two hb3
  have hbg1 : ¬ bx = g1 := fun e => by
    subst e
    have h0 := u4 0 (by rw [HL.out]; omega)
    rw [cy0] at h0
    cases h0
  have hbg2 : ¬ bx = g2 := fun e => by
    subst e
    have h0 := v4 0 (by rw [HL'.out]; omega)
    rw [cy0] at h0
    cases h0
  have HRC := Lib.hid ((hrc.kept (grown_set w2 bx 0 (.slice (some ⟨g1, 0, none⟩) 4 c1)) (fun e => hbg1 (own_slice e)) (fun e => hbg2 (own_slice e))).kept (grown_set _ bx 1 (.slice (some ⟨g2, 0, none⟩) 4 c2)) (fun e => hbg1 (own_slice e)) (fun e => hbg2 (own_slice e)))
  clear u1 u2 u4 v1 v2 v4 hb3 hb2 o1 o2 hrc cb1_0 cb1_1 zb1 zr
  by_cases hsg : 0 ≤ nn
  · have HU : Hid (addU us (q : Int) nn = us.set q (us.getD q 0 + nn)) := by
      show addU us (q : Int) nn = _
      unfold addU
      rw [if_pos hsg]
      simp
    have HD : Hid (addD ds (q : Int) nn = ds) := by
      show addD ds (q : Int) nn = _
      unfold addD
      rw [if_pos hsg]
    have hw : IntKind.i64.wrap (us.getD q 0 + nn) = us.getD q 0 + nn := IntWalk.i64_in _ ⟨by omega, by omega⟩
    have HO1 := Lib.hid (HRC.out.setx q (us.getD q 0 + nn))
    clear HRC
    clear HP1 HP2 hX hY
    generalize hXX : us.getD q 0 = XX at *
    have HXX := Lib.hid hXX
    clear hXX
    go_wp2_with fail
    clear cx0 cx1 fx hbl
    generalize ((w2.setCell ⟨bx, 0, none⟩ (.slice (some ⟨g1, 0, none⟩) 4 c1)).setCell ⟨bx, 1, none⟩ (.slice (some ⟨g2, 0, none⟩) 4 c2)) = W3 at *
    go_region
    replace HB := Lib.hid ((HB.out.setCell (p := ⟨g1, q, none⟩) (by show w.heap.size ≤ g1; omega) (.int .i64 (XX + nn))).drew)
    replace cr_0 : (W3.setCell ⟨g1, q, none⟩ (.int .i64 (XX + nn))).drew.cell? ⟨w.heap.size + 1, 0, none⟩ = _ := (World.cell?_setCell_other W3 ⟨g1, q, none⟩ ⟨w.heap.size + 1, 0, none⟩ (.int .i64 (XX + nn)) (fun e => by injection e; omega)).trans cr_0
    replace cr_1 : (W3.setCell ⟨g1, q, none⟩ (.int .i64 (XX + nn))).drew.cell? ⟨w.heap.size + 1, 1, none⟩ = _ := (World.cell?_setCell_other W3 ⟨g1, q, none⟩ ⟨w.heap.size + 1, 1, none⟩ (.int .i64 (XX + nn)) (fun e => by injection e; omega)).trans cr_1
    replace cy0 : (W3.setCell ⟨g1, q, none⟩ (.int .i64 (XX + nn))).drew.cell? ⟨bx, 0, none⟩ = _ := (World.cell?_setCell_other W3 ⟨g1, q, none⟩ ⟨bx, 0, none⟩ (.int .i64 (XX + nn)) (fun e => by injection e; omega)).trans cy0
    replace cy1 : (W3.setCell ⟨g1, q, none⟩ (.int .i64 (XX + nn))).drew.cell? ⟨bx, 1, none⟩ = _ := (World.cell?_setCell_other W3 ⟨g1, q, none⟩ ⟨bx, 1, none⟩ (.int .i64 (XX + nn)) (fun e => by injection e; omega)).trans cy1
    replace fr : Hid (∀ o, (W3.setCell ⟨g1, q, none⟩ (.int .i64 (XX + nn))).drew.frozen? ⟨w.heap.size + 1, o, none⟩ = false) := fun o => (World.frozen?_setCell W3 _ _ _).trans (fr.out o)
    have HOC : Hid (RowsC (W3.setCell ⟨g1, q, none⟩ (.int .i64 (XX + nn))).drew w1.heap.size (some ⟨g1, 0, none⟩) 4 c1 (some ⟨g2, 0, none⟩) 4 c2 (us.set q (XX + nn)) ds) := HO1.out.below (Below.refl _ _).drew
    have hsz5 : w2.heap.size = (W3.setCell ⟨g1, q, none⟩ (.int .i64 (XX + nn))).drew.heap.size := hsz3.out.trans (by simp [World.drew])
    have HSZ5 := Lib.hid hsz5
    clear hsz5 hsz3 u3 u5 v3 v5 HO1 HXX hw a1 a2 fy
    generalize (W3.setCell ⟨g1, q, none⟩ (.int .i64 (XX + nn))).drew = W4 at *
    have zr : w.heap.size + 1 < W4.heap.size := by have := HSZ5.out; omega
    go_wp2_with fail
    refine (specCounterOk_any _ 4 c1 _ 4 c2 (us.set q (XX + nn)) ds _ (by rw [List.length_set]; exact HL.out) (by unfold maxLen; omega) HL'.out (by unfold maxLen; omega) (HOC.out.own (by have := HSZ5.out; omega)).isC).mono ?_
    rintro e w5 ⟨rfl, hb⟩
    have hsw5 : W4.heap.size ≤ w5.heap.size := hb.size
    replace fr := Lib.hid (fun o => (hb.frozen (p := ⟨w.heap.size + 1, o, none⟩) zr).trans (fr.out o))
    replace cr_0 := cells_of hb zr cr_0
    replace cr_1 := cells_of hb zr cr_1
    replace zr := Nat.lt_of_lt_of_le zr hb.size
    replace HOC := Lib.hid (HOC.out.below hb)
    replace HB := Lib.hid (below_step HB.out HB.out.size hb)
    have hzbx : bx < W4.heap.size := World.block_lt_of_cell? W4 _ cy0
    replace cy0 := cells_of hb hzbx cy0
    replace cy1 := cells_of hb hzbx cy1
    clear hb
    have hlw : w.heap.size + 1 < w1.heap.size := by omega
    have hsz6 : w2.heap.size ≤ w5.heap.size := by have := HSZ5.out; omega
    clear HSZ5 hzbx
    rw [HU.out, HD.out] at HJ
    rw [← HJ.out]
    have hrr := fr.out
    cases hz : addOk us ds (q : Int) nn
    · replace HJ := Lib.hid hz
      go_wp2
      refine bodyPost_ret (v := .tuple #[cntV none 0 0 none 0 0, .bool false]) ?_ rfl ?_
      · simp only [results, hres]
        go_simp
      · rw [(ca_bad HJ.out).1, (ca_bad HJ.out).2, HJ.out]
        refine ⟨none, 0, none, 0, rfl, RowsC.nil _ _, ?_⟩
        · exact (HB.out.setCell (p := ⟨w.heap.size + 1, 0, none⟩) (Nat.le_add_right _ 1) _).setCell (p := ⟨w.heap.size + 1, 1, none⟩) (Nat.le_add_right _ 1) _
    · have HG := Lib.hid (ca_good hz)
      replace HJ := Lib.hid hz
      go_wp2
      refine bodyPost_ret (v := .tuple #[cntV (some ⟨g1, 0, none⟩) 4 c1 (some ⟨g2, 0, none⟩) 4 c2, .bool true]) ?_ rfl ?_
      · simp only [results, hres]
        go_simp
      · rw [HG.out.1, HG.out.2, HJ.out, HU.out, HD.out]
        refine ⟨some ⟨g1, 0, none⟩, c1, some ⟨g2, 0, none⟩, c2, by rw [List.length_set, HL.out, HL'.out], ?_, ?_⟩
        · rw [List.length_set, HL.out, HL'.out]
          exact ((HOC.out.aside (p := ⟨w.heap.size + 1, 0, none⟩) hlw _).aside (p := ⟨w.heap.size + 1, 1, none⟩) hlw _).mono (by omega)
        · exact (HB.out.setCell (p := ⟨w.heap.size + 1, 0, none⟩) (Nat.le_add_right _ 1) _).setCell (p := ⟨w.heap.size + 1, 1, none⟩) (Nat.le_add_right _ 1) _
  · have HU : Hid (addU us (q : Int) nn = us) := by
      show addU us (q : Int) nn = _
      unfold addU
      rw [if_neg hsg]
    have HD : Hid (addD ds (q : Int) nn = ds.set q (ds.getD q 0 - nn)) := by
      show addD ds (q : Int) nn = _
      unfold addD
      rw [if_neg hsg]
      simp
    have hw : IntKind.i64.wrap (ds.getD q 0 - nn) = ds.getD q 0 - nn := IntWalk.i64_in _ ⟨by omega, by omega⟩
    have HO1 := Lib.hid (HRC.out.sety q (ds.getD q 0 - nn))
    clear HRC
    clear HP1 HP2 hX hY
    generalize hXX : ds.getD q 0 = XX at *
    have HXX := Lib.hid hXX
    clear hXX
    go_wp2_with fail
    clear cx0 cx1 fx hbl
    generalize ((w2.setCell ⟨bx, 0, none⟩ (.slice (some ⟨g1, 0, none⟩) 4 c1)).setCell ⟨bx, 1, none⟩ (.slice (some ⟨g2, 0, none⟩) 4 c2)) = W3 at *
    go_region
    replace HB := Lib.hid ((HB.out.setCell (p := ⟨g2, q, none⟩) (by show w.heap.size ≤ g2; omega) (.int .i64 (XX - nn))).drew)
    replace cr_0 : (W3.setCell ⟨g2, q, none⟩ (.int .i64 (XX - nn))).drew.cell? ⟨w.heap.size + 1, 0, none⟩ = _ := (World.cell?_setCell_other W3 ⟨g2, q, none⟩ ⟨w.heap.size + 1, 0, none⟩ (.int .i64 (XX - nn)) (fun e => by injection e; omega)).trans cr_0
    replace cr_1 : (W3.setCell ⟨g2, q, none⟩ (.int .i64 (XX - nn))).drew.cell? ⟨w.heap.size + 1, 1, none⟩ = _ := (World.cell?_setCell_other W3 ⟨g2, q, none⟩ ⟨w.heap.size + 1, 1, none⟩ (.int .i64 (XX - nn)) (fun e => by injection e; omega)).trans cr_1
    replace cy0 : (W3.setCell ⟨g2, q, none⟩ (.int .i64 (XX - nn))).drew.cell? ⟨bx, 0, none⟩ = _ := (World.cell?_setCell_other W3 ⟨g2, q, none⟩ ⟨bx, 0, none⟩ (.int .i64 (XX - nn)) (fun e => by injection e; omega)).trans cy0
    replace cy1 : (W3.setCell ⟨g2, q, none⟩ (.int .i64 (XX - nn))).drew.cell? ⟨bx, 1, none⟩ = _ := (World.cell?_setCell_other W3 ⟨g2, q, none⟩ ⟨bx, 1, none⟩ (.int .i64 (XX - nn)) (fun e => by injection e; omega)).trans cy1
    replace fr : Hid (∀ o, (W3.setCell ⟨g2, q, none⟩ (.int .i64 (XX - nn))).drew.frozen? ⟨w.heap.size + 1, o, none⟩ = false) := fun o => (World.frozen?_setCell W3 _ _ _).trans (fr.out o)
    have HOC : Hid (RowsC (W3.setCell ⟨g2, q, none⟩ (.int .i64 (XX - nn))).drew w1.heap.size (some ⟨g1, 0, none⟩) 4 c1 (some ⟨g2, 0, none⟩) 4 c2 us (ds.set q (XX - nn))) := HO1.out.below (Below.refl _ _).drew
    have hsz5 : w2.heap.size = (W3.setCell ⟨g2, q, none⟩ (.int .i64 (XX - nn))).drew.heap.size := hsz3.out.trans (by simp [World.drew])
    have HSZ5 := Lib.hid hsz5
    clear hsz5 hsz3 u3 u5 v3 v5 HO1 HXX hw a1 a2 fy
    generalize (W3.setCell ⟨g2, q, none⟩ (.int .i64 (XX - nn))).drew = W4 at *
    have zr : w.heap.size + 1 < W4.heap.size := by have := HSZ5.out; omega
    go_wp2_with fail
    refine (specCounterOk_any _ 4 c1 _ 4 c2 us (ds.set q (XX - nn)) _ HL.out (by unfold maxLen; omega) (by rw [List.length_set]; exact HL'.out) (by unfold maxLen; omega) (HOC.out.own (by have := HSZ5.out; omega)).isC).mono ?_
    rintro e w5 ⟨rfl, hb⟩
    have hsw5 : W4.heap.size ≤ w5.heap.size := hb.size
    replace fr := Lib.hid (fun o => (hb.frozen (p := ⟨w.heap.size + 1, o, none⟩) zr).trans (fr.out o))
    replace cr_0 := cells_of hb zr cr_0
    replace cr_1 := cells_of hb zr cr_1
    replace zr := Nat.lt_of_lt_of_le zr hb.size
    replace HOC := Lib.hid (HOC.out.below hb)
    replace HB := Lib.hid (below_step HB.out HB.out.size hb)
    have hzbx : bx < W4.heap.size := World.block_lt_of_cell? W4 _ cy0
    replace cy0 := cells_of hb hzbx cy0
    replace cy1 := cells_of hb hzbx cy1
    clear hb
    have hlw : w.heap.size + 1 < w1.heap.size := by omega
    have hsz6 : w2.heap.size ≤ w5.heap.size := by have := HSZ5.out; omega
    clear HSZ5 hzbx
    rw [HU.out, HD.out] at HJ
    rw [← HJ.out]
    have hrr := fr.out
    cases hz : addOk us ds (q : Int) nn
    · replace HJ := Lib.hid hz
      go_wp2
      refine bodyPost_ret (v := .tuple #[cntV none 0 0 none 0 0, .bool false]) ?_ rfl ?_
      · simp only [results, hres]
        go_simp
      · rw [(ca_bad HJ.out).1, (ca_bad HJ.out).2, HJ.out]
        refine ⟨none, 0, none, 0, rfl, RowsC.nil _ _, ?_⟩
        · exact (HB.out.setCell (p := ⟨w.heap.size + 1, 0, none⟩) (Nat.le_add_right _ 1) _).setCell (p := ⟨w.heap.size + 1, 1, none⟩) (Nat.le_add_right _ 1) _
    · have HG := Lib.hid (ca_good hz)
      replace HJ := Lib.hid hz
      go_wp2
      refine bodyPost_ret (v := .tuple #[cntV (some ⟨g1, 0, none⟩) 4 c1 (some ⟨g2, 0, none⟩) 4 c2, .bool true]) ?_ rfl ?_
      · simp only [results, hres]
        go_simp
      · rw [HG.out.1, HG.out.2, HJ.out, HU.out, HD.out]
        refine ⟨some ⟨g1, 0, none⟩, c1, some ⟨g2, 0, none⟩, c2, by rw [List.length_set, HL.out, HL'.out], ?_, ?_⟩
        · rw [List.length_set, HL.out, HL'.out]
          exact ((HOC.out.aside (p := ⟨w.heap.size + 1, 0, none⟩) hlw _).aside (p := ⟨w.heap.size + 1, 1, none⟩) hlw _).mono (by omega)
        · exact (HB.out.setCell (p := ⟨w.heap.size + 1, 0, none⟩) (Nat.le_add_right _ 1) _).setCell (p := ⟨w.heap.size + 1, 1, none⟩) (Nat.le_add_right _ 1) _

theorem specCounterAdd_any (a : Option Addr) (n cap : Nat) (b : Option Addr) (m cb : Nat) (us ds : List Int) (si nn : Int) (w : World) (hl : us.length = n) (hn : n ≤ maxLen) (hl' : ds.length = m) (hm : m ≤ maxLen) (hh : IsC w a b us ds) :
    Calls Try.prog 15 #[cntV a n cap b m cb, .int .i64 si, .int .i64 nn] w fun e w' => ∃ g cp g' cp', e = .returned (.tuple #[cntV g (caU us ds si nn).length cp g' (caD us ds si nn).length cp', .bool (addOk us ds si nn)]) ∧ OwnC w' w.heap.size w'.heap.size g g' (caU us ds si nn) (caD us ds si nn) ∧ Below w.heap.size w w' :=
  (specCounterAdd_row a n cap b m cb us ds si nn w hl hn hl' hm hh).mono fun _ _ ⟨g, cp, g', cp', he, hr, hb⟩ => ⟨g, cp, g', cp', he, hr.own hb.size, hb⟩

end Go.Proofs.Ytaopkoamjfmhhaa

/- The specification's VecTick. -/
namespace Go.Proofs.Ytaopkoamjfmhhaa
open Go.ChangeShapes Go.WideShapes Go.ChangeAt Go.RowKit Go.Joins
attribute [local go_sem ↓] Go.wp_at_zero Go.wp_at_succ

theorem add_at (b o j : Nat) : ((⟨b, o, none⟩ : Addr).add j) = ⟨b, o + j, none⟩ := by
  unfold Addr.add
  split
  · rename_i h
    rw [h]
    rfl
  · rfl

theorem isIs_row {w : World} {b o : Nat} {ys : List Int} (hh : ∀ i, i < ys.length → w.cell? ⟨b, o + i, none⟩ = some (.int .i64 (ys.getD i 0))) : ∀ j u, (ys.map intV)[j]? = some u → w.cell? ((⟨b, o, none⟩ : Addr).add j) = some u := by
  intro j u hu
  have hj : j < ys.length := by
    have := (List.getElem?_eq_some_iff.1 hu).1
    simpa using this
  rw [add_at, hh j hj, ← hu]
  simp [intV, List.getD, hj]

theorem IsIs.all {w w' : World} {b o : Nat} {zs : List Int} (h : IsIs w (some ⟨b, o, none⟩) zs) (hb : Below w.heap.size w w') : ∀ i, i < zs.length → w'.cell? ⟨b, o + i, none⟩ = some (.int .i64 (zs.getD i 0)) := by
  intro i hi
  obtain ⟨_, _, he, -, e⟩ := h.at hb hi
  injection he with he
  injection he with he1 he2
  subst he1 he2
  exact e

/-- A row of one's own in which one number is set. -/
theorem RowI.set {w : World} {base g n cap : Nat} {zs : List Int} (h : RowI w base (.slice (some ⟨g, 0, none⟩) n cap) zs) (hl : zs.length = n) (q : Nat) (z : Int) : OwnI (w.setCell ⟨g, q, none⟩ (.int .i64 z)) base (w.setCell ⟨g, q, none⟩ (.int .i64 z)).heap.size (some ⟨g, 0, none⟩) (zs.set q z) := by
  obtain ⟨a', c', e, ho⟩ := h.form
  injection e with e1 e2 e3
  subst e1
  rcases ho with h0 | ⟨b, hb, h1, h2, h3, h4, h5⟩
  · subst h0
    exact .inl (by simp)
  · injection hb with hb
    injection hb with hb
    subst hb
    refine .inr ⟨g, rfl, h1, by simpa using h2, by simpa using h3, fun i hi => ?_, fun o => by rw [World.frozen?_setCell]; exact h5 o⟩
    rw [List.length_set] at hi
    by_cases hq : i = q
    · subst hq
      rw [World.cell?_setCell_same _ _ _ (h4 i hi)]
      simp [List.getD, hi]
    · rw [World.cell?_setCell_other _ _ _ _ (by intro e; injection e with e1 e2; exact hq e2.symm), h4 i hi]
      simp [List.getD, Ne.symm hq]

end Go.Proofs.Ytaopkoamjfmhhaa

/- The cursor of the drawn inputs: its place in memory, and the contracts of l01Open, pick, once. -/
namespace Go.Proofs.Ytaopkoamjfmhhaa
open Go.ChangeShapes Go.WideShapes Go.ChangeAt Go.RowKit Go.Joins

/-- Nothing that was there has turned, but for the one block B. -/
structure Hole (B : Nat) (w w' : World) : Prop where
  os : w'.os = w.os
  tape : w'.tape = w.tape
  output : w'.output = w.output
  size : w.heap.size ≤ w'.heap.size
  block : ∀ k, k < w.heap.size → k ≠ B → w'.heap[k]? = w.heap[k]?

theorem Hole.refl (B : Nat) (w : World) : Hole B w w := ⟨rfl, rfl, rfl, Nat.le_refl _, fun _ _ _ => rfl⟩

theorem Hole.trans {B : Nat} {a b c : World} (h : Hole B a b) (k : Hole B b c) : Hole B a c :=
  ⟨k.os.trans h.os, k.tape.trans h.tape, k.output.trans h.output, Nat.le_trans h.size k.size, fun i hi hn => (k.block i (Nat.lt_of_lt_of_le hi h.size) hn).trans (h.block i hi hn)⟩

theorem Hole.of_below {B : Nat} {w w' : World} (h : Below w.heap.size w w') : Hole B w w' := ⟨h.os, h.tape, h.output, h.size, fun k hk _ => h.block k hk⟩

theorem Hole.drew {B : Nat} {w w' : World} (h : Hole B w w') : Hole B w w'.drew := ⟨h.os, h.tape, h.output, h.size, h.block⟩

theorem Hole.drewN {B : Nat} {w w' : World} (h : Hole B w w') (n : Nat) : Hole B w (w'.drewN n) := h.trans (Hole.of_below (below_drewN (Below.refl _ _) n))

theorem Hole.alloc {B : Nat} {w w' : World} (h : Hole B w w') (o : Obj) : Hole B w (w'.alloc o) := h.trans (Hole.of_below ((Below.refl _ _).alloc (Nat.le_refl _) o))

theorem Hole.set {B : Nat} {w w' : World} (h : Hole B w w') (o : Nat) (v : Value) : Hole B w (w'.setCell ⟨B, o, none⟩ v) :=
  h.trans ⟨rfl, rfl, rfl, by simp [World.setCell], fun k _ hn => Below.heap_setCell _ _ _ _ hn⟩

theorem Hole.cell {B : Nat} {w w' : World} (h : Hole B w w') {b o : Nat} (hb : b < w.heap.size) (hn : b ≠ B) : w'.cell? ⟨b, o, none⟩ = w.cell? ⟨b, o, none⟩ := World.cell?_of_block (w := w) (h.block b hb hn)

theorem Hole.frozen {B : Nat} {w w' : World} (h : Hole B w w') {b o : Nat} (hb : b < w.heap.size) (hn : b ≠ B) : w'.frozen? ⟨b, o, none⟩ = w.frozen? ⟨b, o, none⟩ := World.frozen?_of_block (w := w) (h.block b hb hn)

theorem Hole.below {B c : Nat} {w0 w w' : World} (h0 : Below c w0 w) (h : Hole B w w') (hB : c ≤ B) (hc : c ≤ w.heap.size) : Below c w0 w' :=
  h0.trans ⟨h.os, h.tape, h.output, h.size, fun k hk => h.block k (by omega) (by omega)⟩

structure CurAt (w : World) (B : Nat) (a : Option Addr) (len cap : Nat) (at_ seed : Int) : Prop where
  lt : B < w.heap.size
  c0 : w.cell? ⟨B, 0, none⟩ = some (.slice a len cap)
  c1 : w.cell? ⟨B, 1, none⟩ = some (.int .i64 at_)
  c2 : w.cell? ⟨B, 2, none⟩ = some (.int .i64 seed)
  fz : ∀ o, w.frozen? ⟨B, o, none⟩ = false
  p0 : 0 ≤ at_
  s0 : 0 ≤ seed
  s1 : seed ≤ 65520

/-- The code's bytes, in a block that is not the cursor's. -/
def CodeAt (w : World) (B : Nat) (a : Option Addr) (len : Nat) : Prop :=
  len = 0 ∨ ∃ b o, a = some ⟨b, o, none⟩ ∧ b < B ∧ ∀ i, i < len → ∃ z : Int, 0 ≤ z ∧ z ≤ 255 ∧ w.cell? ⟨b, o + i, none⟩ = some (.int .u8 z)

theorem CodeAt.hole {w w' : World} {B : Nat} {a : Option Addr} {len : Nat} (h : CodeAt w B a len) (hB : B < w.heap.size) (hh : Hole B w w') : CodeAt w' B a len := by
  rcases h with h | ⟨b, o, ha, hb, hz⟩
  · exact .inl h
  · refine .inr ⟨b, o, ha, hb, fun i hi => ?_⟩
    obtain ⟨z, z0, z1, hc⟩ := hz i hi
    exact ⟨z, z0, z1, (hh.cell (by omega) (by omega)).trans hc⟩

/-- The cursor stands at most N bytes on. -/
def Cur (w : World) (B : Nat) (a : Option Addr) (len cap : Nat) (N : Int) : Prop := ∃ at_ seed, CurAt w B a len cap at_ seed ∧ at_ ≤ N ∧ CodeAt w B a len ∧ len ≤ 1048576

theorem Cur.below {w w' : World} {B : Nat} {a : Option Addr} {len cap : Nat} {N : Int} (h : Cur w B a len cap N) (hb : Below w.heap.size w w') : Cur w' B a len cap N := by
  obtain ⟨at_, seed, hc, hN, hk, hl⟩ := h
  refine ⟨at_, seed, ⟨Nat.lt_of_lt_of_le hc.lt hb.size, held_cell hb hc.c0 hc.lt, held_cell hb hc.c1 hc.lt, held_cell hb hc.c2 hc.lt, fun o => (hb.frozen (p := ⟨B, o, none⟩) hc.lt).trans (hc.fz o), hc.p0, hc.s0, hc.s1⟩, hN, hk.hole hc.lt (Hole.of_below hb), hl⟩

theorem Cur.more {w : World} {B : Nat} {a : Option Addr} {len cap : Nat} {N M : Int} (h : Cur w B a len cap N) (hM : N ≤ M) : Cur w B a len cap M := by
  obtain ⟨at_, seed, hc, hN, hk⟩ := h
  exact ⟨at_, seed, hc, Int.le_trans hN hM, hk⟩

theorem Cur.lt {w : World} {B : Nat} {a : Option Addr} {len cap : Nat} {N : Int} (h : Cur w B a len cap N) : B < w.heap.size := by
  obtain ⟨_, _, hc, _⟩ := h
  exact hc.lt

theorem mod_lt {x n : Int} (hn : 2 ≤ n) : 0 ≤ x % n ∧ x % n < n := ⟨Int.emod_nonneg _ (by omega), Int.emod_lt_of_pos _ (by omega)⟩

set_option maxHeartbeats 1000000 in
theorem pick_in (B : Nat) (b o len cap : Nat) (at_ n z : Int) (w : World) (c0 : w.cell? ⟨B, 0, none⟩ = some (.slice (some ⟨b, o, none⟩) len cap)) (c1 : w.cell? ⟨B, 1, none⟩ = some (.int .i64 at_)) (fz : ∀ o, w.frozen? ⟨B, o, none⟩ = false)
    (hz : w.cell? ⟨b, o + at_.toNat, none⟩ = some (.int .u8 z)) (z0 : 0 ≤ z) (z1 : z ≤ 255) (p0 : 0 ≤ at_) (p1 : at_ < len) (hl : len ≤ 1048576) (hn : 2 ≤ n) (hn' : n ≤ 100000) :
    Calls Try.prog 26 #[.pointer (some ⟨B, 0, none⟩), .int .i64 n] w fun e w' => e = .returned (.int .i64 (z % n)) ∧ ∃ m, w' = (w.drewN m).setCell ⟨B, 1, none⟩ (.int .i64 (at_ + 1)) := by
  go_enter Try.func26, Try.ntmps26
  go_wp2_with fail
  go_quiet (fail)
  go_wp2_with fail
  go_quiet (fail)
  go_wp2
  go_ret
  exact ⟨rfl, _, rfl⟩

set_option maxHeartbeats 1000000 in
theorem pick_out (B : Nat) (b o len cap : Nat) (at_ seed n z : Int) (w : World) (hne : b ≠ B) (c0 : w.cell? ⟨B, 0, none⟩ = some (.slice (some ⟨b, o, none⟩) len cap)) (c1 : w.cell? ⟨B, 1, none⟩ = some (.int .i64 at_)) (c2 : w.cell? ⟨B, 2, none⟩ = some (.int .i64 seed)) (fz : ∀ o, w.frozen? ⟨B, o, none⟩ = false)
    (hz : w.cell? ⟨b, o + (at_ % len).toNat, none⟩ = some (.int .u8 z)) (z0 : 0 ≤ z) (z1 : z ≤ 255) (p0 : 0 ≤ at_) (p2 : at_ ≤ 1000000) (p1 : (len : Int) ≤ at_) (s0 : 0 ≤ seed) (s1 : seed ≤ 65520) (hl0 : (0 : Int) < len) (hl : len ≤ 1048576) (hn : 2 ≤ n) (hn' : n ≤ 100000) :
    Calls Try.prog 26 #[.pointer (some ⟨B, 0, none⟩), .int .i64 n] w fun e w' => e = .returned (.int .i64 (((seed * 1103 + 12345) % 65521 / 7 + z) % n)) ∧ ∃ m m', w' = ((((w.drewN m).setCell ⟨B, 2, none⟩ (.int .i64 ((seed * 1103 + 12345) % 65521))).drewN m').setCell ⟨B, 1, none⟩ (.int .i64 (at_ + 1))) := by
  have i1 : (0 : Int) ≤ at_ % len := Int.emod_nonneg _ (by omega)
  have i2 : at_ % len < (len : Int) := Int.emod_lt_of_pos _ hl0
  go_enter Try.func26, Try.ntmps26
  go_wp2_with fail
  go_quiet (fail)
  go_wp2_with fail
  go_quiet (fail)
  go_wp2
  go_ret
  exact ⟨rfl, _, _, rfl⟩

set_option maxHeartbeats 1000000 in
theorem pick_nil (B : Nat) (a : Option Addr) (cap : Nat) (at_ seed n : Int) (w : World) (c0 : w.cell? ⟨B, 0, none⟩ = some (.slice a 0 cap)) (c1 : w.cell? ⟨B, 1, none⟩ = some (.int .i64 at_)) (c2 : w.cell? ⟨B, 2, none⟩ = some (.int .i64 seed)) (fz : ∀ o, w.frozen? ⟨B, o, none⟩ = false)
    (p0 : 0 ≤ at_) (p2 : at_ ≤ 1000000) (s0 : 0 ≤ seed) (s1 : seed ≤ 65520) (hn : 2 ≤ n) (hn' : n ≤ 100000) :
    Calls Try.prog 26 #[.pointer (some ⟨B, 0, none⟩), .int .i64 n] w fun e w' => e = .returned (.int .i64 (0 % n)) ∧ ∃ m m', w' = ((((w.drewN m).setCell ⟨B, 2, none⟩ (.int .i64 ((seed * 1103 + 12345) % 65521))).drewN m').setCell ⟨B, 1, none⟩ (.int .i64 (at_ + 1))) := by
  go_enter Try.func26, Try.ntmps26
  go_wp2_with fail
  go_quiet (fail)
  go_wp2
  go_ret
  exact ⟨by simp, _, 0, rfl⟩

theorem cell_set_same {w : World} {B o : Nat} {u v : Value} (h : w.cell? ⟨B, o, none⟩ = some u) : (w.setCell ⟨B, o, none⟩ v).cell? ⟨B, o, none⟩ = some v := World.cell?_setCell_same _ _ _ h

theorem cell_set_off {w : World} {B o o' : Nat} {u v : Value} (h : w.cell? ⟨B, o', none⟩ = some u) (hn : o ≠ o') : (w.setCell ⟨B, o, none⟩ v).cell? ⟨B, o', none⟩ = some u :=
  (World.cell?_setCell_other _ _ _ _ (fun e => hn (by injection e))).trans h

theorem cur_set1 {w : World} {B : Nat} {a : Option Addr} {len cap : Nat} {at_ seed p : Int} (h : CurAt w B a len cap at_ seed) (hp : 0 ≤ p) : CurAt (w.setCell ⟨B, 1, none⟩ (.int .i64 p)) B a len cap p seed :=
  ⟨by simpa [World.setCell] using h.lt, cell_set_off h.c0 (by omega), cell_set_same h.c1, cell_set_off h.c2 (by omega), fun o => by rw [World.frozen?_setCell]; exact h.fz o, hp, h.s0, h.s1⟩

theorem cur_set2 {w : World} {B : Nat} {a : Option Addr} {len cap : Nat} {at_ seed p : Int} (h : CurAt w B a len cap at_ seed) (hp : 0 ≤ p) (hq : p ≤ 65520) : CurAt (w.setCell ⟨B, 2, none⟩ (.int .i64 p)) B a len cap at_ p :=
  ⟨by simpa [World.setCell] using h.lt, cell_set_off h.c0 (by omega), cell_set_off h.c1 (by omega), cell_set_same h.c2, fun o => by rw [World.frozen?_setCell]; exact h.fz o, h.p0, hp, hq⟩

theorem cur_drewN {w : World} {B : Nat} {a : Option Addr} {len cap : Nat} {at_ seed : Int} (h : CurAt w B a len cap at_ seed) (n : Nat) : CurAt (w.drewN n) B a len cap at_ seed := by
  have hb : Below w.heap.size w (w.drewN n) := below_drewN (Below.refl _ _) n
  exact ⟨Nat.lt_of_lt_of_le h.lt hb.size, held_cell hb h.c0 h.lt, held_cell hb h.c1 h.lt, held_cell hb h.c2 h.lt, fun o => (hb.frozen (p := ⟨B, o, none⟩) h.lt).trans (h.fz o), h.p0, h.s0, h.s1⟩

theorem pick_any (B : Nat) (a : Option Addr) (len cap : Nat) (N n : Int) (w : World) (hN : N ≤ 1000000) (hn : 2 ≤ n) (hn' : n ≤ 100000) (h : Cur w B a len cap N) :
    Calls Try.prog 26 #[.pointer (some ⟨B, 0, none⟩), .int .i64 n] w fun e w' => ∃ r : Int, e = .returned (.int .i64 r) ∧ 0 ≤ r ∧ r < n ∧ Cur w' B a len cap (N + 1) ∧ Hole B w w' := by
  obtain ⟨at_, seed, hc, hN', hk, hl⟩ := h
  have hs : 0 ≤ (seed * 1103 + 12345) % 65521 ∧ (seed * 1103 + 12345) % 65521 ≤ 65520 := by
    have := hc.s0
    have := hc.s1
    omega
  have hp := hc.p0
  rcases hk with h0 | ⟨b, o, rfl, hb, hz⟩
  · subst h0
    refine (pick_nil B a cap at_ seed n w hc.c0 hc.c1 hc.c2 hc.fz hc.p0 (by omega) hc.s0 hc.s1 hn hn').mono ?_
    rintro e w' ⟨rfl, m, m', rfl⟩
    exact ⟨_, rfl, (mod_lt hn).1, (mod_lt hn).2, ⟨at_ + 1, _, cur_set1 (cur_drewN (cur_set2 (cur_drewN hc m) hs.1 hs.2) m') (by omega), by omega, .inl rfl, hl⟩, ((((Hole.refl B w).drewN m).set 2 _).drewN m').set 1 _⟩
  · by_cases hlt : at_ < len
    · obtain ⟨z, z0, z1, hzc⟩ := hz at_.toNat (by omega)
      refine (pick_in B b o len cap at_ n z w hc.c0 hc.c1 hc.fz hzc z0 z1 hc.p0 hlt hl hn hn').mono ?_
      rintro e w' ⟨rfl, m, rfl⟩
      have hh : Hole B w ((w.drewN m).setCell ⟨B, 1, none⟩ (.int .i64 (at_ + 1))) := ((Hole.refl B w).drewN m).set 1 _
      exact ⟨_, rfl, (mod_lt hn).1, (mod_lt hn).2, ⟨at_ + 1, seed, cur_set1 (cur_drewN hc m) (by omega), by omega, (CodeAt.hole (.inr ⟨b, o, rfl, hb, hz⟩) hc.lt hh), hl⟩, hh⟩
    · by_cases h0 : len = 0
      · subst h0
        refine (pick_nil B _ cap at_ seed n w hc.c0 hc.c1 hc.c2 hc.fz hc.p0 (by omega) hc.s0 hc.s1 hn hn').mono ?_
        rintro e w' ⟨rfl, m, m', rfl⟩
        exact ⟨_, rfl, (mod_lt hn).1, (mod_lt hn).2, ⟨at_ + 1, _, cur_set1 (cur_drewN (cur_set2 (cur_drewN hc m) hs.1 hs.2) m') (by omega), by omega, .inl rfl, hl⟩, ((((Hole.refl B w).drewN m).set 2 _).drewN m').set 1 _⟩
      · have hl0 : (0 : Int) < len := by omega
        have i1 : (0 : Int) ≤ at_ % len := Int.emod_nonneg _ (by omega)
        have i2 : at_ % len < (len : Int) := Int.emod_lt_of_pos _ hl0
        obtain ⟨z, z0, z1, hzc⟩ := hz (at_ % len).toNat (by omega)
        refine (pick_out B b o len cap at_ seed n z w (by omega) hc.c0 hc.c1 hc.c2 hc.fz hzc z0 z1 hc.p0 (by omega) (by omega) hc.s0 hc.s1 hl0 hl hn hn').mono ?_
        rintro e w' ⟨rfl, m, m', rfl⟩
        have hh : Hole B w ((((w.drewN m).setCell ⟨B, 2, none⟩ (.int .i64 ((seed * 1103 + 12345) % 65521))).drewN m').setCell ⟨B, 1, none⟩ (.int .i64 (at_ + 1))) := ((((Hole.refl B w).drewN m).set 2 _).drewN m').set 1 _
        exact ⟨_, rfl, (mod_lt hn).1, (mod_lt hn).2, ⟨at_ + 1, _, cur_set1 (cur_drewN (cur_set2 (cur_drewN hc m) hs.1 hs.2) m') (by omega), by omega, (CodeAt.hole (.inr ⟨b, o, rfl, hb, hz⟩) hc.lt hh), hl⟩, hh⟩

set_option maxHeartbeats 400000 in
theorem once_any (B : Nat) (a : Option Addr) (len cap : Nat) (N n : Int) (w : World) (hN : N ≤ 1000000) (hn : 2 ≤ n) (hn' : n ≤ 100000) (h : Cur w B a len cap N) :
    Calls Try.prog 34 #[.pointer (some ⟨B, 0, none⟩), .int .i64 n] w fun e w' => ∃ r : Bool, e = .returned (.bool r) ∧ Cur w' B a len cap (N + 1) ∧ Hole B w w' := by
  have HC : Hid (Cur w B a len cap N) := h
  clear h
  go_enter Try.func34, Try.ntmps34
  go_wp2_with fail
  refine (pick_any B a len cap N n _ hN hn hn' HC.out).mono ?_
  rintro e w1 ⟨r, rfl, r0, r1, hc1, hh1⟩
  have HC1 : Hid (Cur w1 B a len cap (N + 1)) := hc1
  have HH1 : Hid (Hole B w w1) := hh1
  clear hc1 hh1
  go_wp2
  go_ret
  exact ⟨_, rfl, HC1.out, HH1.out⟩

theorem Hole.setNew {B R : Nat} {w w' : World} (h : Hole B w w') (hR : w.heap.size ≤ R) (o : Nat) (v : Value) : Hole B w (w'.setCell ⟨R, o, none⟩ v) :=
  ⟨h.os, h.tape, h.output, by simpa [World.setCell] using h.size, fun k hk hn => (Below.heap_setCell _ _ _ _ (by show k ≠ R; omega)).trans (h.block k hk hn)⟩

theorem Cur.setOther {w : World} {B R : Nat} {a : Option Addr} {len cap : Nat} {N : Int} (h : Cur w B a len cap N) (hR : B < R) (o : Nat) (v : Value) : Cur (w.setCell ⟨R, o, none⟩ v) B a len cap N := by
  obtain ⟨at_, seed, hc, hN, hk, hl⟩ := h
  have hne : ∀ b o', b < R → (Addr.mk R o none) ≠ ⟨b, o', none⟩ := fun b o' hb e => by
    have : R = b := by injection e
    omega
  refine ⟨at_, seed, ⟨by simpa [World.setCell] using hc.lt, (World.cell?_setCell_other _ _ _ _ (hne _ _ hR)).trans hc.c0, (World.cell?_setCell_other _ _ _ _ (hne _ _ hR)).trans hc.c1, (World.cell?_setCell_other _ _ _ _ (hne _ _ hR)).trans hc.c2, fun o => by rw [World.frozen?_setCell]; exact hc.fz o, hc.p0, hc.s0, hc.s1⟩, hN, ?_, hl⟩
  rcases hk with h0 | ⟨b, o', ha, hb, hz⟩
  · exact .inl h0
  · refine .inr ⟨b, o', ha, hb, fun i hi => ?_⟩
    obtain ⟨z, z0, z1, hcz⟩ := hz i hi
    exact ⟨z, z0, z1, (World.cell?_setCell_other _ _ _ _ (hne _ _ (by omega))).trans hcz⟩

/-- A tag in a block of its own. -/
structure TagBox (w : World) (b : Nat) (c s q : Int) : Prop where
  lt : b < w.heap.size
  c0 : w.cell? ⟨b, 0, none⟩ = some (.int .i64 c)
  c1 : w.cell? ⟨b, 1, none⟩ = some (.int .i64 s)
  c2 : w.cell? ⟨b, 2, none⟩ = some (.int .i64 q)
  fz : ∀ o, w.frozen? ⟨b, o, none⟩ = false

theorem TagBox.start (w : World) (c s q : Int) (t : Nat) : TagBox (w.alloc (.cells #[.int .i64 c, .int .i64 s, .int .i64 q] t)) w.heap.size c s q :=
  ⟨by simp, by simp [go_sem], by simp [go_sem], by simp [go_sem], fun o => by simp [go_sem]⟩

theorem TagBox.hole {w w' : World} {B b : Nat} {c s q : Int} (h : TagBox w b c s q) (hh : Hole B w w') (hn : b ≠ B) : TagBox w' b c s q :=
  ⟨Nat.lt_of_lt_of_le h.lt hh.size, (hh.cell h.lt hn).trans h.c0, (hh.cell h.lt hn).trans h.c1, (hh.cell h.lt hn).trans h.c2, fun o => (hh.frozen h.lt hn).trans (h.fz o)⟩

theorem ints_cell (w : World) (l : List Int) (t i : Nat) (hi : i < l.length) : (w.alloc (.cells (l.map (Value.int .i64)).toArray t)).cell? ⟨w.heap.size, i, none⟩ = some (.int .i64 (l.getD i 0)) := by
  simp [go_sem, List.getD, hi]

set_option maxHeartbeats 1000000 in
theorem raw_any (B : Nat) (a : Option Addr) (len cap : Nat) (N : Int) (w : World) (hN : N ≤ 100000) (h : Cur w B a len cap N) :
    Calls Try.prog 27 #[.pointer (some ⟨B, 0, none⟩)] w fun e w' => ∃ r : Int, e = .returned (.int .i64 r) ∧ Cur w' B a len cap (N + 2) ∧ Hole B w w' := by
  have HC : Hid (Cur w B a len cap N) := h
  clear h
  go_enter Try.func27, Try.ntmps27
  go_wp2_with fail
  refine (pick_any B a len cap N 8 _ (by omega) (by omega) (by omega) HC.out).mono ?_
  rintro e w1 ⟨r, rfl, r0, r1, hc1, hh1⟩
  have HC1 : Hid (Cur w1 B a len cap (N + 1)) := hc1
  have HH1 : Hid (Hole B w w1) := hh1
  clear hc1 hh1
  by_cases k0 : r = 0
  · subst k0
    go_wp2_with fail
    refine (pick_any B a len cap (N + 1) 256 _ (by omega) (by omega) (by omega) HC1.out).mono ?_
    rintro e w2 ⟨r2, rfl, q0, q1, hc2, hh2⟩
    have HC2 : Hid (Cur w2 B a len cap (N + 2)) := hc2.more (by omega)
    have HH2 : Hid (Hole B w w2) := HH1.out.trans hh2
    clear hc2 hh2
    go_wp2
    go_ret
    exact ⟨_, rfl, HC2.out, HH2.out⟩
  · by_cases k1 : r = 1
    · subst k1
      go_wp2_with fail
      have HA : Hid (Below w1.heap.size w1 (w1.alloc (.cells ((([9223372036854775807, -9223372036854775808, 4611686018427387904, 1000, 1001, -1000, 100000, 100001] : List Int).map (Value.int .i64)).toArray) 3))) := (Below.refl _ _).alloc (Nat.le_refl _) _
      refine (pick_any B a len cap (N + 1) 8 _ (by omega) (by omega) (by omega) (HC1.out.below HA.out)).mono ?_
      rintro e w2 ⟨r2, rfl, q0, q1, hc2, hh2⟩
      have HC2 : Hid (Cur w2 B a len cap (N + 2)) := hc2.more (by omega)
      have HH2 : Hid (Hole B w w2) := (HH1.out.trans (Hole.of_below HA.out)).trans hh2
      have hcell : w2.cell? ⟨w1.heap.size, r2.toNat, none⟩ = some (.int .i64 _) := (hh2.cell (by simp) (by have := HC1.out.lt; omega)).trans (ints_cell w1 [9223372036854775807, -9223372036854775808, 4611686018427387904, 1000, 1001, -1000, 100000, 100001] _ r2.toNat (by simp; omega))
      generalize List.getD [9223372036854775807, -9223372036854775808, 4611686018427387904, 1000, 1001, -1000, 100000, 100001] r2.toNat 0 = v at hcell
      clear hc2 hh2 HA
      go_wp2
      go_ret
      exact ⟨_, rfl, HC2.out, HH2.out⟩
    · have k0' : (r == 0) = false := by simp [k0]
      have k1' : (r == 1) = false := by simp [k1]
      clear k0 k1
      go_wp2_with fail
      refine (pick_any B a len cap (N + 1) 14 _ (by omega) (by omega) (by omega) HC1.out).mono ?_
      rintro e w2 ⟨r2, rfl, q0, q1, hc2, hh2⟩
      have HC2 : Hid (Cur w2 B a len cap (N + 2)) := hc2.more (by omega)
      have HH2 : Hid (Hole B w w2) := HH1.out.trans hh2
      clear hc2 hh2
      go_wp2
      go_ret
      exact ⟨_, rfl, HC2.out, HH2.out⟩

end Go.Proofs.Ytaopkoamjfmhhaa

/- The contracts of l01Open and of the cursor's tag. -/
namespace Go.Proofs.Ytaopkoamjfmhhaa
open Go.ChangeShapes Go.WideShapes Go.ChangeAt Go.RowKit Go.Joins

/-- What a code that came in is: bytes in a block that was there. -/
def Bytes (w : World) (a : Option Addr) (len : Nat) : Prop :=
  len = 0 ∨ ∃ b o, a = some ⟨b, o, none⟩ ∧ b < w.heap.size ∧ ∀ i, i < len → ∃ z : Int, 0 ≤ z ∧ z ≤ 255 ∧ w.cell? ⟨b, o + i, none⟩ = some (.int .u8 z)

theorem Bytes.below {w w' : World} {a : Option Addr} {len : Nat} (h : Bytes w a len) (hb : Below w.heap.size w w') : Bytes w' a len := by
  rcases h with h | ⟨b, o, ha, hlt, hz⟩
  · exact .inl h
  · refine .inr ⟨b, o, ha, Nat.lt_of_lt_of_le hlt hb.size, fun i hi => ?_⟩
    obtain ⟨z, z0, z1, hc⟩ := hz i hi
    exact ⟨z, z0, z1, held_cell hb hc hlt⟩

theorem cur_start {w : World} {a : Option Addr} {len cap : Nat} (sd : Int) (t : Nat) (h : Bytes w a len) (hl : len ≤ 1048576) (s0 : 0 ≤ sd) (s1 : sd ≤ 65520) :
    Cur (w.alloc (.cells #[.slice a len cap, .int .i64 0, .int .i64 sd] t)) w.heap.size a len cap 0 := by
  refine ⟨0, sd, ⟨by simp, by simp [go_sem], by simp [go_sem], by simp [go_sem], fun o => by simp [go_sem], by omega, s0, s1⟩, by omega, ?_, hl⟩
  rcases h with h | ⟨b, o, ha, hlt, hz⟩
  · exact .inl h
  · refine .inr ⟨b, o, ha, hlt, fun i hi => ?_⟩
    obtain ⟨z, z0, z1, hc⟩ := hz i hi
    exact ⟨z, z0, z1, held_cell ((Below.refl _ _).alloc (Nat.le_refl _) _) hc hlt⟩

set_option maxHeartbeats 400000 in
theorem open_any (a : Option Addr) (len cap : Nat) (w : World) (h : Bytes w a len) (hl : len ≤ 1048576) :
    Calls Try.prog 19 #[.slice a len cap] w fun e w' => e = .returned (.pointer (some ⟨w.heap.size, 0, none⟩)) ∧ Cur w' w.heap.size a len cap 0 ∧ Below w.heap.size w w' := by
  have HB : Hid (Bytes w a len) := h
  clear h
  go_enter Try.func19, Try.ntmps19
  go_wp2
  go_ret
  exact ⟨rfl, cur_start _ _ HB.out hl (by omega) (by omega), (Below.refl _ _).alloc (Nat.le_refl _) _⟩

theorem TagBox.set0 {w : World} {b : Nat} {c s q : Int} (h : TagBox w b c s q) (x : Int) : TagBox (w.setCell ⟨b, 0, none⟩ (.int .i64 x)) b x s q :=
  ⟨by simpa [World.setCell] using h.lt, cell_set_same h.c0, cell_set_off h.c1 (by omega), cell_set_off h.c2 (by omega), fun o => by rw [World.frozen?_setCell]; exact h.fz o⟩

theorem TagBox.set1 {w : World} {b : Nat} {c s q : Int} (h : TagBox w b c s q) (x : Int) : TagBox (w.setCell ⟨b, 1, none⟩ (.int .i64 x)) b c x q :=
  ⟨by simpa [World.setCell] using h.lt, cell_set_off h.c0 (by omega), cell_set_same h.c1, cell_set_off h.c2 (by omega), fun o => by rw [World.frozen?_setCell]; exact h.fz o⟩

theorem TagBox.set2 {w : World} {b : Nat} {c s q : Int} (h : TagBox w b c s q) (x : Int) : TagBox (w.setCell ⟨b, 2, none⟩ (.int .i64 x)) b c s x :=
  ⟨by simpa [World.setCell] using h.lt, cell_set_off h.c0 (by omega), cell_set_off h.c1 (by omega), cell_set_same h.c2, fun o => by rw [World.frozen?_setCell]; exact h.fz o⟩

/-- How a tag's drawing ends, out of any world in which both boxes stand. -/
theorem tag_end {B R : Nat} {a : Option Addr} {len cap : Nat} {N : Int} {w w' : World} {c s q : Int} (hR : w.heap.size ≤ R) (hB : B < w.heap.size) (hc : Cur w' B a len cap N) (hh : Hole B w w') :
    Cur (((w'.setCell ⟨R, 0, none⟩ (.int .i64 c)).setCell ⟨R, 1, none⟩ (.int .i64 s)).setCell ⟨R, 2, none⟩ (.int .i64 q)) B a len cap N ∧ Hole B w (((w'.setCell ⟨R, 0, none⟩ (.int .i64 c)).setCell ⟨R, 1, none⟩ (.int .i64 s)).setCell ⟨R, 2, none⟩ (.int .i64 q)) :=
  ⟨((hc.setOther (by omega) 0 _).setOther (by omega) 1 _).setOther (by omega) 2 _, ((hh.setNew hR 0 _).setNew hR 1 _).setNew hR 2 _⟩

end Go.Proofs.Ytaopkoamjfmhhaa
