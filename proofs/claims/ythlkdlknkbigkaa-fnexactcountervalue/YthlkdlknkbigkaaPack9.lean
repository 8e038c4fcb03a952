import Derived.Test.YthlkdlknkbigkaaPack8
/- Counters: the specification's CounterAdd. -/
namespace Go.Proofs.Ythlkdlknkbigkaa
open Go.ChangeShapes Go.WideShapes Go.ChangeAt Go.RowKit Go.Joins
attribute [local go_sem ↓] Go.wp_at_zero Go.wp_at_succ

theorem own_far {w : World} {lo hi : Nat} {a : Option Addr} {zs : List Int} {p : Addr} (h : OwnI w lo hi a zs) (hp : p.block < lo ∨ hi ≤ p.block) (v : Value) : OwnI (w.setCell p v) lo hi a zs := by
  rcases h with h | ⟨b, ha, h1, h2, hlt, hh, hf⟩
  · exact .inl h
  · refine .inr ⟨b, ha, h1, h2, by simpa using hlt, fun i hi => (World.cell?_setCell_other _ _ _ _ (fun e => ?_)).trans (hh i hi), fun o => by rw [World.frozen?_setCell]; exact hf o⟩
    have : p.block = b := by rw [e]
    omega

theorem own_set {w : World} {lo hi g : Nat} {zs : List Int} (h : OwnI w lo hi (some ⟨g, 0, none⟩) zs) (q : Nat) (z : Int) : OwnI (w.setCell ⟨g, q, none⟩ (.int .i64 z)) lo hi (some ⟨g, 0, none⟩) (zs.set q z) := by
  rcases h with h | ⟨b, ha, h1, h2, hlt, hh, hf⟩
  · subst h
    exact .inl (by simp)
  · injection ha with ha
    injection ha with ha
    subst ha
    refine .inr ⟨g, rfl, h1, h2, by simpa using hlt, fun i hi => ?_, fun o => by rw [World.frozen?_setCell]; exact hf o⟩
    rw [List.length_set] at hi
    by_cases hq : i = q
    · subst hq
      rw [World.cell?_setCell_same _ _ _ (hh i hi)]
      simp [List.getD, hi]
    · rw [World.cell?_setCell_other _ _ _ _ (by intro e; injection e with e1 e2; exact hq e2.symm), hh i hi]
      simp [List.getD, Ne.symm hq]

/-- Where a box of two slices lies, there lies no list of numbers. -/
theorem own_off {w : World} {lo hi b : Nat} {g : Option Addr} {zs : List Int} (h : OwnI w lo hi g zs) {s t : Value} {ty : TypeId} (hs : ∀ k z, s ≠ .int k z) (hb : w.heap[b]? = some (.cells #[s, t] ty (0, 0))) (i : Nat) (v : Value) : OwnI (w.setCell ⟨b, i, none⟩ v) lo hi g zs := by
  rcases h with h | ⟨c, ha, h1, h2, hlt, hh, hf⟩
  · exact .inl h
  · by_cases hz : zs = []
    · exact .inl hz
    · refine .inr ⟨c, ha, h1, h2, by simpa using hlt, fun j hj => ?_, fun o => by rw [World.frozen?_setCell]; exact hf o⟩
      refine (World.cell?_setCell_other _ _ _ _ (fun e => ?_)).trans (hh j hj)
      have e1 : b = c := by injection e
      subst e1
      have h0 := hh 0 (List.length_pos_iff.2 hz)
      rw [cell_of_row w b 0 _ _ (0, 0) hb] at h0
      simp at h0
      exact hs _ _ h0

def Box2F (B : Nat) : Fact := fun v w => ∃ b, v = .pointer (some ⟨b, 0, none⟩) ∧ B ≤ b ∧ w.heap[b]? = some (.cells #[.slice none 0 0, .slice none 0 0] 27 (0, 0))

theorem lasts_box2F (B : Nat) : lasts (fun w w' => Below w.heap.size w w') (Box2F B) := by
  rintro v w w' ⟨b, h1, h2, h3⟩ hr
  exact ⟨b, h1, h2, (hr.block b (Array.getElem?_eq_some_iff.1 h3).1).trans h3⟩

/-- Two lists of one's own in one value. -/
def TwoF (B : Nat) (us ds : List Int) : Fact := fun v w => ∃ g c g' c', v = cntV (some ⟨g, 0, none⟩) us.length c (some ⟨g', 0, none⟩) ds.length c' ∧ B ≤ g ∧ B ≤ g' ∧ g < w.heap.size ∧ g' < w.heap.size ∧ g' ≠ g ∧ OwnI w g (g + 1) (some ⟨g, 0, none⟩) us ∧ OwnI w g' (g' + 1) (some ⟨g', 0, none⟩) ds

theorem lasts_twoF (B : Nat) (us ds : List Int) : lasts (fun w w' => Below w.heap.size w w') (TwoF B us ds) := by
  rintro v w w' ⟨g, c, g', c', h1, h2, h3, h4, h5, h6, h7, h8⟩ hr
  exact ⟨g, c, g', c', h1, h2, h3, Nat.lt_of_lt_of_le h4 hr.size, Nat.lt_of_lt_of_le h5 hr.size, h6, h7.below hr, h8.below hr⟩

def EmptyN : Fact := fun v _ => ∃ g, v = .slice (some ⟨g, 0, none⟩) 0 0

theorem lasts_emptyN (R : World → World → Prop) : lasts R EmptyN := fun _ _ _ h _ => h

theorem betweenN (n : Int) (v : Bool) (h : btw n (-1000000000) 1000000000 = v) (w : World) :
    Calls Try.prog 29 #[.int .i64 n, .int .i64 (-1000000000), .int .i64 1000000000] w fun e w' => e = .returned (.bool v) ∧ w' = w := by
  rw [← h]
  exact between_any n _ _ w

theorem getD_rng {us ds : List Int} (h : cntB us ds = true) (q : Nat) (hq : q < 4) : (0 ≤ us.getD q 0 ∧ us.getD q 0 ≤ 1000000000) ∧ 0 ≤ ds.getD q 0 ∧ ds.getD q 0 ≤ 1000000000 := by
  obtain ⟨x0, x1, x2, x3, y0, y1, y2, y3, rfl, rfl, ⟨h0, h1, h2, h3⟩, k0, k1, k2, k3⟩ := cntB_four h
  match q, hq with
  | 0, _ => exact ⟨h0, k0⟩
  | 1, _ => exact ⟨h1, k1⟩
  | 2, _ => exact ⟨h2, k2⟩
  | 3, _ => exact ⟨h3, k3⟩

set_option maxRecDepth 100000 in
set_option maxHeartbeats 8000000 in
theorem specCounterAdd_any (a : Option Addr) (n cap : Nat) (b : Option Addr) (m cb : Nat) (us ds : List Int) (si nn : Int) (w : World) (hl : us.length = n) (hn : n ≤ maxLen) (hl' : ds.length = m) (hm : m ≤ maxLen) (hh : IsC w a b us ds) :
    Calls Try.prog 13 #[cntV a n cap b m cb, .int .i64 si, .int .i64 nn] w fun e w' => ∃ g cp g' cp', e = .returned (.tuple #[cntV g (caU us ds si nn).length cp g' (caD us ds si nn).length cp', .bool (addOk us ds si nn)]) ∧ OwnC w' w.heap.size w'.heap.size g g' (caU us ds si nn) (caD us ds si nn) ∧ Below w.heap.size w w' := by
  have hres : Try.f13.results = #[.cell 6 27, .tmp 7] := by kernel_rfl
  have HK : Hid (∀ W, Below w.heap.size w W → Calls Try.prog 9 #[cntV a n cap b m cb] W fun e w' => e = .returned (.bool (cntB us ds)) ∧ Below W.heap.size W w') := fun W hW => specCounterOk_any a n cap b m cb us ds W hl hn hl' hm (hh.below hW)
  have HC := Lib.hid hh
  have HL := Lib.hid hl
  have HL' := Lib.hid hl'
  clear hh hl hl'
  cases hv : cntB us ds
  · have HJ := Lib.hid (addOk_bad (si := si) (n := nn) hv)
    rw [hv] at HK
    clear hv
    go_enter Try.func13, Try.ntmps13
    go_wp2_with fail
    have HB : Hid (Below w.heap.size w ((w.alloc (.cells #[.slice a n cap, .slice b m cb] 27)).alloc (.cells #[.slice none 0 0, .slice none 0 0] 27))) := (((Below.refl _ _).alloc (Nat.le_refl _) _).alloc (by simp) _)
    have cb1_0 : ((w.alloc (.cells #[.slice a n cap, .slice b m cb] 27)).alloc (.cells #[.slice none 0 0, .slice none 0 0] 27)).cell? ⟨w.heap.size, 0, none⟩ = some (.slice a n cap) := by go_simp
    have cb1_1 : ((w.alloc (.cells #[.slice a n cap, .slice b m cb] 27)).alloc (.cells #[.slice none 0 0, .slice none 0 0] 27)).cell? ⟨w.heap.size, 1, none⟩ = some (.slice b m cb) := by go_simp
    have zb1 : w.heap.size < ((w.alloc (.cells #[.slice a n cap, .slice b m cb] 27)).alloc (.cells #[.slice none 0 0, .slice none 0 0] 27)).heap.size := by simp <;> omega
    have cr_0 : ((w.alloc (.cells #[.slice a n cap, .slice b m cb] 27)).alloc (.cells #[.slice none 0 0, .slice none 0 0] 27)).cell? ⟨w.heap.size + 1, 0, none⟩ = some (.slice none 0 0) := by go_simp
    have cr_1 : ((w.alloc (.cells #[.slice a n cap, .slice b m cb] 27)).alloc (.cells #[.slice none 0 0, .slice none 0 0] 27)).cell? ⟨w.heap.size + 1, 1, none⟩ = some (.slice none 0 0) := by go_simp
    have zr : w.heap.size + 1 < ((w.alloc (.cells #[.slice a n cap, .slice b m cb] 27)).alloc (.cells #[.slice none 0 0, .slice none 0 0] 27)).heap.size := by simp
    have fr : Hid (∀ o, ((w.alloc (.cells #[.slice a n cap, .slice b m cb] 27)).alloc (.cells #[.slice none 0 0, .slice none 0 0] 27)).frozen? ⟨w.heap.size + 1, o, none⟩ = false) := fun o => by go_simp
    have hsV0 : w.heap.size + 1 < ((w.alloc (.cells #[.slice a n cap, .slice b m cb] 27)).alloc (.cells #[.slice none 0 0, .slice none 0 0] 27)).heap.size := by simp
    generalize ((w.alloc (.cells #[.slice a n cap, .slice b m cb] 27)).alloc (.cells #[.slice none 0 0, .slice none 0 0] 27)) = V0 at *
    refine (HK.out _ HB.out).mono ?_
    rintro e w1 ⟨rfl, hb⟩
    have hsw1 : V0.heap.size ≤ w1.heap.size := hb.size
    replace cb1_0 := cells_of hb zb1 cb1_0
    replace cb1_1 := cells_of hb zb1 cb1_1
    replace zb1 := Nat.lt_of_lt_of_le zb1 hb.size
    replace fr := Lib.hid (fun o => (hb.frozen (p := ⟨w.heap.size + 1, o, none⟩) zr).trans (fr.out o))
    replace cr_0 := cells_of hb zr cr_0
    replace cr_1 := cells_of hb zr cr_1
    replace zr := Nat.lt_of_lt_of_le zr hb.size
    replace HB := Lib.hid (below_step HB.out HB.out.size hb)
    clear hb
    have hrr := fr.out
    go_wp2
    refine bodyPost_ret (v := .tuple #[cntV none 0 0 none 0 0, .bool false]) ?_ rfl ?_
    · simp only [results, hres]
      go_simp
    · rw [(ca_bad HJ.out).1, (ca_bad HJ.out).2, HJ.out]
      refine ⟨none, 0, none, 0, rfl, OwnC.nil ?_, ?_⟩
      · simp
        omega
      · exact (HB.out.setCell (p := ⟨w.heap.size + 1, 0, none⟩) (Nat.le_add_right _ 1) _).setCell (p := ⟨w.heap.size + 1, 1, none⟩) (Nat.le_add_right _ 1) _
  rw [hv] at HK
  cases hs : btw si 0 3
  · have HJ := Lib.hid (addOk_off (us := us) (ds := ds) (n := nn) hs)
    have HS : Hid (∀ W, Calls Try.prog 28 #[.int .i64 si] W fun e w' => e = .returned (.bool false) ∧ w' = W) := fun W => by
      rw [← hs]
      exact specSite_any si W
    clear hv hs
    go_enter Try.func13, Try.ntmps13
    go_wp2_with fail
    have HB : Hid (Below w.heap.size w ((w.alloc (.cells #[.slice a n cap, .slice b m cb] 27)).alloc (.cells #[.slice none 0 0, .slice none 0 0] 27))) := (((Below.refl _ _).alloc (Nat.le_refl _) _).alloc (by simp) _)
    have cb1_0 : ((w.alloc (.cells #[.slice a n cap, .slice b m cb] 27)).alloc (.cells #[.slice none 0 0, .slice none 0 0] 27)).cell? ⟨w.heap.size, 0, none⟩ = some (.slice a n cap) := by go_simp
    have cb1_1 : ((w.alloc (.cells #[.slice a n cap, .slice b m cb] 27)).alloc (.cells #[.slice none 0 0, .slice none 0 0] 27)).cell? ⟨w.heap.size, 1, none⟩ = some (.slice b m cb) := by go_simp
    have zb1 : w.heap.size < ((w.alloc (.cells #[.slice a n cap, .slice b m cb] 27)).alloc (.cells #[.slice none 0 0, .slice none 0 0] 27)).heap.size := by simp <;> omega
    have cr_0 : ((w.alloc (.cells #[.slice a n cap, .slice b m cb] 27)).alloc (.cells #[.slice none 0 0, .slice none 0 0] 27)).cell? ⟨w.heap.size + 1, 0, none⟩ = some (.slice none 0 0) := by go_simp
    have cr_1 : ((w.alloc (.cells #[.slice a n cap, .slice b m cb] 27)).alloc (.cells #[.slice none 0 0, .slice none 0 0] 27)).cell? ⟨w.heap.size + 1, 1, none⟩ = some (.slice none 0 0) := by go_simp
    have zr : w.heap.size + 1 < ((w.alloc (.cells #[.slice a n cap, .slice b m cb] 27)).alloc (.cells #[.slice none 0 0, .slice none 0 0] 27)).heap.size := by simp
    have fr : Hid (∀ o, ((w.alloc (.cells #[.slice a n cap, .slice b m cb] 27)).alloc (.cells #[.slice none 0 0, .slice none 0 0] 27)).frozen? ⟨w.heap.size + 1, o, none⟩ = false) := fun o => by go_simp
    have hsV0 : w.heap.size + 1 < ((w.alloc (.cells #[.slice a n cap, .slice b m cb] 27)).alloc (.cells #[.slice none 0 0, .slice none 0 0] 27)).heap.size := by simp
    generalize ((w.alloc (.cells #[.slice a n cap, .slice b m cb] 27)).alloc (.cells #[.slice none 0 0, .slice none 0 0] 27)) = V0 at *
    refine (HK.out _ HB.out).mono ?_
    rintro e w1 ⟨rfl, hb⟩
    have hsw1 : V0.heap.size ≤ w1.heap.size := hb.size
    replace cb1_0 := cells_of hb zb1 cb1_0
    replace cb1_1 := cells_of hb zb1 cb1_1
    replace zb1 := Nat.lt_of_lt_of_le zb1 hb.size
    replace fr := Lib.hid (fun o => (hb.frozen (p := ⟨w.heap.size + 1, o, none⟩) zr).trans (fr.out o))
    replace cr_0 := cells_of hb zr cr_0
    replace cr_1 := cells_of hb zr cr_1
    replace zr := Nat.lt_of_lt_of_le zr hb.size
    replace HB := Lib.hid (below_step HB.out HB.out.size hb)
    clear hb
    go_wp2_with fail
    refine (HS.out _).mono ?_
    rintro e wz ⟨rfl, hwz⟩
    subst wz
    have hrr := fr.out
    go_wp2
    refine bodyPost_ret (v := .tuple #[cntV none 0 0 none 0 0, .bool false]) ?_ rfl ?_
    · simp only [results, hres]
      go_simp
    · rw [(ca_bad HJ.out).1, (ca_bad HJ.out).2, HJ.out]
      refine ⟨none, 0, none, 0, rfl, OwnC.nil ?_, ?_⟩
      · simp
        omega
      · exact (HB.out.setCell (p := ⟨w.heap.size + 1, 0, none⟩) (Nat.le_add_right _ 1) _).setCell (p := ⟨w.heap.size + 1, 1, none⟩) (Nat.le_add_right _ 1) _
  obtain ⟨q, hq, rfl⟩ : ∃ q : Nat, q < 4 ∧ si = (q : Int) := ⟨si.toNat, by have := btw_site hs; omega, by have := btw_site hs; omega⟩
  have HS : Hid (∀ W, Calls Try.prog 28 #[.int .i64 (q : Int)] W fun e w' => e = .returned (.bool true) ∧ w' = W) := fun W => by
    rw [← hs]
    exact specSite_any (q : Int) W
  cases hr : btw nn (-1000000000) 1000000000
  · have HJ := Lib.hid (addOk_far (us := us) (ds := ds) (si := (q : Int)) hr)
    have HN := Lib.hid (betweenN nn _ hr)
    clear hv hs hr
    go_enter Try.func13, Try.ntmps13
    go_wp2_with fail
    have HB : Hid (Below w.heap.size w ((w.alloc (.cells #[.slice a n cap, .slice b m cb] 27)).alloc (.cells #[.slice none 0 0, .slice none 0 0] 27))) := (((Below.refl _ _).alloc (Nat.le_refl _) _).alloc (by simp) _)
    have cb1_0 : ((w.alloc (.cells #[.slice a n cap, .slice b m cb] 27)).alloc (.cells #[.slice none 0 0, .slice none 0 0] 27)).cell? ⟨w.heap.size, 0, none⟩ = some (.slice a n cap) := by go_simp
    have cb1_1 : ((w.alloc (.cells #[.slice a n cap, .slice b m cb] 27)).alloc (.cells #[.slice none 0 0, .slice none 0 0] 27)).cell? ⟨w.heap.size, 1, none⟩ = some (.slice b m cb) := by go_simp
    have zb1 : w.heap.size < ((w.alloc (.cells #[.slice a n cap, .slice b m cb] 27)).alloc (.cells #[.slice none 0 0, .slice none 0 0] 27)).heap.size := by simp <;> omega
    have cr_0 : ((w.alloc (.cells #[.slice a n cap, .slice b m cb] 27)).alloc (.cells #[.slice none 0 0, .slice none 0 0] 27)).cell? ⟨w.heap.size + 1, 0, none⟩ = some (.slice none 0 0) := by go_simp
    have cr_1 : ((w.alloc (.cells #[.slice a n cap, .slice b m cb] 27)).alloc (.cells #[.slice none 0 0, .slice none 0 0] 27)).cell? ⟨w.heap.size + 1, 1, none⟩ = some (.slice none 0 0) := by go_simp
    have zr : w.heap.size + 1 < ((w.alloc (.cells #[.slice a n cap, .slice b m cb] 27)).alloc (.cells #[.slice none 0 0, .slice none 0 0] 27)).heap.size := by simp
    have fr : Hid (∀ o, ((w.alloc (.cells #[.slice a n cap, .slice b m cb] 27)).alloc (.cells #[.slice none 0 0, .slice none 0 0] 27)).frozen? ⟨w.heap.size + 1, o, none⟩ = false) := fun o => by go_simp
    have hsV0 : w.heap.size + 1 < ((w.alloc (.cells #[.slice a n cap, .slice b m cb] 27)).alloc (.cells #[.slice none 0 0, .slice none 0 0] 27)).heap.size := by simp
    generalize ((w.alloc (.cells #[.slice a n cap, .slice b m cb] 27)).alloc (.cells #[.slice none 0 0, .slice none 0 0] 27)) = V0 at *
    refine (HK.out _ HB.out).mono ?_
    rintro e w1 ⟨rfl, hb⟩
    have hsw1 : V0.heap.size ≤ w1.heap.size := hb.size
    replace cb1_0 := cells_of hb zb1 cb1_0
    replace cb1_1 := cells_of hb zb1 cb1_1
    replace zb1 := Nat.lt_of_lt_of_le zb1 hb.size
    replace fr := Lib.hid (fun o => (hb.frozen (p := ⟨w.heap.size + 1, o, none⟩) zr).trans (fr.out o))
    replace cr_0 := cells_of hb zr cr_0
    replace cr_1 := cells_of hb zr cr_1
    replace zr := Nat.lt_of_lt_of_le zr hb.size
    replace HB := Lib.hid (below_step HB.out HB.out.size hb)
    clear hb
    go_wp2_with fail
    refine (HS.out _).mono ?_
    rintro e wz ⟨rfl, hwz⟩
    subst wz
    go_wp2_with fail
    refine (HN.out _).mono ?_
    rintro e wz ⟨rfl, hwz⟩
    subst wz
    have hrr := fr.out
    go_wp2
    refine bodyPost_ret (v := .tuple #[cntV none 0 0 none 0 0, .bool false]) ?_ rfl ?_
    · simp only [results, hres]
      go_simp
    · rw [(ca_bad HJ.out).1, (ca_bad HJ.out).2, HJ.out]
      refine ⟨none, 0, none, 0, rfl, OwnC.nil ?_, ?_⟩
      · simp
        omega
      · exact (HB.out.setCell (p := ⟨w.heap.size + 1, 0, none⟩) (Nat.le_add_right _ 1) _).setCell (p := ⟨w.heap.size + 1, 1, none⟩) (Nat.le_add_right _ 1) _
  have HJ := Lib.hid (addOk_at hv hs hr)
  have HN := Lib.hid (betweenN nn _ hr)
  have hrng := getD_rng hv q hq
  have hnr : -1000000000 ≤ nn ∧ nn ≤ 1000000000 := by
    unfold btw at hr
    simpa using hr
  have hlen : us.length = 4 ∧ ds.length = 4 := by obtain ⟨x0, x1, x2, x3, y0, y1, y2, y3, rfl, rfl, -⟩ := cntB_four hv; exact ⟨rfl, rfl⟩
  have hn4 : n = 4 := HL.out.symm.trans hlen.1
  have hm4 : m = 4 := HL'.out.symm.trans hlen.2
  subst hn4 hm4
  clear hv hs hr hlen
  go_enter Try.func13, Try.ntmps13
  go_wp2_with fail
  have HB : Hid (Below w.heap.size w ((w.alloc (.cells #[.slice a 4 cap, .slice b 4 cb] 27)).alloc (.cells #[.slice none 0 0, .slice none 0 0] 27))) := (((Below.refl _ _).alloc (Nat.le_refl _) _).alloc (by simp) _)
  have cb1_0 : ((w.alloc (.cells #[.slice a 4 cap, .slice b 4 cb] 27)).alloc (.cells #[.slice none 0 0, .slice none 0 0] 27)).cell? ⟨w.heap.size, 0, none⟩ = some (.slice a 4 cap) := by go_simp
  have cb1_1 : ((w.alloc (.cells #[.slice a 4 cap, .slice b 4 cb] 27)).alloc (.cells #[.slice none 0 0, .slice none 0 0] 27)).cell? ⟨w.heap.size, 1, none⟩ = some (.slice b 4 cb) := by go_simp
  have zb1 : w.heap.size < ((w.alloc (.cells #[.slice a 4 cap, .slice b 4 cb] 27)).alloc (.cells #[.slice none 0 0, .slice none 0 0] 27)).heap.size := by simp <;> omega
  have cr_0 : ((w.alloc (.cells #[.slice a 4 cap, .slice b 4 cb] 27)).alloc (.cells #[.slice none 0 0, .slice none 0 0] 27)).cell? ⟨w.heap.size + 1, 0, none⟩ = some (.slice none 0 0) := by go_simp
  have cr_1 : ((w.alloc (.cells #[.slice a 4 cap, .slice b 4 cb] 27)).alloc (.cells #[.slice none 0 0, .slice none 0 0] 27)).cell? ⟨w.heap.size + 1, 1, none⟩ = some (.slice none 0 0) := by go_simp
  have zr : w.heap.size + 1 < ((w.alloc (.cells #[.slice a 4 cap, .slice b 4 cb] 27)).alloc (.cells #[.slice none 0 0, .slice none 0 0] 27)).heap.size := by simp
  have fr : Hid (∀ o, ((w.alloc (.cells #[.slice a 4 cap, .slice b 4 cb] 27)).alloc (.cells #[.slice none 0 0, .slice none 0 0] 27)).frozen? ⟨w.heap.size + 1, o, none⟩ = false) := fun o => by go_simp
  have hsV0 : w.heap.size + 1 < ((w.alloc (.cells #[.slice a 4 cap, .slice b 4 cb] 27)).alloc (.cells #[.slice none 0 0, .slice none 0 0] 27)).heap.size := by simp
  generalize ((w.alloc (.cells #[.slice a 4 cap, .slice b 4 cb] 27)).alloc (.cells #[.slice none 0 0, .slice none 0 0] 27)) = V0 at *
  refine (HK.out _ HB.out).mono ?_
  rintro e w1 ⟨rfl, hb⟩
  have hsw1 : V0.heap.size ≤ w1.heap.size := hb.size
  replace cb1_0 := cells_of hb zb1 cb1_0
  replace cb1_1 := cells_of hb zb1 cb1_1
  replace zb1 := Nat.lt_of_lt_of_le zb1 hb.size
  replace fr := Lib.hid (fun o => (hb.frozen (p := ⟨w.heap.size + 1, o, none⟩) zr).trans (fr.out o))
  replace cr_0 := cells_of hb zr cr_0
  replace cr_1 := cells_of hb zr cr_1
  replace zr := Nat.lt_of_lt_of_le zr hb.size
  replace HB := Lib.hid (below_step HB.out HB.out.size hb)
  clear hb
  go_wp2_with fail
  refine (HS.out _).mono ?_
  rintro e wz ⟨rfl, hwz⟩
  subst wz
  go_wp2_with fail
  refine (HN.out _).mono ?_
  rintro e wz ⟨rfl, hwz⟩
  subst wz
  go_wp2_with fail
  refine wp_region_slotsP 10 [[], [(3, false)], [(24, true)], [(23, true), (25, true)], [], [(3, false)], [(28, true)], [(27, true), (29, true)], [(26, true), (30, true)], []] (fun a w' => Below w1.heap.size w1 w' ∧ PairB (fun x => x == 26 || x == 30) a w') (fun w w' => Below w.heap.size w w') (by kernel_rfl) (by kernel_rfl) (by rfl) ⟨(Below.refl _ _).drew, ?_⟩ ?_
  · intro x hx g hg
    simp only [Bool.or_eq_true, beq_iff_eq] at hx
    rcases hx with rfl | rfl
    · simp [Act.eval, undef, Value.ownBlock] at hg
    · simp [Act.eval, undef, Value.ownBlock] at hg
  refine slotP_fact EmptyN (lasts_emptyN _) (by intro x hx; cases hx; rfl) (fun _ _ h hr => below_step h h.size hr) (fun _ _ h => h.size) ?_ ?_
  · intro ρ w' ⟨p1, p2, p3⟩ hS hn
    go_simp
    exact ⟨(Below.refl _ _).alloc (Nat.le_refl _) _, _, rfl⟩
  apply slotP_eq (by intro x hx; cases hx; rfl) (fun _ _ h hr => below_step h h.size hr) (fun _ _ h => h.size)
  · intro ρ w' ⟨p1, p2, p3⟩ hS hn
    have d0 := cells_of hS zb1 cb1_0
    have d1 := cells_of hS zb1 cb1_1
    simp at hn
    go_simp
    exact ⟨Below.refl _ _, rfl⟩
  apply slotP_eq (by intro x hx; cases hx; rfl) (fun _ _ h hr => below_step h h.size hr) (fun _ _ h => h.size)
  · intro ρ w' ⟨p1, p2, p3⟩ hS hn
    have d0 := cells_of hS zb1 cb1_0
    have d1 := cells_of hS zb1 cb1_1
    simp at hn
    go_simp
    exact ⟨Below.refl _ _, rfl⟩
  refine slotP_new (d := 26) (RowNF w1.heap.size us) (lasts_rowNF _ _) rfl (by simp) (fun _ _ h hr => below_step h h.size hr) ?_ ?_
  · intro ρ w' _ hS hn
    simp at hn
    obtain ⟨⟨g0, e0⟩, e1⟩ := hn
    exact got_append_new (.tmp 23) (.tmp 25) rfl g0 e0 a 4 cap us HL.out (by omega) e1 ((HC.out.1.below HB.out).below hS) (by omega) w1.heap.size hS.size
  refine slotP_fact EmptyN (lasts_emptyN _) (by intro x hx; cases hx; rfl) (fun _ _ h hr => below_step h h.size hr) (fun _ _ h => h.size) ?_ ?_
  · intro ρ w' ⟨p1, p2, p3⟩ hS hn
    go_simp
    exact ⟨(Below.refl _ _).alloc (Nat.le_refl _) _, _, rfl⟩
  apply slotP_eq (by intro x hx; cases hx; rfl) (fun _ _ h hr => below_step h h.size hr) (fun _ _ h => h.size)
  · intro ρ w' ⟨p1, p2, p3⟩ hS hn
    have d0 := cells_of hS zb1 cb1_0
    have d1 := cells_of hS zb1 cb1_1
    simp at hn
    go_simp
    exact ⟨Below.refl _ _, rfl⟩
  apply slotP_eq (by intro x hx; cases hx; rfl) (fun _ _ h hr => below_step h h.size hr) (fun _ _ h => h.size)
  · intro ρ w' ⟨p1, p2, p3⟩ hS hn
    have d0 := cells_of hS zb1 cb1_0
    have d1 := cells_of hS zb1 cb1_1
    simp at hn
    go_simp
    exact ⟨Below.refl _ _, rfl⟩
  refine slotP_new (d := 30) (RowNF w1.heap.size ds) (lasts_rowNF _ _) rfl (by simp) (fun _ _ h hr => below_step h h.size hr) ?_ ?_
  · intro ρ w' _ hS hn
    simp at hn
    obtain ⟨⟨g0, e0⟩, e1⟩ := hn
    exact got_append_new (.tmp 27) (.tmp 29) rfl g0 e0 b 4 cb ds HL'.out (by omega) e1 ((HC.out.2.below HB.out).below hS) (by omega) w1.heap.size hS.size
  refine slotP_act (TwoF w1.heap.size us ds) (lasts_twoF _ _ _) (by intro x hx; cases hx; rfl) (fun _ _ h hr => below_step h h.size hr) (fun _ _ h => h.size) ?_ ?_
  · intro ρ w' ⟨p1, p2, p3⟩ hS hP hn
    simp at hn
    obtain ⟨⟨g1, c1, e1, l1, k1, o1⟩, g2, c2, e2, l2, k2, o2⟩ := hn
    have hne : g2 ≠ g1 := fun e => hP 26 rfl g1 (by rw [e1]; rfl) 30 rfl (by decide) (by rw [e2, e]; rfl)
    go_simp
    exact ⟨Below.refl _ _, g1, c1, g2, c2, rfl, l1, l2, k1, k2, hne, o1, o2⟩
  refine slotP_fact (Box2F w1.heap.size) (lasts_box2F _) (by intro x hx; cases hx; rfl) (fun _ _ h hr => below_step h h.size hr) (fun _ _ h => h.size) ?_ ?_
  · intro ρ w' ⟨p1, p2, p3⟩ hS hn
    have hz := hS.size
    go_simp
    exact ⟨(Below.refl _ _).alloc (Nat.le_refl _) _, _, rfl, hz, heap_alloc_new _ _⟩
  refine slotP_end ?_
  rintro vs w2 ⟨hS, -⟩ hF
  simp at hF
  obtain ⟨⟨bx, fb, hb1, hb2⟩, ⟨g1, c1, g2, c2, f31, l1, l2, k1, k2, hne, o1, o2⟩, ⟨_, _, f30, -⟩, f29, f28, ⟨_, f27⟩, ⟨_, _, f26, -⟩, f25, f24, _, f23⟩ := hF
  simp only [List.take_succ_cons, List.take_zero, List.drop_succ_cons, List.drop_zero, putAll, fb, f31, f30, f29, f28, f27, f26, f25, f24, f23]
  clear f23 f24 f25 f26 f27 f28 f29 f30 f31 fb
  simp only [Act.put, List.setIfInBounds_toArray, List.set_cons_succ, List.set_cons_zero]
  have hsw2 : w1.heap.size ≤ w2.heap.size := hS.size
  replace cb1_0 := cells_of hS zb1 cb1_0
  replace cb1_1 := cells_of hS zb1 cb1_1
  replace zb1 := Nat.lt_of_lt_of_le zb1 hS.size
  replace fr := Lib.hid (fun o => (hS.frozen (p := ⟨w.heap.size + 1, o, none⟩) zr).trans (fr.out o))
  replace cr_0 := cells_of hS zr cr_0
  replace cr_1 := cells_of hS zr cr_1
  replace zr := Nat.lt_of_lt_of_le zr hS.size
  replace HB := Lib.hid (below_step HB.out HB.out.size hS)
  clear hS
  rw [HL.out, HL'.out]
  have hbl : bx < w2.heap.size := (Array.getElem?_eq_some_iff.1 hb2).1
  obtain ⟨cx0, cx1, fx, -⟩ := cells_two hb2
  have hb3 : ((w2.setCell ⟨bx, 0, none⟩ (.slice (some ⟨g1, 0, none⟩) 4 c1)).setCell ⟨bx, 1, none⟩ (.slice (some ⟨g2, 0, none⟩) 4 c2)).heap[bx]? = some (.cells #[(.slice (some ⟨g1, 0, none⟩) 4 c1), (.slice (some ⟨g2, 0, none⟩) 4 c2)] 27 (0, 0)) := two_setCell1 (two_setCell0 hb2)
  have p1 : OwnI ((w2.setCell ⟨bx, 0, none⟩ (.slice (some ⟨g1, 0, none⟩) 4 c1)).setCell ⟨bx, 1, none⟩ (.slice (some ⟨g2, 0, none⟩) 4 c2)) g1 (g1 + 1) (some ⟨g1, 0, none⟩) us := own_off (own_off o1 (fun _ _ e => by cases e) hb2 0 _) (fun _ _ e => by cases e) (two_setCell0 hb2) 1 _
  have p2 : OwnI ((w2.setCell ⟨bx, 0, none⟩ (.slice (some ⟨g1, 0, none⟩) 4 c1)).setCell ⟨bx, 1, none⟩ (.slice (some ⟨g2, 0, none⟩) 4 c2)) g2 (g2 + 1) (some ⟨g2, 0, none⟩) ds := own_off (own_off o2 (fun _ _ e => by cases e) hb2 0 _) (fun _ _ e => by cases e) (two_setCell0 hb2) 1 _
  replace HB := Lib.hid ((HB.out.setCell (p := ⟨bx, 0, none⟩) (by show w.heap.size ≤ bx; omega) (.slice (some ⟨g1, 0, none⟩) 4 c1)).setCell (p := ⟨bx, 1, none⟩) (by show w.heap.size ≤ bx; omega) (.slice (some ⟨g2, 0, none⟩) 4 c2))
  replace cr_0 : ((w2.setCell ⟨bx, 0, none⟩ (.slice (some ⟨g1, 0, none⟩) 4 c1)).setCell ⟨bx, 1, none⟩ (.slice (some ⟨g2, 0, none⟩) 4 c2)).cell? ⟨w.heap.size + 1, 0, none⟩ = _ := (World.cell?_setCell_other _ ⟨bx, 1, none⟩ ⟨w.heap.size + 1, 0, none⟩ _ (fun e => by injection e; omega)).trans ((World.cell?_setCell_other _ ⟨bx, 0, none⟩ ⟨w.heap.size + 1, 0, none⟩ _ (fun e => by injection e; omega)).trans cr_0)
  replace cr_1 : ((w2.setCell ⟨bx, 0, none⟩ (.slice (some ⟨g1, 0, none⟩) 4 c1)).setCell ⟨bx, 1, none⟩ (.slice (some ⟨g2, 0, none⟩) 4 c2)).cell? ⟨w.heap.size + 1, 1, none⟩ = _ := (World.cell?_setCell_other _ ⟨bx, 1, none⟩ ⟨w.heap.size + 1, 1, none⟩ _ (fun e => by injection e; omega)).trans ((World.cell?_setCell_other _ ⟨bx, 0, none⟩ ⟨w.heap.size + 1, 1, none⟩ _ (fun e => by injection e; omega)).trans cr_1)
  replace fr : Hid (∀ o, ((w2.setCell ⟨bx, 0, none⟩ (.slice (some ⟨g1, 0, none⟩) 4 c1)).setCell ⟨bx, 1, none⟩ (.slice (some ⟨g2, 0, none⟩) 4 c2)).frozen? ⟨w.heap.size + 1, o, none⟩ = false) := fun o => by rw [World.frozen?_setCell, World.frozen?_setCell]; exact fr.out o
  have hz3 : w2.heap.size = ((w2.setCell ⟨bx, 0, none⟩ (.slice (some ⟨g1, 0, none⟩) 4 c1)).setCell ⟨bx, 1, none⟩ (.slice (some ⟨g2, 0, none⟩) 4 c2)).heap.size := by simp
  have hsz3 := Lib.hid hz3
  clear hz3
  obtain ⟨hX, hY⟩ := hrng
  have i1 : (0 : Int) ≤ (q : Int) := by omega
  have i2 : (q : Int) < 4 := by omega
  rcases p1 with e | ⟨gg, ge, u1, u2, u3, u4, u5⟩
  · have := HL.out
    rw [e] at this
    simp at this
  rcases p2 with e | ⟨gg', ge', v1, v2, v3, v4, v5⟩
  · have := HL'.out
    rw [e] at this
    simp at this
  injection ge with ge
  injection ge with ge
  subst ge
  injection ge' with ge'
  injection ge' with ge'
  subst ge'
  have HP1 : Hid (OwnI ((w2.setCell ⟨bx, 0, none⟩ (.slice (some ⟨g1, 0, none⟩) 4 c1)).setCell ⟨bx, 1, none⟩ (.slice (some ⟨g2, 0, none⟩) 4 c2)) g1 (g1 + 1) (some ⟨g1, 0, none⟩) us) := .inr ⟨g1, rfl, u1, u2, u3, u4, u5⟩
  have HP2 : Hid (OwnI ((w2.setCell ⟨bx, 0, none⟩ (.slice (some ⟨g1, 0, none⟩) 4 c1)).setCell ⟨bx, 1, none⟩ (.slice (some ⟨g2, 0, none⟩) 4 c2)) g2 (g2 + 1) (some ⟨g2, 0, none⟩) ds) := .inr ⟨g2, rfl, v1, v2, v3, v4, v5⟩
  have a1 := u4 q (by rw [HL.out]; exact hq)
  have a2 := v4 q (by rw [HL'.out]; exact hq)
  obtain ⟨cy0, cy1, fy, -⟩ := cells_two hb3
  have HB3 := Lib.hid hb3
  have hbg1 : ¬ bx = g1 := fun e => by
    subst e
    have h0 := u4 0 (by rw [HL.out]; omega)
    rw [cy0] at h0
    cases h0
  have hbg2 : ¬ bx = g2 := fun e => by
    subst e
    have h0 := v4 0 (by rw [HL'.out]; omega)
    rw [cy0] at h0
    cases h0
  clear u1 u2 u4 v1 v2 v4 hb3 hb2 o1 o2 cb1_0 cb1_1 zb1 zr
  by_cases hsg : 0 ≤ nn
  · have HU : Hid (addU us (q : Int) nn = us.set q (us.getD q 0 + nn)) := by
      show addU us (q : Int) nn = _
      unfold addU
      rw [if_pos hsg]
      simp
    have HD : Hid (addD ds (q : Int) nn = ds) := by
      show addD ds (q : Int) nn = _
      unfold addD
      rw [if_pos hsg]
    have hw : IntKind.i64.wrap (us.getD q 0 + nn) = us.getD q 0 + nn := IntWalk.i64_in _ ⟨by omega, by omega⟩
    have HO1 := Lib.hid (own_set HP1.out q (us.getD q 0 + nn))
    have HO2 := Lib.hid (own_far (p := ⟨g1, q, none⟩) HP2.out (by show g1 < _ ∨ _ ≤ g1; omega) (.int .i64 (us.getD q 0 + nn)))
    clear HP1 HP2 hX hY
    generalize hXX : us.getD q 0 = XX at *
    have HXX := Lib.hid hXX
    clear hXX
    go_wp2_with fail
    clear cx0 cx1 fx hbl
    generalize ((w2.setCell ⟨bx, 0, none⟩ (.slice (some ⟨g1, 0, none⟩) 4 c1)).setCell ⟨bx, 1, none⟩ (.slice (some ⟨g2, 0, none⟩) 4 c2)) = W3 at *
    go_region
    replace HB := Lib.hid ((HB.out.setCell (p := ⟨g1, q, none⟩) (by show w.heap.size ≤ g1; omega) (.int .i64 (XX + nn))).drew)
    replace cr_0 : (W3.setCell ⟨g1, q, none⟩ (.int .i64 (XX + nn))).drew.cell? ⟨w.heap.size + 1, 0, none⟩ = _ := (World.cell?_setCell_other W3 ⟨g1, q, none⟩ ⟨w.heap.size + 1, 0, none⟩ (.int .i64 (XX + nn)) (fun e => by injection e; omega)).trans cr_0
    replace cr_1 : (W3.setCell ⟨g1, q, none⟩ (.int .i64 (XX + nn))).drew.cell? ⟨w.heap.size + 1, 1, none⟩ = _ := (World.cell?_setCell_other W3 ⟨g1, q, none⟩ ⟨w.heap.size + 1, 1, none⟩ (.int .i64 (XX + nn)) (fun e => by injection e; omega)).trans cr_1
    replace cy0 : (W3.setCell ⟨g1, q, none⟩ (.int .i64 (XX + nn))).drew.cell? ⟨bx, 0, none⟩ = _ := (World.cell?_setCell_other W3 ⟨g1, q, none⟩ ⟨bx, 0, none⟩ (.int .i64 (XX + nn)) (fun e => by injection e; omega)).trans cy0
    replace cy1 : (W3.setCell ⟨g1, q, none⟩ (.int .i64 (XX + nn))).drew.cell? ⟨bx, 1, none⟩ = _ := (World.cell?_setCell_other W3 ⟨g1, q, none⟩ ⟨bx, 1, none⟩ (.int .i64 (XX + nn)) (fun e => by injection e; omega)).trans cy1
    replace fr : Hid (∀ o, (W3.setCell ⟨g1, q, none⟩ (.int .i64 (XX + nn))).drew.frozen? ⟨w.heap.size + 1, o, none⟩ = false) := fun o => (World.frozen?_setCell W3 _ _ _).trans (fr.out o)
    have HOC : Hid (OwnC (W3.setCell ⟨g1, q, none⟩ (.int .i64 (XX + nn))).drew w1.heap.size w2.heap.size (some ⟨g1, 0, none⟩) (some ⟨g2, 0, none⟩) (us.set q (XX + nn)) ds) := ⟨g1, g1 + 1, g2, g2 + 1, l1, k1, l2, k2, by omega, HO1.out.below (Below.refl _ _).drew, HO2.out.below (Below.refl _ _).drew⟩
    have hsz5 : w2.heap.size = (W3.setCell ⟨g1, q, none⟩ (.int .i64 (XX + nn))).drew.heap.size := hsz3.out.trans (by simp [World.drew])
    have HSZ5 := Lib.hid hsz5
    clear hsz5 hsz3 u3 u5 v3 v5 HB3 HO1 HO2 HXX hw a1 a2 fy
    generalize (W3.setCell ⟨g1, q, none⟩ (.int .i64 (XX + nn))).drew = W4 at *
    have zr : w.heap.size + 1 < W4.heap.size := by have := HSZ5.out; omega
    go_wp2_with fail
    refine (specCounterOk_any _ 4 c1 _ 4 c2 (us.set q (XX + nn)) ds _ (by rw [List.length_set]; exact HL.out) (by unfold maxLen; omega) HL'.out (by unfold maxLen; omega) HOC.out.isC).mono ?_
    rintro e w5 ⟨rfl, hb⟩
    have hsw5 : W4.heap.size ≤ w5.heap.size := hb.size
    replace fr := Lib.hid (fun o => (hb.frozen (p := ⟨w.heap.size + 1, o, none⟩) zr).trans (fr.out o))
    replace cr_0 := cells_of hb zr cr_0
    replace cr_1 := cells_of hb zr cr_1
    replace zr := Nat.lt_of_lt_of_le zr hb.size
    replace HOC := Lib.hid (HOC.out.below hb)
    replace HB := Lib.hid (below_step HB.out HB.out.size hb)
    have hzbx : bx < W4.heap.size := World.block_lt_of_cell? W4 _ cy0
    replace cy0 := cells_of hb hzbx cy0
    replace cy1 := cells_of hb hzbx cy1
    clear hb
    have hlw : w.heap.size + 1 < w1.heap.size := by omega
    have hsz6 : w2.heap.size ≤ w5.heap.size := by have := HSZ5.out; omega
    clear HSZ5 hzbx
    rw [HU.out, HD.out] at HJ
    rw [← HJ.out]
    have hrr := fr.out
    cases hz : addOk us ds (q : Int) nn
    · replace HJ := Lib.hid hz
      go_wp2
      refine bodyPost_ret (v := .tuple #[cntV none 0 0 none 0 0, .bool false]) ?_ rfl ?_
      · simp only [results, hres]
        go_simp
      · rw [(ca_bad HJ.out).1, (ca_bad HJ.out).2, HJ.out]
        refine ⟨none, 0, none, 0, rfl, OwnC.nil ?_, ?_⟩
        · simp
          omega
        · exact (HB.out.setCell (p := ⟨w.heap.size + 1, 0, none⟩) (Nat.le_add_right _ 1) _).setCell (p := ⟨w.heap.size + 1, 1, none⟩) (Nat.le_add_right _ 1) _
    · have HG := Lib.hid (ca_good hz)
      replace HJ := Lib.hid hz
      go_wp2
      refine bodyPost_ret (v := .tuple #[cntV (some ⟨g1, 0, none⟩) 4 c1 (some ⟨g2, 0, none⟩) 4 c2, .bool true]) ?_ rfl ?_
      · simp only [results, hres]
        go_simp
      · rw [HG.out.1, HG.out.2, HJ.out, HU.out, HD.out]
        refine ⟨some ⟨g1, 0, none⟩, c1, some ⟨g2, 0, none⟩, c2, by rw [List.length_set, HL.out, HL'.out], ?_, ?_⟩
        · exact ((HOC.out.aside (p := ⟨w.heap.size + 1, 0, none⟩) hlw _).aside (p := ⟨w.heap.size + 1, 1, none⟩) hlw _).wider (by omega) (by simp; omega)
        · exact (HB.out.setCell (p := ⟨w.heap.size + 1, 0, none⟩) (Nat.le_add_right _ 1) _).setCell (p := ⟨w.heap.size + 1, 1, none⟩) (Nat.le_add_right _ 1) _
  · have HU : Hid (addU us (q : Int) nn = us) := by
      show addU us (q : Int) nn = _
      unfold addU
      rw [if_neg hsg]
    have HD : Hid (addD ds (q : Int) nn = ds.set q (ds.getD q 0 - nn)) := by
      show addD ds (q : Int) nn = _
      unfold addD
      rw [if_neg hsg]
      simp
    have hw : IntKind.i64.wrap (ds.getD q 0 - nn) = ds.getD q 0 - nn := IntWalk.i64_in _ ⟨by omega, by omega⟩
    have HO1 := Lib.hid (own_set HP2.out q (ds.getD q 0 - nn))
    have HO2 := Lib.hid (own_far (p := ⟨g2, q, none⟩) HP1.out (by show g2 < _ ∨ _ ≤ g2; omega) (.int .i64 (ds.getD q 0 - nn)))
    clear HP1 HP2 hX hY
    generalize hXX : ds.getD q 0 = XX at *
    have HXX := Lib.hid hXX
    clear hXX
    go_wp2_with fail
    clear cx0 cx1 fx hbl
    generalize ((w2.setCell ⟨bx, 0, none⟩ (.slice (some ⟨g1, 0, none⟩) 4 c1)).setCell ⟨bx, 1, none⟩ (.slice (some ⟨g2, 0, none⟩) 4 c2)) = W3 at *
    go_region
    replace HB := Lib.hid ((HB.out.setCell (p := ⟨g2, q, none⟩) (by show w.heap.size ≤ g2; omega) (.int .i64 (XX - nn))).drew)
    replace cr_0 : (W3.setCell ⟨g2, q, none⟩ (.int .i64 (XX - nn))).drew.cell? ⟨w.heap.size + 1, 0, none⟩ = _ := (World.cell?_setCell_other W3 ⟨g2, q, none⟩ ⟨w.heap.size + 1, 0, none⟩ (.int .i64 (XX - nn)) (fun e => by injection e; omega)).trans cr_0
    replace cr_1 : (W3.setCell ⟨g2, q, none⟩ (.int .i64 (XX - nn))).drew.cell? ⟨w.heap.size + 1, 1, none⟩ = _ := (World.cell?_setCell_other W3 ⟨g2, q, none⟩ ⟨w.heap.size + 1, 1, none⟩ (.int .i64 (XX - nn)) (fun e => by injection e; omega)).trans cr_1
    replace cy0 : (W3.setCell ⟨g2, q, none⟩ (.int .i64 (XX - nn))).drew.cell? ⟨bx, 0, none⟩ = _ := (World.cell?_setCell_other W3 ⟨g2, q, none⟩ ⟨bx, 0, none⟩ (.int .i64 (XX - nn)) (fun e => by injection e; omega)).trans cy0
    replace cy1 : (W3.setCell ⟨g2, q, none⟩ (.int .i64 (XX - nn))).drew.cell? ⟨bx, 1, none⟩ = _ := (World.cell?_setCell_other W3 ⟨g2, q, none⟩ ⟨bx, 1, none⟩ (.int .i64 (XX - nn)) (fun e => by injection e; omega)).trans cy1
    replace fr : Hid (∀ o, (W3.setCell ⟨g2, q, none⟩ (.int .i64 (XX - nn))).drew.frozen? ⟨w.heap.size + 1, o, none⟩ = false) := fun o => (World.frozen?_setCell W3 _ _ _).trans (fr.out o)
    have HOC : Hid (OwnC (W3.setCell ⟨g2, q, none⟩ (.int .i64 (XX - nn))).drew w1.heap.size w2.heap.size (some ⟨g1, 0, none⟩) (some ⟨g2, 0, none⟩) us (ds.set q (XX - nn))) := ⟨g1, g1 + 1, g2, g2 + 1, l1, k1, l2, k2, by omega, HO2.out.below (Below.refl _ _).drew, HO1.out.below (Below.refl _ _).drew⟩
    have hsz5 : w2.heap.size = (W3.setCell ⟨g2, q, none⟩ (.int .i64 (XX - nn))).drew.heap.size := hsz3.out.trans (by simp [World.drew])
    have HSZ5 := Lib.hid hsz5
    clear hsz5 hsz3 u3 u5 v3 v5 HB3 HO1 HO2 HXX hw a1 a2 fy
    generalize (W3.setCell ⟨g2, q, none⟩ (.int .i64 (XX - nn))).drew = W4 at *
    have zr : w.heap.size + 1 < W4.heap.size := by have := HSZ5.out; omega
    go_wp2_with fail
    refine (specCounterOk_any _ 4 c1 _ 4 c2 us (ds.set q (XX - nn)) _ HL.out (by unfold maxLen; omega) (by rw [List.length_set]; exact HL'.out) (by unfold maxLen; omega) HOC.out.isC).mono ?_
    rintro e w5 ⟨rfl, hb⟩
    have hsw5 : W4.heap.size ≤ w5.heap.size := hb.size
    replace fr := Lib.hid (fun o => (hb.frozen (p := ⟨w.heap.size + 1, o, none⟩) zr).trans (fr.out o))
    replace cr_0 := cells_of hb zr cr_0
    replace cr_1 := cells_of hb zr cr_1
    replace zr := Nat.lt_of_lt_of_le zr hb.size
    replace HOC := Lib.hid (HOC.out.below hb)
    replace HB := Lib.hid (below_step HB.out HB.out.size hb)
    have hzbx : bx < W4.heap.size := World.block_lt_of_cell? W4 _ cy0
    replace cy0 := cells_of hb hzbx cy0
    replace cy1 := cells_of hb hzbx cy1
    clear hb
    have hlw : w.heap.size + 1 < w1.heap.size := by omega
    have hsz6 : w2.heap.size ≤ w5.heap.size := by have := HSZ5.out; omega
    clear HSZ5 hzbx
    rw [HU.out, HD.out] at HJ
    rw [← HJ.out]
    have hrr := fr.out
    cases hz : addOk us ds (q : Int) nn
    · replace HJ := Lib.hid hz
      go_wp2
      refine bodyPost_ret (v := .tuple #[cntV none 0 0 none 0 0, .bool false]) ?_ rfl ?_
      · simp only [results, hres]
        go_simp
      · rw [(ca_bad HJ.out).1, (ca_bad HJ.out).2, HJ.out]
        refine ⟨none, 0, none, 0, rfl, OwnC.nil ?_, ?_⟩
        · simp
          omega
        · exact (HB.out.setCell (p := ⟨w.heap.size + 1, 0, none⟩) (Nat.le_add_right _ 1) _).setCell (p := ⟨w.heap.size + 1, 1, none⟩) (Nat.le_add_right _ 1) _
    · have HG := Lib.hid (ca_good hz)
      replace HJ := Lib.hid hz
      go_wp2
      refine bodyPost_ret (v := .tuple #[cntV (some ⟨g1, 0, none⟩) 4 c1 (some ⟨g2, 0, none⟩) 4 c2, .bool true]) ?_ rfl ?_
      · simp only [results, hres]
        go_simp
      · rw [HG.out.1, HG.out.2, HJ.out, HU.out, HD.out]
        refine ⟨some ⟨g1, 0, none⟩, c1, some ⟨g2, 0, none⟩, c2, by rw [List.length_set, HL.out, HL'.out], ?_, ?_⟩
        · exact ((HOC.out.aside (p := ⟨w.heap.size + 1, 0, none⟩) hlw _).aside (p := ⟨w.heap.size + 1, 1, none⟩) hlw _).wider (by omega) (by simp; omega)
        · exact (HB.out.setCell (p := ⟨w.heap.size + 1, 0, none⟩) (Nat.le_add_right _ 1) _).setCell (p := ⟨w.heap.size + 1, 1, none⟩) (Nat.le_add_right _ 1) _

end Go.Proofs.Ythlkdlknkbigkaa

/- Counters: the specification's CounterValue and CounterLeq. -/
namespace Go.Proofs.Ythlkdlknkbigkaa
open Go.ChangeShapes Go.WideShapes Go.ChangeAt Go.RowKit Go.Joins
attribute [local go_sem ↓] Go.wp_at_zero Go.wp_at_succ

theorem list_same {xs ys : List Int} (hl : xs.length = ys.length) (h : ∀ j, j < xs.length → xs.getD j 0 = ys.getD j 0) : xs = ys := by
  refine List.ext_getElem hl fun i h1 h2 => ?_
  have := h i h1
  simpa [List.getD, h1, h2] using this

set_option maxRecDepth 100000 in
set_option maxHeartbeats 2000000 in
theorem l12Same_any (a b : Option Addr) (n cap cb : Nat) (xs ys : List Int) (w : World) (hl : xs.length = n) (hl' : ys.length = n) (hn : n ≤ 1048576) (hh : IsIs w a xs) (hg : IsIs w b ys) :
    Calls Try.prog 38 #[.slice a n cap, .slice b n cb] w fun e w' => e = .returned (.bool (decide (xs = ys))) ∧ Below w.heap.size w w' := by
  have HH : Hid (IsIs w a xs) := hh
  have HG : Hid (IsIs w b ys) := hg
  have HN : Hid (xs.length = n) := hl
  have HN' : Hid (ys.length = n) := hl'
  clear hh hg hl hl'
  go_enter Try.func38, Try.ntmps38
  go_wp2
  go_loopw [5] (fun i wr => ∃ k : Nat, k ≤ n ∧ i = .int .i64 k ∧ Hid (∀ j, j < k → xs.getD j 0 = ys.getD j 0) ∧ Hid (Below w.heap.size w wr)) (fun i _ => n - (intOf i).toNat)
  case atStart => exact ⟨0, Nat.zero_le _, rfl, fun j hj => by omega, Below.refl _ _⟩
  case round =>
    obtain ⟨k, hk, rfl, HE, HB⟩ := hrel
    by_cases hk' : k < n
    · have hkx : k < xs.length := by rw [HN.out]; exact hk'
      have hky : k < ys.length := by rw [HN'.out]; exact hk'
      obtain ⟨b1, o1, rfl, hz1, e1⟩ := HH.out.at HB.out hkx
      obtain ⟨b2, o2, rfl, hz2, e2⟩ := HG.out.at HB.out hky
      have i1 : (0 : Int) ≤ (k : Int) := by omega
      have i2 : (k : Int) < (n : Int) := by omega
      clear HH HG
      by_cases hx : xs.getD k 0 = ys.getD k 0
      · have HE2 : Hid (∀ j, j < k + 1 → xs.getD j 0 = ys.getD j 0) := fun j hj => by
          by_cases h : j < k
          · exact HE.out j h
          · have : j = k := by omega
            rw [this]
            exact hx
        rw [hx] at e1
        generalize ys.getD k 0 = X at *
        generalize xs.getD k 0 = Y at *
        go_wp2_with fail
        go_region
        go_wp2
        exact ⟨⟨k + 1, by omega, by go_num, HE2, HB.out.drew⟩, by simp [intOf]; omega⟩
      · have HF : Hid (decide (xs = ys) = false) := decide_eq_false fun e => hx (by rw [e])
        generalize ys.getD k 0 = X at *
        generalize xs.getD k 0 = Y at *
        go_wp2_with fail
        go_region
        go_wp2
        go_ret
        exact ⟨ret_bool HF.out.symm, HB.out.drew⟩
    · have hkk : k = n := by omega
      subst hkk
      have HF : Hid (decide (xs = ys) = true) := decide_eq_true (list_same (HN.out.trans HN'.out.symm) fun j hj => HE.out j (by rw [← HN.out]; exact hj))
      go_wp2
      go_ret
      exact ⟨ret_bool HF.out.symm, HB.out⟩

set_option maxRecDepth 100000 in
set_option maxHeartbeats 4000000 in
theorem specCounterValue_any (a : Option Addr) (n cap : Nat) (b : Option Addr) (m cb : Nat) (us ds : List Int) (w : World) (hl : us.length = n) (hn : n ≤ maxLen) (hl' : ds.length = m) (hm : m ≤ maxLen) (hh : IsC w a b us ds) :
    Calls Try.prog 19 #[cntV a n cap b m cb] w fun e w' => e = .returned (.int .i64 (valC us ds)) ∧ Below w.heap.size w w' := by
  have HK : Hid (∀ W, Below w.heap.size w W → Calls Try.prog 9 #[cntV a n cap b m cb] W fun e w' => e = .returned (.bool (cntB us ds)) ∧ Below W.heap.size W w') := fun W hW => specCounterOk_any a n cap b m cb us ds W hl hn hl' hm (hh.below hW)
  have HC := Lib.hid hh
  have HL := Lib.hid hl
  have HL' := Lib.hid hl'
  clear hh hl hl'
  cases hv : cntB us ds
  · have HJ : Hid (valC us ds = 0) := valC_bad hv
    rw [hv] at HK
    clear hv
    go_enter Try.func19, Try.ntmps19
    go_wp2_with fail
    have HB : Hid (Below w.heap.size w (w.alloc (.cells #[.slice a n cap, .slice b m cb] 27))) := ((Below.refl _ _).alloc (Nat.le_refl _) _)
    have cb1_0 : (w.alloc (.cells #[.slice a n cap, .slice b m cb] 27)).cell? ⟨w.heap.size, 0, none⟩ = some (.slice a n cap) := by go_simp
    have cb1_1 : (w.alloc (.cells #[.slice a n cap, .slice b m cb] 27)).cell? ⟨w.heap.size, 1, none⟩ = some (.slice b m cb) := by go_simp
    have zb1 : w.heap.size < (w.alloc (.cells #[.slice a n cap, .slice b m cb] 27)).heap.size := by simp
    have hsV0 : w.heap.size < (w.alloc (.cells #[.slice a n cap, .slice b m cb] 27)).heap.size := by simp
    generalize (w.alloc (.cells #[.slice a n cap, .slice b m cb] 27)) = V0 at *
    refine wp_loop_rounds 5 ?_
    rw [rounds_succ]
    go_wp2_with fail
    refine (HK.out _ HB.out).mono ?_
    rintro e w1 ⟨rfl, hb⟩
    have hsw1 : V0.heap.size ≤ w1.heap.size := hb.size
    replace cb1_0 := cells_of hb zb1 cb1_0
    replace cb1_1 := cells_of hb zb1 cb1_1
    replace zb1 := Nat.lt_of_lt_of_le zb1 hb.size
    replace HB := Lib.hid (below_step HB.out HB.out.size hb)
    clear hb
    go_wp2
    go_ret
    exact ⟨ret_int HJ.out.symm, HB.out⟩
  rw [hv] at HK
  obtain ⟨x0, x1, x2, x3, y0, y1, y2, y3, rfl, rfl, ⟨⟨hx0, kx0⟩, ⟨hx1, kx1⟩, ⟨hx2, kx2⟩, hx3, kx3⟩, ⟨hy0, ky0⟩, ⟨hy1, ky1⟩, ⟨hy2, ky2⟩, hy3, ky3⟩ := cntB_four hv
  have HJ : Hid (valC [x0, x1, x2, x3] [y0, y1, y2, y3] = sum4 x0 x1 x2 x3 - sum4 y0 y1 y2 y3) := valC_four hv
  have hn4 : n = 4 := HL.out.symm
  subst hn4
  have hm4 : m = 4 := HL'.out.symm
  subst hm4
  clear hv
  obtain ⟨hh1, hh2⟩ := HC.out
  rcases hh1 with h | ⟨b1, o1, rfl, z1, h1⟩
  · cases h
  rcases hh2 with h | ⟨b2, o2, rfl, z2, h2⟩
  · cases h
  have d0 : w.cell? ⟨b1, o1 + 0, none⟩ = some (.int .i64 x0) := h1 0 (by simp)
  have k0 : w.cell? ⟨b2, o2 + 0, none⟩ = some (.int .i64 y0) := h2 0 (by simp)
  have d1 : w.cell? ⟨b1, o1 + 1, none⟩ = some (.int .i64 x1) := h1 1 (by simp)
  have k1 : w.cell? ⟨b2, o2 + 1, none⟩ = some (.int .i64 y1) := h2 1 (by simp)
  have d2 : w.cell? ⟨b1, o1 + 2, none⟩ = some (.int .i64 x2) := h1 2 (by simp)
  have k2 : w.cell? ⟨b2, o2 + 2, none⟩ = some (.int .i64 y2) := h2 2 (by simp)
  have d3 : w.cell? ⟨b1, o1 + 3, none⟩ = some (.int .i64 x3) := h1 3 (by simp)
  have k3 : w.cell? ⟨b2, o2 + 3, none⟩ = some (.int .i64 y3) := h2 3 (by simp)
  simp only [Nat.add_zero] at d0 k0
  clear h1 h2
  go_enter Try.func19, Try.ntmps19
  go_wp2_with fail
  have HB : Hid (Below w.heap.size w (w.alloc (.cells #[.slice (some ⟨b1, o1, none⟩) 4 cap, .slice (some ⟨b2, o2, none⟩) 4 cb] 27))) := ((Below.refl _ _).alloc (Nat.le_refl _) _)
  have cb1_0 : (w.alloc (.cells #[.slice (some ⟨b1, o1, none⟩) 4 cap, .slice (some ⟨b2, o2, none⟩) 4 cb] 27)).cell? ⟨w.heap.size, 0, none⟩ = some (.slice (some ⟨b1, o1, none⟩) 4 cap) := by go_simp
  have cb1_1 : (w.alloc (.cells #[.slice (some ⟨b1, o1, none⟩) 4 cap, .slice (some ⟨b2, o2, none⟩) 4 cb] 27)).cell? ⟨w.heap.size, 1, none⟩ = some (.slice (some ⟨b2, o2, none⟩) 4 cb) := by go_simp
  have zb1 : w.heap.size < (w.alloc (.cells #[.slice (some ⟨b1, o1, none⟩) 4 cap, .slice (some ⟨b2, o2, none⟩) 4 cb] 27)).heap.size := by simp
  have hsV0 : w.heap.size < (w.alloc (.cells #[.slice (some ⟨b1, o1, none⟩) 4 cap, .slice (some ⟨b2, o2, none⟩) 4 cb] 27)).heap.size := by simp
  generalize (w.alloc (.cells #[.slice (some ⟨b1, o1, none⟩) 4 cap, .slice (some ⟨b2, o2, none⟩) 4 cb] 27)) = V0 at *
  refine wp_loop_rounds 5 ?_
  rw [rounds_succ]
  go_wp2_with fail
  refine (HK.out _ HB.out).mono ?_
  rintro e w1 ⟨rfl, hb⟩
  have hsw1 : V0.heap.size ≤ w1.heap.size := hb.size
  replace cb1_0 := cells_of hb zb1 cb1_0
  replace cb1_1 := cells_of hb zb1 cb1_1
  replace zb1 := Nat.lt_of_lt_of_le zb1 hb.size
  replace HB := Lib.hid (below_step HB.out HB.out.size hb)
  clear hb
  have e0 := cells_of HB.out z1 d0
  have f0 := cells_of HB.out z2 k0
  go_wp2_with fail
  go_region
  replace HB := Lib.hid HB.out.drew
  replace cb1_0 : w1.drew.cell? _ = _ := cb1_0
  replace cb1_1 : w1.drew.cell? _ = _ := cb1_1
  replace zb1 : w.heap.size < w1.drew.heap.size := zb1
  clear e0 f0
  generalize w1.drew = V1 at *
  go_wp2_with fail
  rw [rounds_succ]
  go_wp2_with fail
  refine (HK.out _ HB.out).mono ?_
  rintro e w2 ⟨rfl, hb⟩
  have hsw2 : V1.heap.size ≤ w2.heap.size := hb.size
  replace cb1_0 := cells_of hb zb1 cb1_0
  replace cb1_1 := cells_of hb zb1 cb1_1
  replace zb1 := Nat.lt_of_lt_of_le zb1 hb.size
  replace HB := Lib.hid (below_step HB.out HB.out.size hb)
  clear hb
  have e1 := cells_of HB.out z1 d1
  have f1 := cells_of HB.out z2 k1
  go_wp2_with fail
  go_region
  replace HB := Lib.hid HB.out.drew
  replace cb1_0 : w2.drew.cell? _ = _ := cb1_0
  replace cb1_1 : w2.drew.cell? _ = _ := cb1_1
  replace zb1 : w.heap.size < w2.drew.heap.size := zb1
  clear e1 f1
  generalize w2.drew = V2 at *
  go_wp2_with fail
  rw [rounds_succ]
  go_wp2_with fail
  refine (HK.out _ HB.out).mono ?_
  rintro e w3 ⟨rfl, hb⟩
  have hsw3 : V2.heap.size ≤ w3.heap.size := hb.size
  replace cb1_0 := cells_of hb zb1 cb1_0
  replace cb1_1 := cells_of hb zb1 cb1_1
  replace zb1 := Nat.lt_of_lt_of_le zb1 hb.size
  replace HB := Lib.hid (below_step HB.out HB.out.size hb)
  clear hb
  have e2 := cells_of HB.out z1 d2
  have f2 := cells_of HB.out z2 k2
  go_wp2_with fail
  go_region
  replace HB := Lib.hid HB.out.drew
  replace cb1_0 : w3.drew.cell? _ = _ := cb1_0
  replace cb1_1 : w3.drew.cell? _ = _ := cb1_1
  replace zb1 : w.heap.size < w3.drew.heap.size := zb1
  clear e2 f2
  generalize w3.drew = V3 at *
  go_wp2_with fail
  rw [rounds_succ]
  go_wp2_with fail
  refine (HK.out _ HB.out).mono ?_
  rintro e w4 ⟨rfl, hb⟩
  have hsw4 : V3.heap.size ≤ w4.heap.size := hb.size
  replace cb1_0 := cells_of hb zb1 cb1_0
  replace cb1_1 := cells_of hb zb1 cb1_1
  replace zb1 := Nat.lt_of_lt_of_le zb1 hb.size
  replace HB := Lib.hid (below_step HB.out HB.out.size hb)
  clear hb
  have e3 := cells_of HB.out z1 d3
  have f3 := cells_of HB.out z2 k3
  go_wp2_with fail
  go_region
  replace HB := Lib.hid HB.out.drew
  replace cb1_0 : w4.drew.cell? _ = _ := cb1_0
  replace cb1_1 : w4.drew.cell? _ = _ := cb1_1
  replace zb1 : w.heap.size < w4.drew.heap.size := zb1
  clear e3 f3
  generalize w4.drew = V4 at *
  go_wp2_with fail
  rw [rounds_succ]
  go_wp2
  go_ret
  exact ⟨ret_int (HJ.out.trans (by unfold sum4; omega)).symm, HB.out⟩

set_option maxRecDepth 100000 in
set_option maxHeartbeats 4000000 in
theorem specCounterLeq_any (a : Option Addr) (n cap : Nat) (b : Option Addr) (m cb : Nat) (a' : Option Addr) (n' cap' : Nat) (b' : Option Addr) (m' cb' : Nat) (us ds us' ds' : List Int) (w : World) (hl : us.length = n) (hn : n ≤ maxLen) (hl' : ds.length = m) (hm : m ≤ maxLen) (hh : IsC w a b us ds) (gl : us'.length = n') (gn : n' ≤ maxLen) (gl' : ds'.length = m') (gm : m' ≤ maxLen) (gg : IsC w a' b' us' ds') :
    Calls Try.prog 21 #[cntV a n cap b m cb, cntV a' n' cap' b' m' cb'] w fun e w' => e = .returned (.bool (leqC us ds us' ds')) ∧ Below w.heap.size w w' := by
  have HK : Hid (∀ W, Below w.heap.size w W → Calls Try.prog 9 #[cntV a n cap b m cb] W fun e w' => e = .returned (.bool (cntB us ds)) ∧ Below W.heap.size W w') := fun W hW => specCounterOk_any a n cap b m cb us ds W hl hn hl' hm (hh.below hW)
  have HK' : Hid (∀ W, Below w.heap.size w W → Calls Try.prog 9 #[cntV a' n' cap' b' m' cb'] W fun e w' => e = .returned (.bool (cntB us' ds')) ∧ Below W.heap.size W w') := fun W hW => specCounterOk_any a' n' cap' b' m' cb' us' ds' W gl gn gl' gm (gg.below hW)
  have HJN : Hid (∀ W, Below w.heap.size w W → Calls Try.prog 17 #[cntV a n cap b m cb, cntV a' n' cap' b' m' cb'] W fun e w' => ∃ g cp g' cp', e = .returned (cntV g (cjU us ds us' ds').length cp g' (cjD us ds us' ds').length cp') ∧ OwnC w' W.heap.size w'.heap.size g g' (cjU us ds us' ds') (cjD us ds us' ds') ∧ Below W.heap.size W w') := fun W hW => specCounterJoin_any a n cap b m cb a' n' cap' b' m' cb' us ds us' ds' W hl hn hl' hm (hh.below hW) gl gn gl' gm (gg.below hW)
  have HC := Lib.hid hh
  have HL := Lib.hid hl
  have HL' := Lib.hid hl'
  have GC := Lib.hid gg
  have GL := Lib.hid gl
  have GL' := Lib.hid gl'
  clear hh hl hl' gg gl gl'
  cases hv : cntB us ds
  · have HJ := Lib.hid (leqC_bad (us := us) (ds := ds) (us' := us') (ds' := ds') (by rw [hv]; rfl))
    rw [hv] at HK
    clear hv
    go_enter Try.func21, Try.ntmps21
    go_wp2_with fail
    have HB : Hid (Below w.heap.size w ((w.alloc (.cells #[.slice a n cap, .slice b m cb] 27)).alloc (.cells #[.slice a' n' cap', .slice b' m' cb'] 27))) := (((Below.refl _ _).alloc (Nat.le_refl _) _).alloc (by simp) _)
    have cb1_0 : ((w.alloc (.cells #[.slice a n cap, .slice b m cb] 27)).alloc (.cells #[.slice a' n' cap', .slice b' m' cb'] 27)).cell? ⟨w.heap.size, 0, none⟩ = some (.slice a n cap) := by go_simp
    have cb1_1 : ((w.alloc (.cells #[.slice a n cap, .slice b m cb] 27)).alloc (.cells #[.slice a' n' cap', .slice b' m' cb'] 27)).cell? ⟨w.heap.size, 1, none⟩ = some (.slice b m cb) := by go_simp
    have zb1 : w.heap.size < ((w.alloc (.cells #[.slice a n cap, .slice b m cb] 27)).alloc (.cells #[.slice a' n' cap', .slice b' m' cb'] 27)).heap.size := by simp <;> omega
    have cb2_0 : ((w.alloc (.cells #[.slice a n cap, .slice b m cb] 27)).alloc (.cells #[.slice a' n' cap', .slice b' m' cb'] 27)).cell? ⟨w.heap.size + 1, 0, none⟩ = some (.slice a' n' cap') := by go_simp
    have cb2_1 : ((w.alloc (.cells #[.slice a n cap, .slice b m cb] 27)).alloc (.cells #[.slice a' n' cap', .slice b' m' cb'] 27)).cell? ⟨w.heap.size + 1, 1, none⟩ = some (.slice b' m' cb') := by go_simp
    have zb2 : w.heap.size + 1 < ((w.alloc (.cells #[.slice a n cap, .slice b m cb] 27)).alloc (.cells #[.slice a' n' cap', .slice b' m' cb'] 27)).heap.size := by simp
    have hsV0 : w.heap.size + 1 < ((w.alloc (.cells #[.slice a n cap, .slice b m cb] 27)).alloc (.cells #[.slice a' n' cap', .slice b' m' cb'] 27)).heap.size := by simp
    generalize ((w.alloc (.cells #[.slice a n cap, .slice b m cb] 27)).alloc (.cells #[.slice a' n' cap', .slice b' m' cb'] 27)) = V0 at *
    refine (HK.out _ HB.out).mono ?_
    rintro e w1 ⟨rfl, hb⟩
    have hsw1 : V0.heap.size ≤ w1.heap.size := hb.size
    replace cb1_0 := cells_of hb zb1 cb1_0
    replace cb1_1 := cells_of hb zb1 cb1_1
    replace zb1 := Nat.lt_of_lt_of_le zb1 hb.size
    replace cb2_0 := cells_of hb zb2 cb2_0
    replace cb2_1 := cells_of hb zb2 cb2_1
    replace zb2 := Nat.lt_of_lt_of_le zb2 hb.size
    replace HB := Lib.hid (below_step HB.out HB.out.size hb)
    clear hb
    go_wp2
    go_ret
    exact ⟨ret_bool HJ.out.symm, HB.out⟩
  rw [hv] at HK
  cases gv : cntB us' ds'
  · have HJ := Lib.hid (leqC_bad (us := us) (ds := ds) (us' := us') (ds' := ds') (by rw [gv, Bool.and_false]))
    rw [gv] at HK'
    clear hv gv
    go_enter Try.func21, Try.ntmps21
    go_wp2_with fail
    have HB : Hid (Below w.heap.size w ((w.alloc (.cells #[.slice a n cap, .slice b m cb] 27)).alloc (.cells #[.slice a' n' cap', .slice b' m' cb'] 27))) := (((Below.refl _ _).alloc (Nat.le_refl _) _).alloc (by simp) _)
    have cb1_0 : ((w.alloc (.cells #[.slice a n cap, .slice b m cb] 27)).alloc (.cells #[.slice a' n' cap', .slice b' m' cb'] 27)).cell? ⟨w.heap.size, 0, none⟩ = some (.slice a n cap) := by go_simp
    have cb1_1 : ((w.alloc (.cells #[.slice a n cap, .slice b m cb] 27)).alloc (.cells #[.slice a' n' cap', .slice b' m' cb'] 27)).cell? ⟨w.heap.size, 1, none⟩ = some (.slice b m cb) := by go_simp
    have zb1 : w.heap.size < ((w.alloc (.cells #[.slice a n cap, .slice b m cb] 27)).alloc (.cells #[.slice a' n' cap', .slice b' m' cb'] 27)).heap.size := by simp <;> omega
    have cb2_0 : ((w.alloc (.cells #[.slice a n cap, .slice b m cb] 27)).alloc (.cells #[.slice a' n' cap', .slice b' m' cb'] 27)).cell? ⟨w.heap.size + 1, 0, none⟩ = some (.slice a' n' cap') := by go_simp
    have cb2_1 : ((w.alloc (.cells #[.slice a n cap, .slice b m cb] 27)).alloc (.cells #[.slice a' n' cap', .slice b' m' cb'] 27)).cell? ⟨w.heap.size + 1, 1, none⟩ = some (.slice b' m' cb') := by go_simp
    have zb2 : w.heap.size + 1 < ((w.alloc (.cells #[.slice a n cap, .slice b m cb] 27)).alloc (.cells #[.slice a' n' cap', .slice b' m' cb'] 27)).heap.size := by simp
    have hsV0 : w.heap.size + 1 < ((w.alloc (.cells #[.slice a n cap, .slice b m cb] 27)).alloc (.cells #[.slice a' n' cap', .slice b' m' cb'] 27)).heap.size := by simp
    generalize ((w.alloc (.cells #[.slice a n cap, .slice b m cb] 27)).alloc (.cells #[.slice a' n' cap', .slice b' m' cb'] 27)) = V0 at *
    refine (HK.out _ HB.out).mono ?_
    rintro e w1 ⟨rfl, hb⟩
    have hsw1 : V0.heap.size ≤ w1.heap.size := hb.size
    replace cb1_0 := cells_of hb zb1 cb1_0
    replace cb1_1 := cells_of hb zb1 cb1_1
    replace zb1 := Nat.lt_of_lt_of_le zb1 hb.size
    replace cb2_0 := cells_of hb zb2 cb2_0
    replace cb2_1 := cells_of hb zb2 cb2_1
    replace zb2 := Nat.lt_of_lt_of_le zb2 hb.size
    replace HB := Lib.hid (below_step HB.out HB.out.size hb)
    clear hb
    go_wp2_with fail
    refine (HK'.out _ HB.out).mono ?_
    rintro e w2 ⟨rfl, hb⟩
    have hsw2 : w1.heap.size ≤ w2.heap.size := hb.size
    replace cb1_0 := cells_of hb zb1 cb1_0
    replace cb1_1 := cells_of hb zb1 cb1_1
    replace zb1 := Nat.lt_of_lt_of_le zb1 hb.size
    replace cb2_0 := cells_of hb zb2 cb2_0
    replace cb2_1 := cells_of hb zb2 cb2_1
    replace zb2 := Nat.lt_of_lt_of_le zb2 hb.size
    replace HB := Lib.hid (below_step HB.out HB.out.size hb)
    clear hb
    go_wp2
    go_ret
    exact ⟨ret_bool HJ.out.symm, HB.out⟩
  rw [gv] at HK'
  have HJ : Hid (leqC us ds us' ds' = (decide (List.zipWith max us us' = us') && decide (List.zipWith max ds ds' = ds'))) := by
    show leqC _ _ _ _ = _
    unfold leqC
    rw [hv, gv]
    rfl
  have hlen : us.length = 4 ∧ ds.length = 4 := by obtain ⟨x0, x1, x2, x3, y0, y1, y2, y3, rfl, rfl, -⟩ := cntB_four hv; exact ⟨rfl, rfl⟩
  have glen : us'.length = 4 ∧ ds'.length = 4 := by obtain ⟨x0, x1, x2, x3, y0, y1, y2, y3, rfl, rfl, -⟩ := cntB_four gv; exact ⟨rfl, rfl⟩
  obtain ⟨j1, j2⟩ := cj_good hv gv
  rw [j1, j2] at HJN
  have ju : (List.zipWith max us us').length = 4 := by simp [hlen.1, glen.1]
  have jd : (List.zipWith max ds ds').length = 4 := by simp [hlen.2, glen.2]
  have HLU := Lib.hid ju
  have HLD := Lib.hid jd
  rw [ju, jd] at HJN
  have hn4 : n = 4 := HL.out.symm.trans hlen.1
  have hm4 : m = 4 := HL'.out.symm.trans hlen.2
  have gn4 : n' = 4 := GL.out.symm.trans glen.1
  have gm4 : m' = 4 := GL'.out.symm.trans glen.2
  subst hn4 hm4 gn4 gm4
  clear hv gv hlen glen j1 j2 ju jd
  generalize List.zipWith max us us' = JU at *
  generalize List.zipWith max ds ds' = JD at *
  go_enter Try.func21, Try.ntmps21
  go_wp2_with fail
  have HB : Hid (Below w.heap.size w ((w.alloc (.cells #[.slice a 4 cap, .slice b 4 cb] 27)).alloc (.cells #[.slice a' 4 cap', .slice b' 4 cb'] 27))) := (((Below.refl _ _).alloc (Nat.le_refl _) _).alloc (by simp) _)
  have cb1_0 : ((w.alloc (.cells #[.slice a 4 cap, .slice b 4 cb] 27)).alloc (.cells #[.slice a' 4 cap', .slice b' 4 cb'] 27)).cell? ⟨w.heap.size, 0, none⟩ = some (.slice a 4 cap) := by go_simp
  have cb1_1 : ((w.alloc (.cells #[.slice a 4 cap, .slice b 4 cb] 27)).alloc (.cells #[.slice a' 4 cap', .slice b' 4 cb'] 27)).cell? ⟨w.heap.size, 1, none⟩ = some (.slice b 4 cb) := by go_simp
  have zb1 : w.heap.size < ((w.alloc (.cells #[.slice a 4 cap, .slice b 4 cb] 27)).alloc (.cells #[.slice a' 4 cap', .slice b' 4 cb'] 27)).heap.size := by simp <;> omega
  have cb2_0 : ((w.alloc (.cells #[.slice a 4 cap, .slice b 4 cb] 27)).alloc (.cells #[.slice a' 4 cap', .slice b' 4 cb'] 27)).cell? ⟨w.heap.size + 1, 0, none⟩ = some (.slice a' 4 cap') := by go_simp
  have cb2_1 : ((w.alloc (.cells #[.slice a 4 cap, .slice b 4 cb] 27)).alloc (.cells #[.slice a' 4 cap', .slice b' 4 cb'] 27)).cell? ⟨w.heap.size + 1, 1, none⟩ = some (.slice b' 4 cb') := by go_simp
  have zb2 : w.heap.size + 1 < ((w.alloc (.cells #[.slice a 4 cap, .slice b 4 cb] 27)).alloc (.cells #[.slice a' 4 cap', .slice b' 4 cb'] 27)).heap.size := by simp
  have hsV0 : w.heap.size + 1 < ((w.alloc (.cells #[.slice a 4 cap, .slice b 4 cb] 27)).alloc (.cells #[.slice a' 4 cap', .slice b' 4 cb'] 27)).heap.size := by simp
  generalize ((w.alloc (.cells #[.slice a 4 cap, .slice b 4 cb] 27)).alloc (.cells #[.slice a' 4 cap', .slice b' 4 cb'] 27)) = V0 at *
  refine (HK.out _ HB.out).mono ?_
  rintro e w1 ⟨rfl, hb⟩
  have hsw1 : V0.heap.size ≤ w1.heap.size := hb.size
  replace cb1_0 := cells_of hb zb1 cb1_0
  replace cb1_1 := cells_of hb zb1 cb1_1
  replace zb1 := Nat.lt_of_lt_of_le zb1 hb.size
  replace cb2_0 := cells_of hb zb2 cb2_0
  replace cb2_1 := cells_of hb zb2 cb2_1
  replace zb2 := Nat.lt_of_lt_of_le zb2 hb.size
  replace HB := Lib.hid (below_step HB.out HB.out.size hb)
  clear hb
  go_wp2_with fail
  refine (HK'.out _ HB.out).mono ?_
  rintro e w2 ⟨rfl, hb⟩
  have hsw2 : w1.heap.size ≤ w2.heap.size := hb.size
  replace cb1_0 := cells_of hb zb1 cb1_0
  replace cb1_1 := cells_of hb zb1 cb1_1
  replace zb1 := Nat.lt_of_lt_of_le zb1 hb.size
  replace cb2_0 := cells_of hb zb2 cb2_0
  replace cb2_1 := cells_of hb zb2 cb2_1
  replace zb2 := Nat.lt_of_lt_of_le zb2 hb.size
  replace HB := Lib.hid (below_step HB.out HB.out.size hb)
  clear hb
  go_wp2_with fail
  refine (HJN.out _ HB.out).mono ?_
  rintro e w3 ⟨g, cp, g', cp', rfl, ho, hb⟩
  have hsw3 : w2.heap.size ≤ w3.heap.size := hb.size
  replace cb1_0 := cells_of hb zb1 cb1_0
  replace cb1_1 := cells_of hb zb1 cb1_1
  replace zb1 := Nat.lt_of_lt_of_le zb1 hb.size
  replace cb2_0 := cells_of hb zb2 cb2_0
  replace cb2_1 := cells_of hb zb2 cb2_1
  replace zb2 := Nat.lt_of_lt_of_le zb2 hb.size
  replace HB := Lib.hid (below_step HB.out HB.out.size hb)
  have HO := Lib.hid ho
  clear ho
  clear hb
  go_wp2_with fail
  have hA : Below w3.heap.size w3 (w3.alloc (.cells #[.slice g 4 cp, .slice g' 4 cp'] 27)) := (Below.refl _ _).alloc (Nat.le_refl _) _
  replace cb1_0 := cells_of hA zb1 cb1_0
  replace cb1_1 := cells_of hA zb1 cb1_1
  replace zb1 := Nat.lt_of_lt_of_le zb1 hA.size
  replace cb2_0 := cells_of hA zb2 cb2_0
  replace cb2_1 := cells_of hA zb2 cb2_1
  replace zb2 := Nat.lt_of_lt_of_le zb2 hA.size
  replace HO := Lib.hid (HO.out.below hA)
  replace HB := Lib.hid (below_step HB.out HB.out.size hA)
  clear hA
  have cbj_0 : (w3.alloc (.cells #[.slice g 4 cp, .slice g' 4 cp'] 27)).cell? ⟨w3.heap.size, 0, none⟩ = some (.slice g 4 cp) := by go_simp
  have cbj_1 : (w3.alloc (.cells #[.slice g 4 cp, .slice g' 4 cp'] 27)).cell? ⟨w3.heap.size, 1, none⟩ = some (.slice g' 4 cp') := by go_simp
  have zbj : w3.heap.size < (w3.alloc (.cells #[.slice g 4 cp, .slice g' 4 cp'] 27)).heap.size := by simp
  have hsV3 : w3.heap.size < (w3.alloc (.cells #[.slice g 4 cp, .slice g' 4 cp'] 27)).heap.size := by simp
  generalize (w3.alloc (.cells #[.slice g 4 cp, .slice g' 4 cp'] 27)) = V3 at *
  refine (l12Same_any _ _ 4 _ _ JU us' _ HLU.out GL.out (by omega) HO.out.isC.1 (GC.out.below HB.out).1).mono ?_
  rintro e w4 ⟨rfl, hb⟩
  have hsw4 : V3.heap.size ≤ w4.heap.size := hb.size
  replace cb1_0 := cells_of hb zb1 cb1_0
  replace cb1_1 := cells_of hb zb1 cb1_1
  replace zb1 := Nat.lt_of_lt_of_le zb1 hb.size
  replace cb2_0 := cells_of hb zb2 cb2_0
  replace cb2_1 := cells_of hb zb2 cb2_1
  replace zb2 := Nat.lt_of_lt_of_le zb2 hb.size
  replace HO := Lib.hid (HO.out.below hb)
  replace cbj_0 := cells_of hb zbj cbj_0
  replace cbj_1 := cells_of hb zbj cbj_1
  replace zbj := Nat.lt_of_lt_of_le zbj hb.size
  replace HB := Lib.hid (below_step HB.out HB.out.size hb)
  clear hb
  cases h1 : decide (JU = us')
  · have HF := Lib.hid (HJ.out.trans (by rw [h1, Bool.false_and]))
    clear h1
    go_wp2
    go_ret
    exact ⟨ret_bool HF.out.symm, HB.out⟩
  have HF : Hid (leqC us ds us' ds' = decide (JD = ds')) := HJ.out.trans (by rw [h1, Bool.true_and])
  clear h1
  go_wp2_with fail
  refine (l12Same_any _ _ 4 _ _ JD ds' _ HLD.out GL'.out (by omega) HO.out.isC.2 (GC.out.below HB.out).2).mono ?_
  rintro e w5 ⟨rfl, hb⟩
  have hsw5 : w4.heap.size ≤ w5.heap.size := hb.size
  replace cb1_0 := cells_of hb zb1 cb1_0
  replace cb1_1 := cells_of hb zb1 cb1_1
  replace zb1 := Nat.lt_of_lt_of_le zb1 hb.size
  replace cb2_0 := cells_of hb zb2 cb2_0
  replace cb2_1 := cells_of hb zb2 cb2_1
  replace zb2 := Nat.lt_of_lt_of_le zb2 hb.size
  replace HO := Lib.hid (HO.out.below hb)
  replace cbj_0 := cells_of hb zbj cbj_0
  replace cbj_1 := cells_of hb zbj cbj_1
  replace zbj := Nat.lt_of_lt_of_le zbj hb.size
  replace HB := Lib.hid (below_step HB.out HB.out.size hb)
  clear hb
  go_wp2
  go_ret
  exact ⟨ret_bool HF.out.symm, HB.out⟩

end Go.Proofs.Ythlkdlknkbigkaa
