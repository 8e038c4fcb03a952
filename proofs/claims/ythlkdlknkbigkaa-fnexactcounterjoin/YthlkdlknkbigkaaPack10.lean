import Derived.Test.YthlkdlknkbigkaaPack4
import Derived.Test.YthlkdlknkbigkaaPack9
/- Counters that come in, opened; copied, compared, sized, marked and looked at by the laws. -/
namespace Go.Proofs.Ythlkdlknkbigkaa
open Go.ChangeShapes Go.WideShapes Go.ChangeAt Go.RowKit Go.Joins Go.Deep
attribute [local go_sem ↓] Go.wp_at_zero Go.wp_at_succ
set_option maxRecDepth 100000

theorem cellsCounter : Try.prog.cellsOf 24 = 2 := by kernel_rfl

def CntIn (w : World) (a : Option Addr) (n : Nat) (b : Option Addr) (m : Nat) (us ds : List Int) : Prop := VecIn w a n us ∧ VecIn w b m ds

section
variable {H : Type} {enc : TypeId × Value → H} {w : World} {base : Nat} {held : Bool}

theorem open_counter {b0 : Nat} {r : Reach} {v : Value} {d : DataW H} {p : List MemPlace} (hv : Value.okWide Try.prog w r b0 24 v) (h : DataW.Trod enc Try.prog w base (fun _ => true) held 24 v d p) :
    ∃ (a : Option Addr) (n cap : Nat) (b : Option Addr) (m cb : Nat) (us ds : List Int), v = cntV a n cap b m cb ∧ CntIn w a n b m us ds := by
  obtain ⟨cs, rfl, hsz⟩ := okWide_struct Try.underlying24 hv
  rw [cellsCounter] at hsz
  obtain ⟨fuel, hf⟩ := h
  obtain ⟨xs', n, _, _, _, hlen, hfd⟩ := DataW.trod_struct Try.underlying24 hf
  cases cs with
  | mk l =>
    have hl : l.length = 2 := by simpa using hsz
    match l, hl, xs', hlen with
    | [v0, v1], _, [y0, y1], _ =>
      have g0 := hfd 0 _ rfl
      have g1 := hfd 1 _ rfl
      simp [Value.cells, cellsIntS] at g0 g1
      obtain ⟨a, n, cap, us, e0, hu⟩ := ints_cells g0
      obtain ⟨b, m, cb, ds, e1, hd⟩ := ints_cells g1
      simp at e0 e1
      subst e0 e1
      exact ⟨a, n, cap, b, m, cb, us, ds, rfl, hu, hd⟩

end

theorem szCounter_small (a : Option Addr) (n cap : Nat) (b : Option Addr) (m cb : Nat) (left : Int) (w : World) (h0 : 0 ≤ left) (h1 : left ≤ 1048576) (h : (n : Int) + m ≤ left) :
    Calls Try.prog 8 #[cntV a n cap b m cb, .int .i64 left] w fun e w' => e = .returned (.int .i64 (left - n - m)) ∧ Below w.heap.size w w' := by
  have k1 : ¬ left - (n : Int) < 0 := by omega
  have k2 : ¬ left - (n : Int) - (m : Int) < 0 := by omega
  go_enter Try.func8, Try.ntmps8
  go_wp2_with fail
  refine (szIntS_small _ _ _ _ _ h0 h1 (by omega)).mono ?_
  rintro e w1 ⟨rfl, rfl⟩
  go_wp2_with fail
  refine (szIntS_small _ _ _ _ _ (by omega) (by omega) (by omega)).mono ?_
  rintro e w1 ⟨rfl, rfl⟩
  go_wp2
  go_ret
  exact ⟨rfl, (Below.refl _ _).alloc (Nat.le_refl _) _⟩

theorem szCounter_big (a : Option Addr) (n cap : Nat) (b : Option Addr) (m cb : Nat) (left : Int) (w : World) (h0 : 0 ≤ left) (h1 : left ≤ 1048576) (h : left < (n : Int) + m) (hn : n ≤ maxLen) (hm : m ≤ maxLen) :
    Calls Try.prog 8 #[cntV a n cap b m cb, .int .i64 left] w fun e w' => e = .returned (.int .i64 (-1)) ∧ Below w.heap.size w w' := by
  by_cases hs : (n : Int) ≤ left
  · have k1 : ¬ left - (n : Int) < 0 := by omega
    go_enter Try.func8, Try.ntmps8
    go_wp2_with fail
    refine (szIntS_small _ _ _ _ _ h0 h1 hs).mono ?_
    rintro e w1 ⟨rfl, rfl⟩
    go_wp2_with fail
    refine (szIntS_big _ _ _ _ _ (by omega) (by omega) (by omega) hm).mono ?_
    rintro e w1 ⟨rfl, rfl⟩
    go_wp2
    go_ret
    exact ⟨rfl, (Below.refl _ _).alloc (Nat.le_refl _) _⟩
  · go_enter Try.func8, Try.ntmps8
    go_wp2_with fail
    refine (szIntS_big _ _ _ _ _ h0 h1 (by omega) hn).mono ?_
    rintro e w1 ⟨rfl, rfl⟩
    go_wp2
    go_ret
    exact ⟨rfl, (Below.refl _ _).alloc (Nat.le_refl _) _⟩

theorem OwnC.ints {w : World} {lo hi : Nat} {a b : Option Addr} {us ds : List Int} (h : OwnC w lo hi a b us ds) : IsInts w a us ∧ IsInts w b ds := by
  obtain ⟨l1, h1, l2, h2, k1, k2, k3, k4, k5, o1, o2⟩ := h
  exact ⟨o1.isInts, o2.isInts⟩

set_option maxHeartbeats 2000000 in
theorem toCounter_own (a : Option Addr) (n cap : Nat) (b : Option Addr) (m cb : Nat) (us ds : List Int) (w : World) (hl : us.length = n) (hn : n ≤ 1048576) (hl' : ds.length = m) (hm : m ≤ 1048576) (hh : IsC w a b us ds) :
    Calls Try.prog 10 #[cntV a n cap b m cb] w fun e w' => ∃ g g', e = .returned (cntV (some ⟨g, 0, none⟩) n n (some ⟨g', 0, none⟩) m m) ∧ OwnC w' w.heap.size w'.heap.size (some ⟨g, 0, none⟩) (some ⟨g', 0, none⟩) us ds ∧ Below w.heap.size w w' := by
  have HC := Lib.hid hh
  have HL := Lib.hid hl
  have HL' := Lib.hid hl'
  have hres : Try.f10.results = #[.cell 2 27] := by kernel_rfl
  clear hh hl hl'
  go_enter Try.func10, Try.ntmps10
  go_wp2_with fail
  have HB : Hid (Below w.heap.size w (((w.alloc (.cells #[.slice a n cap, .slice b m cb] 24)).alloc (.cells #[.slice none 0 0, .slice none 0 0] 27)).alloc (.cells #[.slice none 0 0, .slice none 0 0] 27))) := ((((Below.refl _ _).alloc (Nat.le_refl _) _).alloc (by simp) _).alloc (by simp <;> omega) _)
  have cb1_0 : (((w.alloc (.cells #[.slice a n cap, .slice b m cb] 24)).alloc (.cells #[.slice none 0 0, .slice none 0 0] 27)).alloc (.cells #[.slice none 0 0, .slice none 0 0] 27)).cell? ⟨w.heap.size, 0, none⟩ = some (.slice a n cap) := by go_simp
  have cb1_1 : (((w.alloc (.cells #[.slice a n cap, .slice b m cb] 24)).alloc (.cells #[.slice none 0 0, .slice none 0 0] 27)).alloc (.cells #[.slice none 0 0, .slice none 0 0] 27)).cell? ⟨w.heap.size, 1, none⟩ = some (.slice b m cb) := by go_simp
  have zb1 : w.heap.size < (((w.alloc (.cells #[.slice a n cap, .slice b m cb] 24)).alloc (.cells #[.slice none 0 0, .slice none 0 0] 27)).alloc (.cells #[.slice none 0 0, .slice none 0 0] 27)).heap.size := by simp <;> omega
  have cr_0 : (((w.alloc (.cells #[.slice a n cap, .slice b m cb] 24)).alloc (.cells #[.slice none 0 0, .slice none 0 0] 27)).alloc (.cells #[.slice none 0 0, .slice none 0 0] 27)).cell? ⟨w.heap.size + 1, 0, none⟩ = some (.slice none 0 0) := by go_simp
  have cr_1 : (((w.alloc (.cells #[.slice a n cap, .slice b m cb] 24)).alloc (.cells #[.slice none 0 0, .slice none 0 0] 27)).alloc (.cells #[.slice none 0 0, .slice none 0 0] 27)).cell? ⟨w.heap.size + 1, 1, none⟩ = some (.slice none 0 0) := by go_simp
  have zr : w.heap.size + 1 < (((w.alloc (.cells #[.slice a n cap, .slice b m cb] 24)).alloc (.cells #[.slice none 0 0, .slice none 0 0] 27)).alloc (.cells #[.slice none 0 0, .slice none 0 0] 27)).heap.size := by simp <;> omega
  have fr : Hid (∀ o, (((w.alloc (.cells #[.slice a n cap, .slice b m cb] 24)).alloc (.cells #[.slice none 0 0, .slice none 0 0] 27)).alloc (.cells #[.slice none 0 0, .slice none 0 0] 27)).frozen? ⟨w.heap.size + 1, o, none⟩ = false) := fun o => by go_simp
  have cx_0 : (((w.alloc (.cells #[.slice a n cap, .slice b m cb] 24)).alloc (.cells #[.slice none 0 0, .slice none 0 0] 27)).alloc (.cells #[.slice none 0 0, .slice none 0 0] 27)).cell? ⟨w.heap.size + 1 + 1, 0, none⟩ = some (.slice none 0 0) := by go_simp
  have cx_1 : (((w.alloc (.cells #[.slice a n cap, .slice b m cb] 24)).alloc (.cells #[.slice none 0 0, .slice none 0 0] 27)).alloc (.cells #[.slice none 0 0, .slice none 0 0] 27)).cell? ⟨w.heap.size + 1 + 1, 1, none⟩ = some (.slice none 0 0) := by go_simp
  have zx : w.heap.size + 1 + 1 < (((w.alloc (.cells #[.slice a n cap, .slice b m cb] 24)).alloc (.cells #[.slice none 0 0, .slice none 0 0] 27)).alloc (.cells #[.slice none 0 0, .slice none 0 0] 27)).heap.size := by simp
  have fx : Hid (∀ o, (((w.alloc (.cells #[.slice a n cap, .slice b m cb] 24)).alloc (.cells #[.slice none 0 0, .slice none 0 0] 27)).alloc (.cells #[.slice none 0 0, .slice none 0 0] 27)).frozen? ⟨w.heap.size + 1 + 1, o, none⟩ = false) := fun o => by go_simp
  have hsV0 : w.heap.size + 1 + 1 < (((w.alloc (.cells #[.slice a n cap, .slice b m cb] 24)).alloc (.cells #[.slice none 0 0, .slice none 0 0] 27)).alloc (.cells #[.slice none 0 0, .slice none 0 0] 27)).heap.size := by simp
  generalize (((w.alloc (.cells #[.slice a n cap, .slice b m cb] 24)).alloc (.cells #[.slice none 0 0, .slice none 0 0] 27)).alloc (.cells #[.slice none 0 0, .slice none 0 0] 27)) = V0 at *
  refine (toIntS_lt a n cap us _ HL.out hn (HC.out.below HB.out).1).mono ?_
  rintro e w1 ⟨rfl, hlt, ho, hb⟩
  have hsw1 : V0.heap.size ≤ w1.heap.size := hb.size
  replace cb1_0 := cells_of hb zb1 cb1_0
  replace cb1_1 := cells_of hb zb1 cb1_1
  replace zb1 := Nat.lt_of_lt_of_le zb1 hb.size
  replace fr := Lib.hid (fun o => (hb.frozen (p := ⟨w.heap.size + 1, o, none⟩) zr).trans (fr.out o))
  replace cr_0 := cells_of hb zr cr_0
  replace cr_1 := cells_of hb zr cr_1
  replace zr := Nat.lt_of_lt_of_le zr hb.size
  replace fx := Lib.hid (fun o => (hb.frozen (p := ⟨w.heap.size + 1 + 1, o, none⟩) zx).trans (fx.out o))
  replace cx_0 := cells_of hb zx cx_0
  replace cx_1 := cells_of hb zx cx_1
  replace zx := Nat.lt_of_lt_of_le zx hb.size
  replace HB := Lib.hid (below_step HB.out HB.out.size hb)
  have HO1 := Lib.hid ho
  clear hb ho
  have frx := fr.out
  have fxx := fx.out
  go_wp2_with fail
  replace HO1 := Lib.hid (HO1.out.aside (p := ⟨w.heap.size + 1 + 1, 0, none⟩) (by show w.heap.size + 1 + 1 < V0.heap.size; omega) (.slice (some ⟨V0.heap.size, 0, none⟩) n n))
  replace HB := Lib.hid (HB.out.setCell (p := ⟨w.heap.size + 1 + 1, 0, none⟩) (Nat.le_add_right _ 2) (.slice (some ⟨V0.heap.size, 0, none⟩) n n))
  replace cb1_0 : (w1.setCell ⟨w.heap.size + 1 + 1, 0, none⟩ (.slice (some ⟨V0.heap.size, 0, none⟩) n n)).cell? ⟨w.heap.size, 0, none⟩ = _ := (World.cell?_setCell_other w1 ⟨w.heap.size + 1 + 1, 0, none⟩ ⟨w.heap.size, 0, none⟩ _ (fun e => by injection e with e1 e2; omega)).trans cb1_0
  replace cb1_1 : (w1.setCell ⟨w.heap.size + 1 + 1, 0, none⟩ (.slice (some ⟨V0.heap.size, 0, none⟩) n n)).cell? ⟨w.heap.size, 1, none⟩ = _ := (World.cell?_setCell_other w1 ⟨w.heap.size + 1 + 1, 0, none⟩ ⟨w.heap.size, 1, none⟩ _ (fun e => by injection e with e1 e2; omega)).trans cb1_1
  replace cr_0 : (w1.setCell ⟨w.heap.size + 1 + 1, 0, none⟩ (.slice (some ⟨V0.heap.size, 0, none⟩) n n)).cell? ⟨w.heap.size + 1, 0, none⟩ = _ := (World.cell?_setCell_other w1 ⟨w.heap.size + 1 + 1, 0, none⟩ ⟨w.heap.size + 1, 0, none⟩ _ (fun e => by injection e with e1 e2; omega)).trans cr_0
  replace cr_1 : (w1.setCell ⟨w.heap.size + 1 + 1, 0, none⟩ (.slice (some ⟨V0.heap.size, 0, none⟩) n n)).cell? ⟨w.heap.size + 1, 1, none⟩ = _ := (World.cell?_setCell_other w1 ⟨w.heap.size + 1 + 1, 0, none⟩ ⟨w.heap.size + 1, 1, none⟩ _ (fun e => by injection e with e1 e2; omega)).trans cr_1
  replace cx_1 : (w1.setCell ⟨w.heap.size + 1 + 1, 0, none⟩ (.slice (some ⟨V0.heap.size, 0, none⟩) n n)).cell? ⟨w.heap.size + 1 + 1, 1, none⟩ = _ := (World.cell?_setCell_other w1 ⟨w.heap.size + 1 + 1, 0, none⟩ ⟨w.heap.size + 1 + 1, 1, none⟩ _ (fun e => by injection e with e1 e2; omega)).trans cx_1
  replace cx_0 : (w1.setCell ⟨w.heap.size + 1 + 1, 0, none⟩ (.slice (some ⟨V0.heap.size, 0, none⟩) n n)).cell? ⟨w.heap.size + 1 + 1, 0, none⟩ = some (.slice (some ⟨V0.heap.size, 0, none⟩) n n) := World.cell?_setCell_same _ _ _ cx_0
  replace fr : Hid (∀ o, (w1.setCell ⟨w.heap.size + 1 + 1, 0, none⟩ (.slice (some ⟨V0.heap.size, 0, none⟩) n n)).frozen? ⟨w.heap.size + 1, o, none⟩ = false) := fun o => (World.frozen?_setCell _ _ _ _).trans (frx o)
  replace fx : Hid (∀ o, (w1.setCell ⟨w.heap.size + 1 + 1, 0, none⟩ (.slice (some ⟨V0.heap.size, 0, none⟩) n n)).frozen? ⟨w.heap.size + 1 + 1, o, none⟩ = false) := fun o => (World.frozen?_setCell _ _ _ _).trans (fxx o)
  have hs1 : (w1.setCell ⟨w.heap.size + 1 + 1, 0, none⟩ (.slice (some ⟨V0.heap.size, 0, none⟩) n n)).heap.size = w1.heap.size := by simp
  replace zb1 : w.heap.size < (w1.setCell ⟨w.heap.size + 1 + 1, 0, none⟩ (.slice (some ⟨V0.heap.size, 0, none⟩) n n)).heap.size := by omega
  replace zr : w.heap.size + 1 < (w1.setCell ⟨w.heap.size + 1 + 1, 0, none⟩ (.slice (some ⟨V0.heap.size, 0, none⟩) n n)).heap.size := by omega
  replace zx : w.heap.size + 1 + 1 < (w1.setCell ⟨w.heap.size + 1 + 1, 0, none⟩ (.slice (some ⟨V0.heap.size, 0, none⟩) n n)).heap.size := by omega
  have hlt2 : V0.heap.size < (w1.setCell ⟨w.heap.size + 1 + 1, 0, none⟩ (.slice (some ⟨V0.heap.size, 0, none⟩) n n)).heap.size := by rw [hs1]; exact hlt
  clear frx fxx hs1 hlt
  generalize (w1.setCell ⟨w.heap.size + 1 + 1, 0, none⟩ (.slice (some ⟨V0.heap.size, 0, none⟩) n n)) = W1 at *
  refine (toIntS_lt b m cb ds _ HL'.out hm (HC.out.below HB.out).2).mono ?_
  rintro e w2 ⟨rfl, hlt, ho, hb⟩
  have hsw2 : W1.heap.size ≤ w2.heap.size := hb.size
  replace cb1_0 := cells_of hb zb1 cb1_0
  replace cb1_1 := cells_of hb zb1 cb1_1
  replace zb1 := Nat.lt_of_lt_of_le zb1 hb.size
  replace fr := Lib.hid (fun o => (hb.frozen (p := ⟨w.heap.size + 1, o, none⟩) zr).trans (fr.out o))
  replace cr_0 := cells_of hb zr cr_0
  replace cr_1 := cells_of hb zr cr_1
  replace zr := Nat.lt_of_lt_of_le zr hb.size
  replace fx := Lib.hid (fun o => (hb.frozen (p := ⟨w.heap.size + 1 + 1, o, none⟩) zx).trans (fx.out o))
  replace cx_0 := cells_of hb zx cx_0
  replace cx_1 := cells_of hb zx cx_1
  replace zx := Nat.lt_of_lt_of_le zx hb.size
  replace HO1 := Lib.hid (HO1.out.below hb)
  replace HB := Lib.hid (below_step HB.out HB.out.size hb)
  have HO2 := Lib.hid ho
  clear hb ho
  have frx := fr.out
  have fxx := fx.out
  have HOC : Hid (OwnC w2 V0.heap.size w2.heap.size (some ⟨V0.heap.size, 0, none⟩) (some ⟨W1.heap.size, 0, none⟩) us ds) := ⟨_, _, _, _, Nat.le_refl _, by omega, by omega, by omega, .inl (by omega), HO1.out, HO2.out⟩
  clear HO1 HO2
  go_wp2
  refine bodyPost_ret (v := cntV (some ⟨V0.heap.size, 0, none⟩) n n (some ⟨W1.heap.size, 0, none⟩) m m) ?_ rfl ?_
  · simp only [results, hres]
    go_simp
  · refine ⟨V0.heap.size, W1.heap.size, rfl, ?_, ?_⟩
    · exact (((HOC.out.aside (p := ⟨w.heap.size + 1 + 1, 1, none⟩) (by show w.heap.size + 1 + 1 < V0.heap.size; omega) _).aside (p := ⟨w.heap.size + 1, 0, none⟩) (by show w.heap.size + 1 < V0.heap.size; omega) _).aside (p := ⟨w.heap.size + 1, 1, none⟩) (by show w.heap.size + 1 < V0.heap.size; omega) _).wider (by omega) (by simp)
    · exact ((HB.out.setCell (p := ⟨w.heap.size + 1 + 1, 1, none⟩) (Nat.le_add_right _ 2) _).setCell (p := ⟨w.heap.size + 1, 0, none⟩) (Nat.le_add_right _ 1) _).setCell (p := ⟨w.heap.size + 1, 1, none⟩) (Nat.le_add_right _ 1) _

theorem eqCounter_same (a : Option Addr) (n cap : Nat) (b : Option Addr) (m cb : Nat) (a' : Option Addr) (cap' : Nat) (b' : Option Addr) (cb' : Nat) (us ds : List Int) (w : World) (hl : us.length = n) (hn : n ≤ 1048576) (hl' : ds.length = m) (hm : m ≤ 1048576) (hh : IsInts w a us ∧ IsInts w b ds) (hg : IsInts w a' us ∧ IsInts w b' ds) :
    Calls Try.prog 12 #[cntV a n cap b m cb, cntV a' n cap' b' m cb'] w fun e w' => e = .returned (.bool true) ∧ Below w.heap.size w w' := by
  have HH := Lib.hid hh
  have HG := Lib.hid hg
  have HL := Lib.hid hl
  have HL' := Lib.hid hl'
  clear hh hg hl hl'
  go_enter Try.func12, Try.ntmps12
  go_wp2_with fail
  have HB : Hid (Below w.heap.size w ((w.alloc (.cells #[.slice a n cap, .slice b m cb] 27)).alloc (.cells #[.slice a' n cap', .slice b' m cb'] 27))) := (((Below.refl _ _).alloc (Nat.le_refl _) _).alloc (by simp) _)
  have cb1_0 : ((w.alloc (.cells #[.slice a n cap, .slice b m cb] 27)).alloc (.cells #[.slice a' n cap', .slice b' m cb'] 27)).cell? ⟨w.heap.size, 0, none⟩ = some (.slice a n cap) := by go_simp
  have cb1_1 : ((w.alloc (.cells #[.slice a n cap, .slice b m cb] 27)).alloc (.cells #[.slice a' n cap', .slice b' m cb'] 27)).cell? ⟨w.heap.size, 1, none⟩ = some (.slice b m cb) := by go_simp
  have zb1 : w.heap.size < ((w.alloc (.cells #[.slice a n cap, .slice b m cb] 27)).alloc (.cells #[.slice a' n cap', .slice b' m cb'] 27)).heap.size := by simp <;> omega
  have cb2_0 : ((w.alloc (.cells #[.slice a n cap, .slice b m cb] 27)).alloc (.cells #[.slice a' n cap', .slice b' m cb'] 27)).cell? ⟨w.heap.size + 1, 0, none⟩ = some (.slice a' n cap') := by go_simp
  have cb2_1 : ((w.alloc (.cells #[.slice a n cap, .slice b m cb] 27)).alloc (.cells #[.slice a' n cap', .slice b' m cb'] 27)).cell? ⟨w.heap.size + 1, 1, none⟩ = some (.slice b' m cb') := by go_simp
  have zb2 : w.heap.size + 1 < ((w.alloc (.cells #[.slice a n cap, .slice b m cb] 27)).alloc (.cells #[.slice a' n cap', .slice b' m cb'] 27)).heap.size := by simp
  have hsV0 : w.heap.size + 1 < ((w.alloc (.cells #[.slice a n cap, .slice b m cb] 27)).alloc (.cells #[.slice a' n cap', .slice b' m cb'] 27)).heap.size := by simp
  generalize ((w.alloc (.cells #[.slice a n cap, .slice b m cb] 27)).alloc (.cells #[.slice a' n cap', .slice b' m cb'] 27)) = V0 at *
  refine (eqIntS_same a a' n cap cap' us _ HL.out hn (HH.out.1.below HB.out) (HG.out.1.below HB.out)).mono ?_
  rintro e w1 ⟨rfl, hb⟩
  have hsw1 : V0.heap.size ≤ w1.heap.size := hb.size
  replace cb1_0 := cells_of hb zb1 cb1_0
  replace cb1_1 := cells_of hb zb1 cb1_1
  replace zb1 := Nat.lt_of_lt_of_le zb1 hb.size
  replace cb2_0 := cells_of hb zb2 cb2_0
  replace cb2_1 := cells_of hb zb2 cb2_1
  replace zb2 := Nat.lt_of_lt_of_le zb2 hb.size
  replace HB := Lib.hid (below_step HB.out HB.out.size hb)
  clear hb
  go_wp2_with fail
  refine (eqIntS_same b b' m cb cb' ds _ HL'.out hm (HH.out.2.below HB.out) (HG.out.2.below HB.out)).mono ?_
  rintro e w2 ⟨rfl, hb⟩
  have hsw2 : w1.heap.size ≤ w2.heap.size := hb.size
  replace cb1_0 := cells_of hb zb1 cb1_0
  replace cb1_1 := cells_of hb zb1 cb1_1
  replace zb1 := Nat.lt_of_lt_of_le zb1 hb.size
  replace cb2_0 := cells_of hb zb2 cb2_0
  replace cb2_1 := cells_of hb zb2 cb2_1
  replace zb2 := Nat.lt_of_lt_of_le zb2 hb.size
  replace HB := Lib.hid (below_step HB.out HB.out.size hb)
  clear hb
  go_wp2
  go_ret
  exact ⟨rfl, HB.out⟩

/-- A counter that is marked. -/
def MarkedC (w : World) (a : Option Addr) (n : Nat) (b : Option Addr) (m : Nat) (k : Int) : Prop := MarkedI w a n k ∧ MarkedI w b m (k + n)

theorem MarkedC.below {w w' : World} {a : Option Addr} {n : Nat} {b : Option Addr} {m : Nat} {k : Int} (h : MarkedC w a n b m k) (hb : Below w.heap.size w w') : MarkedC w' a n b m k := ⟨h.1.below hb, h.2.below hb⟩

theorem marked_only {S : Nat → Prop} {w w' : World} {a : Option Addr} {n : Nat} {k : Int} {lo hi : Nat} (h : MarkedI w a n k) (hr : n = 0 ∨ ∃ c, a = some ⟨c, 0, none⟩ ∧ lo ≤ c ∧ c < hi) (ho : Only S w w') (hS : ∀ x, S x → x < lo ∨ hi ≤ x) : MarkedI w' a n k := by
  rcases h with h | ⟨b, hb, hlt, hc⟩
  · exact .inl h
  · rcases hr with hr | ⟨c, he, h1, h2⟩
    · exact .inl hr
    · rw [hb] at he
      injection he with he
      injection he with he
      subst he
      exact .inr ⟨b, hb, by rw [ho.size]; exact hlt, hc.of_block (ho.block b fun e => by have := hS b e; omega)⟩

theorem own_range {w : World} {lo hi : Nat} {a : Option Addr} {zs : List Int} (h : OwnI w lo hi a zs) : zs.length = 0 ∨ ∃ c, a = some ⟨c, 0, none⟩ ∧ lo ≤ c ∧ c < hi := by
  rcases h with h | ⟨b, ha, h1, h2, -⟩
  · exact .inl (by rw [h]; rfl)
  · exact .inr ⟨b, ha, h1, h2⟩

theorem only_wider {S T : Nat → Prop} {w w' : World} (h : Only S w w') (hS : ∀ x, S x → T x) : Only T w w' := ⟨h.os, h.tape, h.output, h.size, fun b hb => h.block b fun e => hb (hS b e), h.frozen⟩

theorem own_only2 {S : Nat → Prop} {w w' : World} {lo hi : Nat} {a : Option Addr} {zs : List Int} (h : OwnI w lo hi a zs) (ho : Only S w w') (hS : ∀ x, S x → x < lo ∨ hi ≤ x) : OwnI w' lo hi a zs := by
  rcases h with h | ⟨b, ha, h1, h2, hlt, hh, hf⟩
  · exact .inl h
  · have hb : w'.heap[b]? = w.heap[b]? := ho.block b fun e => by have := hS b e; omega
    exact .inr ⟨b, ha, h1, h2, by rw [ho.size]; exact hlt, fun i hi => (World.cell?_of_block (a := ⟨b, i, none⟩) hb).trans (hh i hi), fun o => (ho.frozen _).trans (hf o)⟩

set_option maxHeartbeats 2000000 in
theorem markCounter_any (lo hi n cap : Nat) (a : Option Addr) (m cb : Nat) (b : Option Addr) (k : Int) (us ds : List Int) (w : World) (hl : us.length = n) (hn : n ≤ 1048576) (hl' : ds.length = m) (hm : m ≤ 1048576) (h0 : 0 ≤ k) (h1 : k ≤ 1099510000000) (hhi : hi ≤ w.heap.size) (ho : OwnC w lo hi a b us ds) :
    Calls Try.prog 15 #[cntV a n cap b m cb, .int .i64 k] w fun e w' => e = .returned (.int .i64 (k + n + m)) ∧ MarkedC w' a n b m k ∧ Only (fun x => lo ≤ x ∧ x < hi) (w.alloc (.cells #[.slice a n cap, .slice b m cb] 27)) w' := by
  obtain ⟨l1, h1', l2, h2', k1, k2, k3, k4, k5, o1, o2⟩ := ho
  have hA : Below w.heap.size w (w.alloc (.cells #[.slice a n cap, .slice b m cb] 27)) := (Below.refl _ _).alloc (Nat.le_refl _) _
  have HO1 := Lib.hid (o1.below hA)
  have HO2 := Lib.hid (o2.below hA)
  have hr := own_range o1
  rw [hl] at hr
  have HR := Lib.hid hr
  have HL := Lib.hid hl
  have HL' := Lib.hid hl'
  have c1 : (w.alloc (.cells #[.slice a n cap, .slice b m cb] 27)).cell? ⟨w.heap.size, 1, none⟩ = some (.slice b m cb) := by go_simp
  have HC1 := Lib.hid c1
  clear hl hl' o1 o2 hA hr c1
  go_enter Try.func15, Try.ntmps15
  go_wp2_with fail
  refine (markIntS_any l1 h1' n cap a k us _ HL.out hn h0 (by omega) HO1.out).mono ?_
  rintro e w1 ⟨rfl, hmk, hon⟩
  have HM1 := Lib.hid hmk
  have HON := Lib.hid hon
  have HO2' := Lib.hid (own_only2 HO2.out hon (fun x hx => by omega))
  have c1 : w1.cell? ⟨w.heap.size, 1, none⟩ = some (.slice b m cb) := (World.cell?_of_block (a := ⟨w.heap.size, 1, none⟩) (hon.block w.heap.size (fun e => by omega))).trans HC1.out
  clear hmk hon HO1 HO2
  go_wp2_with fail
  refine (markIntS_any l2 h2' m cb b (k + n) ds _ HL'.out hm (by omega) (by omega) HO2'.out).mono ?_
  rintro e w2 ⟨rfl, hmk, hon⟩
  have HM2 := Lib.hid hmk
  have HM1' := Lib.hid (marked_only HM1.out HR.out hon (fun x hx => by omega))
  have HON2 : Hid (Only (fun x => lo ≤ x ∧ x < hi) (w.alloc (.cells #[.slice a n cap, .slice b m cb] 27)) w2) := (only_wider HON.out (T := fun x => lo ≤ x ∧ x < hi) (fun x hx => by omega)).trans (only_wider hon (T := fun x => lo ≤ x ∧ x < hi) (fun x hx => by omega)) (fun _ h => h)
  clear hmk hon HON HO2' HM1
  go_wp2
  go_ret
  exact ⟨rfl, ⟨HM1'.out, HM2.out⟩, HON2.out⟩

theorem heldCounter_any (n cap : Nat) (a : Option Addr) (m cb : Nat) (b : Option Addr) (k : Int) (w : World) (hn : n ≤ 1048576) (hm : m ≤ 1048576) (h0 : 0 ≤ k) (h1 : k ≤ 1099510000000) (ho : MarkedC w a n b m k) :
    Calls Try.prog 16 #[cntV a n cap b m cb, .int .i64 k] w fun e w' => e = .returned (.int .i64 (k + n + m)) ∧ Below w.heap.size w w' := by
  have HB : Hid (Below w.heap.size w (w.alloc (.cells #[.slice a n cap, .slice b m cb] 27))) := (Below.refl _ _).alloc (Nat.le_refl _) _
  have HO := Lib.hid (ho.below HB.out)
  clear ho
  have hk : ¬ k + (n : Int) < 0 := by omega
  have hk2 : ¬ k + (n : Int) + (m : Int) < 0 := by omega
  go_enter Try.func16, Try.ntmps16
  go_wp2_with fail
  refine (heldIntS_any n cap a k _ hn h0 (by omega) HO.out.1).mono ?_
  rintro e w1 ⟨rfl, rfl⟩
  go_wp2_with fail
  refine (heldIntS_any m cb b (k + n) _ hm (by omega) (by omega) HO.out.2).mono ?_
  rintro e w1 ⟨rfl, rfl⟩
  go_wp2
  go_ret
  exact ⟨rfl, HB.out⟩

end Go.Proofs.Ythlkdlknkbigkaa

/- What the laws' walks over counters carry: facts of slots in regions that draw their order, and what stays while a list is marked or a box is written to. -/
namespace Go.Proofs.Ythlkdlknkbigkaa
open Go.ChangeShapes Go.WideShapes Go.ChangeAt Go.RowKit Go.Joins

/-- A counter of one's own. -/
def CtrF (B n m : Nat) (us ds : List Int) : Fact := fun v w => ∃ g h, v = cntV (some ⟨g, 0, none⟩) n n (some ⟨h, 0, none⟩) m m ∧ OwnC w B w.heap.size (some ⟨g, 0, none⟩) (some ⟨h, 0, none⟩) us ds

theorem lasts_ctrF (B n m : Nat) (us ds : List Int) : lasts LowR (CtrF B n m us ds) := by
  rintro v w w' ⟨g, h, h1, h2⟩ hr
  exact ⟨g, h, h1, (h2.below hr).wider (Nat.le_refl _) hr.size⟩

/-- A counter that is answered. -/
def AnsC (B : Nat) (us ds : List Int) : Fact := fun v w => ∃ g cp h cq, v = cntV g us.length cp h ds.length cq ∧ OwnC w B w.heap.size g h us ds

theorem lasts_ansC (B : Nat) (us ds : List Int) : lasts LowR (AnsC B us ds) := by
  rintro v w w' ⟨g, cp, h, cq, h1, h2⟩ hr
  exact ⟨g, cp, h, cq, h1, (h2.below hr).wider (Nat.le_refl _) hr.size⟩

theorem own_markedC {S : Nat → Prop} {w w' : World} {o : Obj} {lo hi : Nat} {a b : Option Addr} {us ds : List Int} (ho : Only S (w.alloc o) w') (h : OwnC w lo hi a b us ds) (hS : ∀ x, S x → x < lo ∨ hi ≤ x) : OwnC w' lo hi a b us ds := by
  obtain ⟨l1, h1, l2, h2, k1, k2, k3, k4, k5, o1, o2⟩ := h
  exact ⟨l1, h1, l2, h2, k1, k2, k3, k4, k5, own_marked ho o1 (fun x hx => by have := hS x hx; omega), own_marked ho o2 (fun x hx => by have := hS x hx; omega)⟩

theorem cell2 {w : World} {b c off : Nat} {v u x : Value} (hb : ¬ c = b) (h : w.cell? ⟨c, off, none⟩ = some x) : ((w.setCell ⟨b, 0, none⟩ v).setCell ⟨b, 1, none⟩ u).cell? ⟨c, off, none⟩ = some x :=
  (World.cell?_setCell_other _ _ _ _ (fun e => by injection e; omega)).trans ((World.cell?_setCell_other _ _ _ _ (fun e => by injection e; omega)).trans h)

theorem OwnC.far2 {w : World} {lo hi c : Nat} {a b : Option Addr} {us ds : List Int} (h : OwnC w lo hi a b us ds) (hc : c < lo ∨ hi ≤ c) (v u : Value) : OwnC ((w.setCell ⟨c, 0, none⟩ v).setCell ⟨c, 1, none⟩ u) lo hi a b us ds := by
  obtain ⟨l1, h1, l2, h2, k1, k2, k3, k4, k5, o1, o2⟩ := h
  exact ⟨l1, h1, l2, h2, k1, k2, k3, k4, k5, own_far (p := ⟨c, 1, none⟩) (own_far (p := ⟨c, 0, none⟩) o1 (by show c < _ ∨ _ ≤ c; omega) v) (by show c < _ ∨ _ ≤ c; omega) u, own_far (p := ⟨c, 1, none⟩) (own_far (p := ⟨c, 0, none⟩) o2 (by show c < _ ∨ _ ≤ c; omega) v) (by show c < _ ∨ _ ≤ c; omega) u⟩

theorem OwnC.off2 {w : World} {lo hi c : Nat} {a b s : Option Addr} {n m : Nat} {us ds : List Int} (h : OwnC w lo hi a b us ds) (hb : w.heap[c]? = some (.cells #[.slice none 0 0, .slice none 0 0] 27 (0, 0))) (u : Value) : OwnC ((w.setCell ⟨c, 0, none⟩ (.slice s n m)).setCell ⟨c, 1, none⟩ u) lo hi a b us ds := by
  obtain ⟨l1, h1, l2, h2, k1, k2, k3, k4, k5, o1, o2⟩ := h
  exact ⟨l1, h1, l2, h2, k1, k2, k3, k4, k5, own_off (own_off o1 (fun _ _ e => by cases e) hb 0 _) (fun _ _ e => by cases e) (two_setCell0 hb) 1 _, own_off (own_off o2 (fun _ _ e => by cases e) hb 0 _) (fun _ _ e => by cases e) (two_setCell0 hb) 1 _⟩

theorem mk_far {w : World} {c B : Nat} {a : Option Addr} {n : Nat} {k : Int} {p : Addr} (h : MarkedI w a n k) (hl : ∀ c, a = some ⟨c, 0, none⟩ → n ≠ 0 → c < B) (hc : B ≤ c) (hp : p.block = c) (v : Value) : MarkedI (w.setCell p v) a n k := by
  rcases h with h | ⟨b, hb, hlt, hcs⟩
  · exact .inl h
  · by_cases hn : n = 0
    · exact .inl hn
    · have := hl b hb hn
      exact .inr ⟨b, hb, by simpa using hlt, hcs.of_block (Below.heap_setCell _ _ _ _ (by show b ≠ p.block; omega))⟩

/-- All that is marked lies below B. -/
def LowC (B : Nat) (a : Option Addr) (n : Nat) (b : Option Addr) (m : Nat) : Prop := (∀ c, a = some ⟨c, 0, none⟩ → n ≠ 0 → c < B) ∧ ∀ c, b = some ⟨c, 0, none⟩ → m ≠ 0 → c < B

theorem mk_ltC {w : World} {a : Option Addr} {n : Nat} {b : Option Addr} {m : Nat} {k : Int} (h : MarkedC w a n b m k) : LowC w.heap.size a n b m := ⟨mk_lt h.1, mk_lt h.2⟩

theorem MarkedC.far2 {w : World} {c B : Nat} {a : Option Addr} {n : Nat} {b : Option Addr} {m : Nat} {k : Int} (h : MarkedC w a n b m k) (hl : LowC B a n b m) (hc : B ≤ c) (v u : Value) : MarkedC ((w.setCell ⟨c, 0, none⟩ v).setCell ⟨c, 1, none⟩ u) a n b m k :=
  ⟨mk_far (p := ⟨c, 1, none⟩) (mk_far (p := ⟨c, 0, none⟩) h.1 hl.1 hc rfl v) hl.1 hc rfl u, mk_far (p := ⟨c, 1, none⟩) (mk_far (p := ⟨c, 0, none⟩) h.2 hl.2 hc rfl v) hl.2 hc rfl u⟩

theorem low2 {w w' : World} {B b : Nat} (h : Below B w w') (hb : B ≤ b) (v u : Value) : Below B w ((w'.setCell ⟨b, 0, none⟩ v).setCell ⟨b, 1, none⟩ u) := (h.setCell (p := ⟨b, 0, none⟩) hb v).setCell (p := ⟨b, 1, none⟩) hb u

theorem cj_len (us ds us' ds' : List Int) : (cjU us ds us' ds').length ≤ 4 ∧ (cjD us ds us' ds').length ≤ 4 := by
  cases h : (cntB us ds && cntB us' ds')
  · rw [(cj_bad h).1, (cj_bad h).2]
    simp
  · rw [Bool.and_eq_true] at h
    rw [(cj_good h.1 h.2).1, (cj_good h.1 h.2).2]
    obtain ⟨x0, x1, x2, x3, y0, y1, y2, y3, rfl, rfl, -⟩ := cntB_four h.1
    simp
    omega

theorem ca_len (us ds : List Int) (si n : Int) : (caU us ds si n).length ≤ 4 ∧ (caD us ds si n).length ≤ 4 := by
  cases h : addOk us ds si n
  · rw [(ca_bad h).1, (ca_bad h).2]
    simp
  · rw [(ca_good h).1, (ca_good h).2]
    unfold addOk at h
    rw [Bool.and_eq_true] at h
    obtain ⟨x0, x1, x2, x3, y0, y1, y2, y3, rfl, rfl, -⟩ := cntB_four h.1
    unfold addU addD
    split <;> simp

end Go.Proofs.Ythlkdlknkbigkaa
