/- Writes: contracts of szWrite, toWrite, eqWrite, valOk, tagWord. -/
import Derived.Test.YtlbcpppmpbbkdalDoorToDepS
import Derived.Test.YtlbcpppmpbbkdalDoorDepsOk2
import Derived.Test.YtlbcpppmpbbkdalDoorTagCmp
import Derived.Laws.BitsAllLaws
namespace Go.Proofs.YtlbcpppmpbbkdalDoor
open Go.ChangeShapes Go.WideShapes Go.ChangeAt Go.RowKit Go.Joins
attribute [local go_sem ↓] Go.wp_at_zero Go.wp_at_succ

theorem HoldsDeps.set {w : World} {b o : Nat} {xs : List Dp} {a : Addr} (h : HoldsDeps w b o xs) (hne : a.block ≠ b) (v : Value) : HoldsDeps (w.setCell a v) b o xs := by
  intro i hi
  obtain ⟨h0, h1, h2, h3⟩ := h i hi
  have hn : ∀ o', a ≠ ⟨b, o', none⟩ := fun o' e => hne (by rw [e])
  exact ⟨(World.cell?_setCell_other _ _ _ _ (hn _)).trans h0, (World.cell?_setCell_other _ _ _ _ (hn _)).trans h1, (World.cell?_setCell_other _ _ _ _ (hn _)).trans h2, (World.cell?_setCell_other _ _ _ _ (hn _)).trans h3⟩

abbrev wrV (k c s q v : Int) (de : Bool) (a : Option Addr) (len cap : Nat) : Value := .agg #[.int .i64 k, .int .i64 c, .int .i64 s, .int .i64 q, .int .i64 v, .bool de, .slice a len cap]

theorem szWrite_small (k c s q v : Int) (de : Bool) (a : Option Addr) (len cap : Nat) (left : Int) (w : World) (h0 : 0 ≤ left) (h1 : left ≤ 1048576) (h : (len : Int) ≤ left) :
    Calls Tryd.prog 17 #[wrV k c s q v de a len cap, .int .i64 left] w fun e w' => e = .returned (.int .i64 (left - len)) ∧ Below w.heap.size w w' := by
  go_enter Tryd.func17, Tryd.ntmps17
  go_wp2_with (go_at_call 35; refine (szDepS_small _ _ _ _ _ h0 h1 h).mono ?_; rintro e w' ⟨rfl, rfl⟩)
  go_ret
  exact ⟨rfl, (Below.refl _ _).alloc (Nat.le_refl _) _⟩

theorem szWrite_big (k c s q v : Int) (de : Bool) (a : Option Addr) (len cap : Nat) (left : Int) (w : World) (h0 : 0 ≤ left) (h1 : left ≤ 1048576) (h : left < (len : Int)) (hm : len ≤ maxLen) :
    Calls Tryd.prog 17 #[wrV k c s q v de a len cap, .int .i64 left] w fun e w' => e = .returned (.int .i64 (-1)) ∧ Below w.heap.size w w' := by
  go_enter Tryd.func17, Tryd.ntmps17
  go_wp2_with (go_at_call 35; refine (szDepS_big _ _ _ _ _ h0 h1 h hm).mono ?_; rintro e w' ⟨rfl, rfl⟩)
  go_ret
  exact ⟨rfl, (Below.refl _ _).alloc (Nat.le_refl _) _⟩

set_option maxHeartbeats 1000000 in
theorem toWrite_own (k c s q v : Int) (de : Bool) (a : Option Addr) (len cap : Nat) (xs : List Dp) (w : World) (hn : len ≤ 1048576) (hl : xs.length = len) (h : IsDeps w a xs) :
    Calls Tryd.prog 22 #[wrV k c s q v de a len cap] w fun e w' => ∃ g, e = .returned (wrV k c s q v de (some ⟨g, 0, none⟩) len len) ∧ w.heap.size ≤ g ∧ g < w'.heap.size ∧ HoldsDeps w' g 0 xs ∧ (∀ i, w'.frozen? ⟨g, i, none⟩ = false) ∧ Below w.heap.size w w' := by
  have HI : Hid (IsDeps w a xs) := h
  have HL : Hid (xs.length = len) := hl
  clear h hl
  go_enter Tryd.func22, Tryd.ntmps22
  go_wp2_with fail
  refine (toTag_any _ _ _ _).mono ?_
  rintro e w1 ⟨rfl, hb1⟩
  have HB1 : Hid (Below w.heap.size w w1) := below_step ((((Below.refl _ _).alloc (Nat.le_refl _) _).alloc (by simp) _).alloc (by simp; omega) _) (by simp; omega) hb1
  obtain ⟨hc, hf⟩ := bcell hb1
  have hz : w.heap.size + 1 + 1 < w1.heap.size := by have := hb1.size; simp at this; omega
  clear hb1
  have hz1 : w.heap.size + 1 < w1.heap.size := by omega
  go_wp2_with fail
  have HB1' : Hid (Below w.heap.size w (((((w1.setCell ⟨w.heap.size + 1 + 1, 1, none⟩ (.int .i64 c)).setCell ⟨w.heap.size + 1 + 1, 2, none⟩ (.int .i64 s)).setCell ⟨w.heap.size + 1 + 1, 3, none⟩ (.int .i64 q)).setCell ⟨w.heap.size + 1 + 1, 4, none⟩ (.int .i64 v)).setCell ⟨w.heap.size + 1 + 1, 5, none⟩ (.bool de))) :=
    ((((HB1.out.setCell (by simp; omega) _).setCell (by simp; omega) _).setCell (by simp; omega) _).setCell (by simp; omega) _).setCell (by simp; omega) _
  refine (toDepS_own _ _ _ xs _ hn HL.out (HI.out.below HB1'.out)).mono ?_
  rintro e w2 ⟨g, rfl, hg1, hg2, hg3, hg4, hb2⟩
  have HG : Hid (HoldsDeps w2 g 0 xs) := hg3
  have HZ : Hid (∀ i, w2.frozen? ⟨g, i, none⟩ = false) := hg4
  have HB2 : Hid (Below w.heap.size w w2) := below_step HB1'.out HB1'.out.size hb2
  have hz3 : w1.heap.size ≤ g := by simpa using hg1
  have hz2 : w.heap.size + 1 + 1 < w2.heap.size := by have := hb2.size; simp at this; omega
  obtain ⟨hc2, hf2⟩ := bcell hb2
  clear hb2 hg3 hg4 hg1 HB1' HB1
  go_wp2
  refine bodyPost_ret (v := wrV k c s q v de (some ⟨g, 0, none⟩) len len) (by simp [results, Tryd.results22, go_sem, hc, hc2, hz1]) rfl ⟨g, rfl, by omega, by simpa using hg2, ?_, ?_, ?_⟩
  · exact (((((((HG.out.set (by simp; omega) _).set (by simp; omega) _).set (by simp; omega) _).set (by simp; omega) _).set (by simp; omega) _).set (by simp; omega) _).set (by simp; omega) _).set (by simp; omega) _
  · exact fun i => by simp only [World.frozen?_setCell]; exact HZ.out i
  · exact (((((((HB2.out.setCell (by simp; omega) _).setCell (by simp) _).setCell (by simp) _).setCell (by simp) _).setCell (by simp) _).setCell (by simp) _).setCell (by simp) _).setCell (by simp) _

theorem toWrite_any (k c s q v : Int) (de : Bool) (a : Option Addr) (len cap : Nat) (xs : List Dp) (w : World) (hn : len ≤ 1048576) (hl : xs.length = len) (h : IsDeps w a xs) :
    Calls Tryd.prog 22 #[wrV k c s q v de a len cap] w fun e w' => ∃ g, e = .returned (wrV k c s q v de (some ⟨g, 0, none⟩) len len) ∧ w.heap.size ≤ g ∧ g < w'.heap.size ∧ HoldsDeps w' g 0 xs ∧ Below w.heap.size w w' :=
  (toWrite_own k c s q v de a len cap xs w hn hl h).mono fun _ _ ⟨g, h1, h2, h3, h4, _, h6⟩ => ⟨g, h1, h2, h3, h4, h6⟩

set_option maxHeartbeats 1000000 in
theorem eqWrite_gen (k c s q v : Int) (de : Bool) (a a' : Option Addr) (len cap cap' : Nat) (xs : List Dp) (w : World) (hn : len ≤ 1048576) (hl : xs.length = len) (hh : IsDeps w a xs) (hh' : IsDeps w a' xs) :
    Calls Tryd.prog 25 #[wrV k c s q v de a len cap, wrV k c s q v de a' len cap'] w fun e w' => e = .returned (.bool true) ∧ Below w.heap.size w w' := by
  have HH : Hid (IsDeps w a xs) := hh
  have HH' : Hid (IsDeps w a' xs) := hh'
  clear hh hh'
  subst hl
  cases de
  all_goals
    go_enter Tryd.func25, Tryd.ntmps25
    go_wp2_with fail
    refine (eqTag_same _ _ _ _).mono ?_
    rintro e w1 ⟨rfl, hb1⟩
    obtain ⟨hc, _⟩ := bcell hb1
    have HB1 : Hid (Below w.heap.size w w1) := below_step (((Below.refl _ _).alloc (Nat.le_refl _) _).alloc (by simp) _) (by simp; omega) hb1
    clear hb1
    go_wp2_with fail
    refine (eqDepS_gen _ _ xs _ _ _ hn (HH.out.below HB1.out) (HH'.out.below HB1.out)).mono ?_
    rintro e w2 ⟨rfl, hb2⟩
    have HB2 : Hid (Below w.heap.size w w2) := below_step HB1.out HB1.out.size hb2
    clear hb2 HB1
    go_wp2
    go_ret
    exact ⟨rfl, HB2.out⟩

theorem eqWrite_same (k c s q v : Int) (de : Bool) (g g' len cap cap' : Nat) (xs : List Dp) (w : World) (hn : len ≤ 1048576) (hl : xs.length = len) (hlt : g < w.heap.size) (hlt' : g' < w.heap.size) (hh : HoldsDeps w g 0 xs) (hh' : HoldsDeps w g' 0 xs) :
    Calls Tryd.prog 25 #[wrV k c s q v de (some ⟨g, 0, none⟩) len cap, wrV k c s q v de (some ⟨g', 0, none⟩) len cap'] w fun e w' => e = .returned (.bool true) ∧ Below w.heap.size w w' :=
  eqWrite_gen k c s q v de _ _ len cap cap' xs w hn hl (.inr ⟨g, 0, rfl, hlt, hh⟩) (.inr ⟨g', 0, rfl, hlt', hh'⟩)

def valOkB (v : Int) (de : Bool) : Bool := if de then v == 0 else btw v (-1000000) 1000000

theorem valOk_any (v : Int) (de : Bool) (w : World) :
    Calls Tryd.prog 63 #[.int .i64 v, .bool de] w fun e w' => e = .returned (.bool (valOkB v de)) ∧ w' = w := by
  cases de
  · go_enter Tryd.func63, Tryd.ntmps63
    go_wp2_with (go_at_call 73; refine (inRange_any _ _ _ _).mono ?_; rintro e w' ⟨rfl, rfl⟩)
    go_ret
    exact ⟨rfl, rfl⟩
  · go_enter Tryd.func63, Tryd.ntmps63
    go_wp2_with (go_at_call 73; refine (inRange_any _ _ _ _).mono ?_; rintro e w' ⟨rfl, rfl⟩)
    go_ret
    exact ⟨rfl, rfl⟩

theorem word_or (c s q : Int) (h1 : 1 ≤ c) (h2 : c ≤ 100000) (h3 : 0 ≤ s) (h4 : s ≤ 3) (h5 : 1 ≤ q) (h6 : q ≤ 1000) :
    bits BinOp.or IntKind.u64 (bits BinOp.or IntKind.u64 (c * 4096) (s * 1024)) q = c * 4096 + s * 1024 + q := by
  obtain ⟨c, rfl⟩ := Int.eq_ofNat_of_zero_le (show 0 ≤ c by omega)
  obtain ⟨s, rfl⟩ := Int.eq_ofNat_of_zero_le h3
  obtain ⟨q, rfl⟩ := Int.eq_ofNat_of_zero_le (show 0 ≤ q by omega)
  have e1 : bits BinOp.or IntKind.u64 ((c : Int) * 4096) ((s : Int) * 1024) = ((4096 * c + s * 1024 : Nat) : Int) := by
    rw [u64_or _ _ (by omega) (by omega) (by omega) (by omega), show ((c : Int) * 4096).toNat = 2 ^ 12 * c by omega, show ((s : Int) * 1024).toNat = s * 1024 by omega,
      ← Nat.two_pow_add_eq_or_of_lt (show s * 1024 < 2 ^ 12 by omega) c]
  rw [e1, u64_or _ _ (by omega) (by omega) (by omega) (by omega), Int.toNat_natCast, Int.toNat_natCast, show 4096 * c + s * 1024 = 2 ^ 10 * (4 * c + s) by omega,
    ← Nat.two_pow_add_eq_or_of_lt (show q < 2 ^ 10 by omega) (4 * c + s)]
  omega

set_option maxHeartbeats 400000 in
theorem tagWord_raw (c s q : Int) (w : World) (h1 : 1 ≤ c) (h2 : c ≤ 100000) (h3 : 0 ≤ s) (h4 : s ≤ 3) (h5 : 1 ≤ q) (h6 : q ≤ 1000) :
    Calls Tryd.prog 65 #[tagV c s q] w fun e w' => e = .returned (.int .u64 (c * 4096 + s * 1024 + q)) ∧ Below w.heap.size w w' := by
  have HE : Hid (bits BinOp.or IntKind.u64 (bits BinOp.or IntKind.u64 (c * 4096) (s * 1024)) q = c * 4096 + s * 1024 + q) := word_or c s q h1 h2 h3 h4 h5 h6
  go_enter Tryd.func65, Tryd.ntmps65
  go_wp2
  go_ret
  exact ⟨by rw [HE.out]; rfl, (Below.refl _ _).alloc (Nat.le_refl _) _⟩

theorem tagOk_bounds {c s q : Int} (h : tagOkB c s q = true) : 1 ≤ c ∧ c ≤ 100000 ∧ 0 ≤ s ∧ s ≤ 3 ∧ 1 ≤ q ∧ q ≤ 1000 := by
  unfold tagOkB btw at h
  simp only [Bool.and_eq_true, decide_eq_true_eq] at h
  omega

theorem tagWord_any (c s q : Int) (w : World) (h : tagOkB c s q = true) :
    Calls Tryd.prog 65 #[tagV c s q] w fun e w' => e = .returned (.int .u64 (c * 4096 + s * 1024 + q)) ∧ Below w.heap.size w w' := by
  obtain ⟨h1, h2, h3, h4, h5, h6⟩ := tagOk_bounds h
  exact tagWord_raw c s q w h1 h2 h3 h4 h5 h6

/-- The packed words stand as the tags do. -/
theorem word_order {c s q c' s' q' : Int} (h : tagOkB c s q = true) (h' : tagOkB c' s' q' = true) : (c' * 4096 + s' * 1024 + q' ≤ c * 4096 + s * 1024 + q) ↔ 0 ≤ tcmp c s q c' s' q' := by
  obtain ⟨h1, h2, h3, h4, h5, h6⟩ := tagOk_bounds h
  obtain ⟨g1, g2, g3, g4, g5, g6⟩ := tagOk_bounds h'
  unfold tcmp sgn
  by_cases e1 : c = c'
  · rw [if_neg (by simpa using e1)]
    by_cases e2 : s = s'
    · rw [if_neg (by simpa using e2)]
      split
      · omega
      · split <;> omega
    · rw [if_pos e2]
      split
      · omega
      · split <;> omega
  · rw [if_pos e1]
    split
    · omega
    · split <;> omega

end Go.Proofs.YtlbcpppmpbbkdalDoor
