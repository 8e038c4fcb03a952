/- Writes: contracts of szWrite, toWrite, eqWrite, valOk, tagWord. -/
import Derived.Test.YtlbcpppmpbbkdalToDepS
import Derived.Test.YtlbcpppmpbbkdalDepsOk2
import Derived.Test.YtlbcpppmpbbkdalTagCmp
import Derived.Laws.BitsAllLaws
namespace Go.Proofs.Ytlbcpppmpbbkdal
open Go.ChangeShapes Go.WideShapes Go.ChangeAt Go.RowKit Go.Joins
attribute [local go_sem ↓] Go.wp_at_zero Go.wp_at_succ

theorem HoldsDeps.set {w : World} {b o : Nat} {xs : List Dp} {a : Addr} (h : HoldsDeps w b o xs) (hne : a.block ≠ b) (v : Value) : HoldsDeps (w.setCell a v) b o xs := by
  intro i hi
  obtain ⟨h0, h1, h2, h3⟩ := h i hi
  have hn : ∀ o', a ≠ ⟨b, o', none⟩ := fun o' e => hne (by rw [e])
  exact ⟨(World.cell?_setCell_other _ _ _ _ (hn _)).trans h0, (World.cell?_setCell_other _ _ _ _ (hn _)).trans h1, (World.cell?_setCell_other _ _ _ _ (hn _)).trans h2, (World.cell?_setCell_other _ _ _ _ (hn _)).trans h3⟩

abbrev wrV (k c s q v : Int) (de : Bool) (a : Option Addr) (len cap : Nat) : Value := .agg #[.int .i64 k, .int .i64 c, .int .i64 s, .int .i64 q, .int .i64 v, .bool de, .slice a len cap]

set_option maxHeartbeats 1000000 in
theorem eqWrite_gen (k c s q v : Int) (de : Bool) (a a' : Option Addr) (len cap cap' : Nat) (xs : List Dp) (w : World) (hn : len ≤ 1048576) (hl : xs.length = len) (hh : IsDeps w a xs) (hh' : IsDeps w a' xs) :
    Calls Try.prog 34 #[wrV k c s q v de a len cap, wrV k c s q v de a' len cap'] w fun e w' => e = .returned (.bool true) ∧ Below w.heap.size w w' := by
  have HH : Hid (IsDeps w a xs) := hh
  have HH' : Hid (IsDeps w a' xs) := hh'
  clear hh hh'
  subst hl
  cases de
  all_goals
    go_enter Try.func34, Try.ntmps34
    go_wp2_with fail
    refine (eqTag_same _ _ _ _).mono ?_
    rintro e w1 ⟨rfl, hb1⟩
    obtain ⟨hc, _⟩ := bcell hb1
    have HB1 : Hid (Below w.heap.size w w1) := below_step (((Below.refl _ _).alloc (Nat.le_refl _) _).alloc (by simp) _) (by simp; omega) hb1
    clear hb1
    go_wp2_with fail
    refine (eqDepS_gen _ _ xs _ _ _ hn (HH.out.below HB1.out) (HH'.out.below HB1.out)).mono ?_
    rintro e w2 ⟨rfl, hb2⟩
    have HB2 : Hid (Below w.heap.size w w2) := below_step HB1.out HB1.out.size hb2
    clear hb2 HB1
    go_wp2
    go_ret
    exact ⟨rfl, HB2.out⟩

theorem eqWrite_same (k c s q v : Int) (de : Bool) (g g' len cap cap' : Nat) (xs : List Dp) (w : World) (hn : len ≤ 1048576) (hl : xs.length = len) (hlt : g < w.heap.size) (hlt' : g' < w.heap.size) (hh : HoldsDeps w g 0 xs) (hh' : HoldsDeps w g' 0 xs) :
    Calls Try.prog 34 #[wrV k c s q v de (some ⟨g, 0, none⟩) len cap, wrV k c s q v de (some ⟨g', 0, none⟩) len cap'] w fun e w' => e = .returned (.bool true) ∧ Below w.heap.size w w' :=
  eqWrite_gen k c s q v de _ _ len cap cap' xs w hn hl (.inr ⟨g, 0, rfl, hlt, hh⟩) (.inr ⟨g', 0, rfl, hlt', hh'⟩)

def valOkB (v : Int) (de : Bool) : Bool := if de then v == 0 else btw v (-1000000) 1000000

theorem word_or (c s q : Int) (h1 : 1 ≤ c) (h2 : c ≤ 100000) (h3 : 0 ≤ s) (h4 : s ≤ 3) (h5 : 1 ≤ q) (h6 : q ≤ 1000) :
    bits BinOp.or IntKind.u64 (bits BinOp.or IntKind.u64 (c * 4096) (s * 1024)) q = c * 4096 + s * 1024 + q := by
  obtain ⟨c, rfl⟩ := Int.eq_ofNat_of_zero_le (show 0 ≤ c by omega)
  obtain ⟨s, rfl⟩ := Int.eq_ofNat_of_zero_le h3
  obtain ⟨q, rfl⟩ := Int.eq_ofNat_of_zero_le (show 0 ≤ q by omega)
  have e1 : bits BinOp.or IntKind.u64 ((c : Int) * 4096) ((s : Int) * 1024) = ((4096 * c + s * 1024 : Nat) : Int) := by
    rw [u64_or _ _ (by omega) (by omega) (by omega) (by omega), show ((c : Int) * 4096).toNat = 2 ^ 12 * c by omega, show ((s : Int) * 1024).toNat = s * 1024 by omega,
      ← Nat.two_pow_add_eq_or_of_lt (show s * 1024 < 2 ^ 12 by omega) c]
  rw [e1, u64_or _ _ (by omega) (by omega) (by omega) (by omega), Int.toNat_natCast, Int.toNat_natCast, show 4096 * c + s * 1024 = 2 ^ 10 * (4 * c + s) by omega,
    ← Nat.two_pow_add_eq_or_of_lt (show q < 2 ^ 10 by omega) (4 * c + s)]
  omega

theorem tagOk_bounds {c s q : Int} (h : tagOkB c s q = true) : 1 ≤ c ∧ c ≤ 100000 ∧ 0 ≤ s ∧ s ≤ 3 ∧ 1 ≤ q ∧ q ≤ 1000 := by
  unfold tagOkB btw at h
  simp only [Bool.and_eq_true, decide_eq_true_eq] at h
  omega

/-- The packed words stand as the tags do. -/
theorem word_order {c s q c' s' q' : Int} (h : tagOkB c s q = true) (h' : tagOkB c' s' q' = true) : (c' * 4096 + s' * 1024 + q' ≤ c * 4096 + s * 1024 + q) ↔ 0 ≤ tcmp c s q c' s' q' := by
  obtain ⟨h1, h2, h3, h4, h5, h6⟩ := tagOk_bounds h
  obtain ⟨g1, g2, g3, g4, g5, g6⟩ := tagOk_bounds h'
  unfold tcmp sgn
  by_cases e1 : c = c'
  · rw [if_neg (by simpa using e1)]
    by_cases e2 : s = s'
    · rw [if_neg (by simpa using e2)]
      split
      · omega
      · split <;> omega
    · rw [if_pos e2]
      split
      · omega
      · split <;> omega
  · rw [if_pos e1]
    split
    · omega
    · split <;> omega

end Go.Proofs.Ytlbcpppmpbbkdal
