/- The contract of impl.WriteCmp. -/
import Derived.Test.YtfapebnilbdheabDepCmp
import Derived.Test.YtfapebnilbdheabWrites
namespace Go.Proofs.Ytfapebnilbdheab
open Go.ChangeShapes Go.WideShapes Go.ChangeAt Go.RowKit Go.Joins
attribute [local go_sem ↓] Go.wp_at_zero Go.wp_at_succ

theorem five_cells (W : World) (x y z u v : Int) (t b : Nat) (hb : W.heap.size = b) : ∀ i, i < [x, y, z, u, v].length → (W.alloc (Obj.cells #[.int .i64 x, .int .i64 y, .int .i64 z, .int .i64 u, .int .i64 v] t)).cell? ⟨b, i, none⟩ = some (.int .i64 ([x, y, z, u, v].getD i 0)) := by
  subst hb
  intro i hi
  match i, hi with
  | 0, _ => simp [go_sem]
  | 1, _ => simp [go_sem]
  | 2, _ => simp [go_sem]
  | 3, _ => simp [go_sem]
  | 4, _ => simp [go_sem]

/-- Two boxes of writes behind what was there. -/
abbrev TwoIn (w : World) (k c s q v : Int) (de : Bool) (a : Option Addr) (len cap : Nat) (k' c' s' q' v' : Int) (de' : Bool) (a' : Option Addr) (len' cap' : Nat) (W : World) : Prop :=
  W.cell? ⟨w.heap.size, 0, none⟩ = some (.int .i64 k) ∧ W.cell? ⟨w.heap.size, 1, none⟩ = some (.int .i64 c) ∧ W.cell? ⟨w.heap.size, 2, none⟩ = some (.int .i64 s) ∧ W.cell? ⟨w.heap.size, 3, none⟩ = some (.int .i64 q) ∧ W.cell? ⟨w.heap.size, 4, none⟩ = some (.int .i64 v) ∧ W.cell? ⟨w.heap.size, 5, none⟩ = some (.bool de) ∧ W.cell? ⟨w.heap.size, 6, none⟩ = some (.slice a len cap) ∧ W.cell? ⟨w.heap.size + 1, 0, none⟩ = some (.int .i64 k') ∧ W.cell? ⟨w.heap.size + 1, 1, none⟩ = some (.int .i64 c') ∧ W.cell? ⟨w.heap.size + 1, 2, none⟩ = some (.int .i64 s') ∧ W.cell? ⟨w.heap.size + 1, 3, none⟩ = some (.int .i64 q') ∧ W.cell? ⟨w.heap.size + 1, 4, none⟩ = some (.int .i64 v') ∧ W.cell? ⟨w.heap.size + 1, 5, none⟩ = some (.bool de') ∧ W.cell? ⟨w.heap.size + 1, 6, none⟩ = some (.slice a' len' cap') ∧ w.heap.size + 1 < W.heap.size ∧ Below w.heap.size w W

theorem two_step {w W w1 : World} {k c s q v : Int} {de : Bool} {a : Option Addr} {len cap : Nat} {k' c' s' q' v' : Int} {de' : Bool} {a' : Option Addr} {len' cap' : Nat} (h : TwoIn w k c s q v de a len cap k' c' s' q' v' de' a' len' cap' W) (hb : Below W.heap.size W w1) : TwoIn w k c s q v de a len cap k' c' s' q' v' de' a' len' cap' w1 := by
  obtain ⟨e0, e1, e2, e3, e4, e5, e6, f0, f1, f2, f3, f4, f5, f6, hz, hB⟩ := h
  have hz' : w.heap.size < W.heap.size := by omega
  exact ⟨held_cell hb e0 hz', held_cell hb e1 hz', held_cell hb e2 hz', held_cell hb e3 hz', held_cell hb e4 hz', held_cell hb e5 hz', held_cell hb e6 hz', held_cell hb f0 hz, held_cell hb f1 hz, held_cell hb f2 hz, held_cell hb f3 hz, held_cell hb f4 hz, held_cell hb f5 hz, held_cell hb f6 hz, Nat.lt_of_lt_of_le hz hb.size, below_step hB hB.size hb⟩

theorem two_alloc {w W : World} {k c s q v : Int} {de : Bool} {a : Option Addr} {len cap : Nat} {k' c' s' q' v' : Int} {de' : Bool} {a' : Option Addr} {len' cap' : Nat} (X : Obj) (h : TwoIn w k c s q v de a len cap k' c' s' q' v' de' a' len' cap' W) : TwoIn w k c s q v de a len cap k' c' s' q' v' de' a' len' cap' (W.alloc X) :=
  two_step h ((Below.refl _ _).alloc (Nat.le_refl _) X)

theorem two_start (w : World) (k c s q v : Int) (de : Bool) (a : Option Addr) (len cap : Nat) (k' c' s' q' v' : Int) (de' : Bool) (a' : Option Addr) (len' cap' : Nat) (t t' : Nat) : TwoIn w k c s q v de a len cap k' c' s' q' v' de' a' len' cap' ((w.alloc (.cells #[.int .i64 k, .int .i64 c, .int .i64 s, .int .i64 q, .int .i64 v, .bool de, .slice a len cap] t)).alloc (.cells #[.int .i64 k', .int .i64 c', .int .i64 s', .int .i64 q', .int .i64 v', .bool de', .slice a' len' cap'] t')) := by
  refine ⟨?_, ?_, ?_, ?_, ?_, ?_, ?_, ?_, ?_, ?_, ?_, ?_, ?_, ?_, ?_, ?_⟩ <;> first | (simp [go_sem]; done) | (simp; omega) | exact ((Below.refl _ _).alloc (Nat.le_refl _) _).alloc (by simp) _

theorem two_drew {w W : World} {k c s q v : Int} {de : Bool} {a : Option Addr} {len cap : Nat} {k' c' s' q' v' : Int} {de' : Bool} {a' : Option Addr} {len' cap' : Nat} (h : TwoIn w k c s q v de a len cap k' c' s' q' v' de' a' len' cap' W) : TwoIn w k c s q v de a len cap k' c' s' q' v' de' a' len' cap' W.drew :=
  two_step h (Below.refl _ _).drew

set_option maxHeartbeats 4000000 in
theorem implWriteCmp_raw (k c s q v : Int) (de : Bool) (a : Option Addr) (xs : List Dp) (cap : Nat) (k' c' s' q' v' : Int) (de' : Bool) (a' : Option Addr) (ys : List Dp) (cap' : Nat) (w : World)
    (hn : xs.length ≤ 1048576) (hm : ys.length ≤ 1048576) (hh : IsDeps w a xs) (hh' : IsDeps w a' ys) :
    Calls Try.prog 12 #[wrV k c s q v de a xs.length cap, wrV k' c' s' q' v' de' a' ys.length cap'] w fun e w' => e = .returned (.int .i64 (orI [tcmp c s q c' s' q', sgn k k', sgn v v', sgn (bit de) (bit de'), depsCmp xs ys])) ∧ Below w.heap.size w w' := by
  have HH : Hid (IsDeps w a xs) := hh
  have HH' : Hid (IsDeps w a' ys) := hh'
  clear hh hh'
  go_enter Try.func12, Try.ntmps12
  go_wp2_with fail
  go_region_held3 (fun w' => w'.cell? ⟨w.heap.size, 0, none⟩ = some (.int .i64 k) ∧ w'.cell? ⟨w.heap.size, 1, none⟩ = some (.int .i64 c) ∧ w'.cell? ⟨w.heap.size, 2, none⟩ = some (.int .i64 s) ∧ w'.cell? ⟨w.heap.size, 3, none⟩ = some (.int .i64 q) ∧ w'.cell? ⟨w.heap.size, 4, none⟩ = some (.int .i64 v) ∧ w'.cell? ⟨w.heap.size, 5, none⟩ = some (.bool de) ∧ w'.cell? ⟨w.heap.size, 6, none⟩ = some (.slice a xs.length cap) ∧ w'.cell? ⟨w.heap.size + 1, 0, none⟩ = some (.int .i64 k') ∧ w'.cell? ⟨w.heap.size + 1, 1, none⟩ = some (.int .i64 c') ∧ w'.cell? ⟨w.heap.size + 1, 2, none⟩ = some (.int .i64 s') ∧ w'.cell? ⟨w.heap.size + 1, 3, none⟩ = some (.int .i64 q') ∧ w'.cell? ⟨w.heap.size + 1, 4, none⟩ = some (.int .i64 v') ∧ w'.cell? ⟨w.heap.size + 1, 5, none⟩ = some (.bool de') ∧ w'.cell? ⟨w.heap.size + 1, 6, none⟩ = some (.slice a' ys.length cap') ∧ w.heap.size + 1 < w'.heap.size ∧ Below w.heap.size w w')
    (first | assumption | exact two_drew (two_start _ _ _ _ _ _ _ _ _ _ _ _ _ _ _ _ _ _ _ _ _) | exact two_step (by assumption) hb2 | exact two_step (by assumption) hb3 | exact two_alloc _ (by assumption))
    (first | (go_at_call 33; refine (compare_any _ _ _).mono ?_; rintro e w1 ⟨rfl, rfl⟩) | (go_at_call 37; refine (flagNum_any _ _).mono ?_; rintro e w1 ⟨rfl, rfl⟩) | (go_at_call 9; refine (implTagCmp_any _ _ _ _ _ _ _).mono ?_; rintro e w2 ⟨rfl, hb2⟩; have HB2 : Hid (Below w.heap.size w w2) := below_step (((Below.refl w.heap.size w).alloc (Nat.le_refl _) _).alloc (by simp) _).drew (by simp; omega) hb2) | (go_at_call 38; refine (compareFunc_gen _ _ xs ys _ _ _ hn hm (HH.out.below HB2.out) (HH'.out.below HB2.out)).mono ?_; rintro e w3 ⟨rfl, hb3⟩) | (go_at_call 32; refine (or_any _ [tcmp c s q c' s' q', sgn k k', sgn v v', sgn (bit de) (bit de'), depsCmp xs ys] _ _ (by simp) (by exact five_cells _ _ _ _ _ _ _ _ (by simp))).mono ?_; rintro e w4 ⟨rfl, rfl⟩))
  obtain ⟨-, -, -, -, -, -, -, -, -, -, -, -, -, -, -, HB0⟩ := ‹_ ∧ _›
  have HB : Hid (Below w.heap.size w _) := HB0
  clear HB0 hb2 hb3
  go_wp2
  go_ret
  exact ⟨rfl, HB.out⟩

theorem implWriteCmp_gen (k c s q v : Int) (de : Bool) (a : Option Addr) (xs : List Dp) (len cap : Nat) (k' c' s' q' v' : Int) (de' : Bool) (a' : Option Addr) (ys : List Dp) (len' cap' : Nat) (w : World) (hl : xs.length = len) (hl' : ys.length = len')
    (hn : len ≤ 1048576) (hm : len' ≤ 1048576) (hh : IsDeps w a xs) (hh' : IsDeps w a' ys) :
    Calls Try.prog 12 #[wrV k c s q v de a len cap, wrV k' c' s' q' v' de' a' len' cap'] w fun e w' => e = .returned (.int .i64 (wcmp k c s q v de xs k' c' s' q' v' de' ys)) ∧ Below w.heap.size w w' := by
  subst hl hl'
  rw [← wcmp_or]
  exact implWriteCmp_raw k c s q v de a xs cap k' c' s' q' v' de' a' ys cap' w hn hm hh hh'

theorem implWriteCmp_any (k c s q v : Int) (de : Bool) (g : Nat) (xs : List Dp) (len cap : Nat) (k' c' s' q' v' : Int) (de' : Bool) (g' : Nat) (ys : List Dp) (len' cap' : Nat) (w : World) (hl : xs.length = len) (hl' : ys.length = len')
    (hn : len ≤ 1048576) (hm : len' ≤ 1048576) (hlt : g < w.heap.size) (hlt' : g' < w.heap.size) (hh : HoldsDeps w g 0 xs) (hh' : HoldsDeps w g' 0 ys) :
    Calls Try.prog 12 #[wrV k c s q v de (some ⟨g, 0, none⟩) len cap, wrV k' c' s' q' v' de' (some ⟨g', 0, none⟩) len' cap'] w fun e w' => e = .returned (.int .i64 (wcmp k c s q v de xs k' c' s' q' v' de' ys)) ∧ Below w.heap.size w w' :=
  implWriteCmp_gen k c s q v de _ xs len cap k' c' s' q' v' de' _ ys len' cap' w hl hl' hn hm (.inr ⟨g, 0, rfl, hlt, hh⟩) (.inr ⟨g', 0, rfl, hlt', hh'⟩)

end Go.Proofs.Ytfapebnilbdheab
