import Derived.Test.YtojgahcogpediaaPack4
import Derived.Test.YtojgahcogpediaaPack2
/- Contracts of impl.flagNum, spec.l01Bit, impl.depCmp, slices.CompareFunc over dependencies. -/
namespace Go.Proofs.Ytojgahcogpediaa
open Go.ChangeShapes Go.WideShapes Go.ChangeAt Go.RowKit Go.Joins
attribute [local go_sem ↓] Go.wp_at_zero Go.wp_at_succ

theorem flagNum_any (b : Bool) (w : World) :
    Calls Try.prog 67 #[.bool b] w fun e w' => e = .returned (.int .i64 (bit b)) ∧ w' = w := by
  cases b
  · go_enter Try.func67, Try.ntmps67
    go_wp2
    go_ret
    exact ⟨rfl, rfl⟩
  · go_enter Try.func67, Try.ntmps67
    go_wp2
    go_ret
    exact ⟨rfl, rfl⟩

theorem bit_any (b : Bool) (w : World) :
    Calls Try.prog 63 #[.bool b] w fun e w' => e = .returned (.int .i64 (bit b)) ∧ w' = w := by
  cases b
  · go_enter Try.func63, Try.ntmps63
    go_wp2
    go_ret
    exact ⟨rfl, rfl⟩
  · go_enter Try.func63, Try.ntmps63
    go_wp2
    go_ret
    exact ⟨rfl, rfl⟩

theorem two_cells (W : World) (x y : Int) (t b : Nat) (hb : W.heap.size = b) : ∀ i, i < [x, y].length → (W.alloc (Obj.cells #[.int .i64 x, .int .i64 y] t)).cell? ⟨b, i, none⟩ = some (.int .i64 ([x, y].getD i 0)) := by
  subst hb
  intro i hi
  match i, hi with
  | 0, _ => simp [go_sem]
  | 1, _ => simp [go_sem]

theorem alloc_held {W : World} {b o : Nat} {v : Value} (X : Obj) (h : W.cell? ⟨b, o, none⟩ = some v) (hz : b < W.heap.size) : (W.alloc X).cell? ⟨b, o, none⟩ = some v :=
  held_cell ((Below.refl _ _).alloc (Nat.le_refl _) X) h hz

theorem alloc_lt {W : World} {b : Nat} (X : Obj) (h : b < W.heap.size) : b < (W.alloc X).heap.size := by simp; omega

theorem alloc_below {w W : World} (X : Obj) (h : Below w.heap.size w W) : Below w.heap.size w (W.alloc X) := h.alloc h.size X

set_option maxHeartbeats 1000000 in
theorem depCmp_any (k c s q k' c' s' q' : Int) (w : World) :
    Calls Try.prog 69 #[depV k c s q, depV k' c' s' q'] w fun e w' => e = .returned (.int .i64 (dcmp ⟨k, c, s, q⟩ ⟨k', c', s', q'⟩)) ∧ Below w.heap.size w w' := by
  rw [← dcmp_or]
  go_enter Try.func69, Try.ntmps69
  go_wp2_with fail
  go_region_held3 (fun w' => w'.cell? ⟨w.heap.size, 0, none⟩ = some (.int .i64 k) ∧ w'.cell? ⟨w.heap.size, 1, none⟩ = some (.int .i64 c) ∧ w'.cell? ⟨w.heap.size, 2, none⟩ = some (.int .i64 s) ∧ w'.cell? ⟨w.heap.size, 3, none⟩ = some (.int .i64 q) ∧ w'.cell? ⟨w.heap.size + 1, 0, none⟩ = some (.int .i64 k') ∧ w'.cell? ⟨w.heap.size + 1, 1, none⟩ = some (.int .i64 c') ∧ w'.cell? ⟨w.heap.size + 1, 2, none⟩ = some (.int .i64 s') ∧ w'.cell? ⟨w.heap.size + 1, 3, none⟩ = some (.int .i64 q') ∧ w.heap.size + 1 < w'.heap.size ∧ Below w.heap.size w w')
    (first | (refine ⟨?_, ?_, ?_, ?_, ?_, ?_, ?_, ?_, ?_, ?_⟩ <;> first | (simp; done) | (simp; omega) | exact (((Below.refl _ _).alloc (Nat.le_refl _) _).alloc (by simp) _).drew) | (go_split_ands; refine ⟨?_, ?_, ?_, ?_, ?_, ?_, ?_, ?_, ?_, ?_⟩ <;> first | assumption | exact held_cell (by assumption) (by assumption) (by omega) | exact Nat.lt_of_lt_of_le (by assumption) (Below.size (by assumption)) | exact below_step (by assumption) (by omega) (by assumption) | exact alloc_held _ (by assumption) (by omega) | exact alloc_lt _ (by assumption) | exact alloc_below _ (by assumption)))
    (first | (go_at_call 66; refine (compare_any _ _ _).mono ?_; rintro e w1 ⟨rfl, rfl⟩) | (go_at_call 65; refine (implTagCmp_any _ _ _ _ _ _ _).mono ?_; rintro e w2 ⟨rfl, hb2⟩) | (go_at_call 64; refine (or_any _ [sgn k k', tcmp c s q c' s' q'] _ _ (by simp) (by exact two_cells _ _ _ _ _ (by simp))).mono ?_; rintro e w3 ⟨rfl, rfl⟩))
  obtain ⟨-, -, -, -, -, -, -, -, -, HB0⟩ := ‹_ ∧ _›
  have HB : Hid (Below w.heap.size w _) := HB0
  clear HB0 hb2
  go_wp2
  go_ret
  exact ⟨rfl, HB.out⟩

theorem depCmp_is (d e : Dp) (z : Int) (h : dcmp d e = z) (w : World) :
    Calls Try.prog 69 #[depV d.k d.c d.s d.q, depV e.k e.c e.s e.q] w fun r w' => r = .returned (.int .i64 z) ∧ Below w.heap.size w w' := by
  subst h
  exact depCmp_any d.k d.c d.s d.q e.k e.c e.s e.q w

set_option maxHeartbeats 1000000 in
theorem compareFunc_gen (a a' : Option Addr) (xs ys : List Dp) (cap cap' : Nat) (w : World) (hn : xs.length ≤ 1048576) (_hm : ys.length ≤ 1048576) (hh : IsDeps w a xs) (hh' : IsDeps w a' ys) :
    Calls Try.prog 68 #[.slice a xs.length cap, .slice a' ys.length cap', .func (.func 69) #[] #[]] w fun e w' => e = .returned (.int .i64 (depsCmp xs ys)) ∧ Below w.heap.size w w' := by
  have HH : Hid (IsDeps w a xs) := hh
  have HH' : Hid (IsDeps w a' ys) := hh'
  clear hh hh'
  go_enter Try.func68, Try.ntmps68
  go_wp2
  go_loopw [13] (fun i wr => ∃ k : Nat, k ≤ xs.length ∧ k ≤ ys.length ∧ i = .int .i64 k ∧ Hid (∀ j, j < k → dcmp (xs.getD j dz) (ys.getD j dz) = 0) ∧ Hid (Below w.heap.size w wr)) (fun i _ => xs.length - (intOf i).toNat)
  case atStart => exact ⟨0, Nat.zero_le _, Nat.zero_le _, rfl, fun j hj => by omega, Below.refl _ _⟩
  case round =>
    obtain ⟨k, hk, hky, rfl, HG, HB⟩ := hrel
    have i1 : (0 : Int) ≤ (k : Int) := by omega
    by_cases hk' : k < xs.length
    · obtain ⟨b, o, rfl, hz, e0, e1, e2, e3⟩ := HH.out.at HB.out hk'
      have i2 : (k : Int) < (xs.length : Int) := by omega
      by_cases hy' : k < ys.length
      · obtain ⟨b', o', rfl, hz', f0, f1, f2, f3⟩ := HH'.out.at HB.out hy'
        have i3 : (k : Int) < (ys.length : Int) := by omega
        have HBA : ∀ X Y, Hid (Below w.heap.size w ((wr.alloc X).alloc Y)) := fun X Y => (HB.out.alloc HB.out.size X).alloc (HB.out.alloc HB.out.size X).size Y
        have HN : Hid (dcmp (xs.getD k dz) (ys.getD k dz) ≠ 0 → depsCmp xs ys = dcmp (xs.getD k dz) (ys.getD k dz)) := fun h => depsCmp_first xs ys k hk' hy' HG.out h
        have HG' : Hid (dcmp (xs.getD k dz) (ys.getD k dz) = 0 → ∀ j, j < k + 1 → dcmp (xs.getD j dz) (ys.getD j dz) = 0) := fun h0 j hj => by
          by_cases h : j < k
          · exact HG.out j h
          · have : j = k := by omega
            rw [this]
            exact h0
        generalize xs.getD k dz = d at *
        generalize ys.getD k dz = e at *
        by_cases hd : dcmp d e = 0
        · have HD : Hid (dcmp d e = 0) := hd
          clear hd
          go_wp2_with fail
          refine (depCmp_is d e 0 HD.out _).mono ?_
          rintro r wq ⟨rfl, hq⟩
          have HBQ : Hid (Below w.heap.size w wq) := below_step (HBA _ _).out (HBA _ _).out.size hq
          clear hq HBA
          go_wp2
          exact ⟨⟨k + 1, by omega, by omega, by go_num, HG'.out HD.out, HBQ⟩, by simp [intOf]; omega⟩
        · have HD : Hid (depsCmp xs ys = dcmp d e) := HN.out hd
          have hd' : (dcmp d e != 0) = true := by rw [bne_iff_ne]; exact hd
          clear hd
          go_wp2_with fail
          refine (depCmp_is d e _ rfl _).mono ?_
          rintro r wq ⟨rfl, hq⟩
          have HBQ : Hid (Below w.heap.size w wq) := below_step (HBA _ _).out (HBA _ _).out.size hq
          clear hq HBA
          go_wp2
          go_ret
          exact ⟨ret_i64 HD.out.symm, HBQ.out⟩
      · have HF : Hid (depsCmp xs ys = 1) := by
          show depsCmp xs ys = 1
          have h := depsCmp_none xs ys (fun i h1 h2 => HG.out i (by omega))
          rw [h]
          unfold sgn
          rw [if_neg (by omega), if_pos (by omega)]
        go_wp2
        go_ret
        exact ⟨ret_i64 HF.out.symm, HB.out.alloc HB.out.size _⟩
    · have HF : Hid (depsCmp xs ys = sgn xs.length ys.length) := depsCmp_none xs ys (fun i h1 h2 => HG.out i (by omega))
      by_cases hl : xs.length < ys.length
      · have HS : Hid (sgn xs.length ys.length = -1) := by
          unfold sgn
          exact if_pos (by omega)
        go_wp2
        go_ret
        exact ⟨ret_i64 (by rw [HF.out, HS.out]), HB.out⟩
      · have HS : Hid (sgn xs.length ys.length = 0) := sgn_zero.2 (by omega)
        go_wp2
        go_ret
        exact ⟨ret_i64 (by rw [HF.out, HS.out]), HB.out⟩

theorem compareFunc_any (b o b' o' : Nat) (xs ys : List Dp) (cap cap' : Nat) (w : World) (hn : xs.length ≤ 1048576) (_hm : ys.length ≤ 1048576) (hlt : b < w.heap.size) (hlt' : b' < w.heap.size) (hh : HoldsDeps w b o xs) (hh' : HoldsDeps w b' o' ys) :
    Calls Try.prog 68 #[.slice (some ⟨b, o, none⟩) xs.length cap, .slice (some ⟨b', o', none⟩) ys.length cap', .func (.func 69) #[] #[]] w fun e w' => e = .returned (.int .i64 (depsCmp xs ys)) ∧ Below w.heap.size w w' :=
  compareFunc_gen _ _ xs ys cap cap' w hn _hm (.inr ⟨b, o, rfl, hlt, hh⟩) (.inr ⟨b', o', rfl, hlt', hh'⟩)

end Go.Proofs.Ytojgahcogpediaa

/- The contract of impl.WriteCmp. -/
namespace Go.Proofs.Ytojgahcogpediaa
open Go.ChangeShapes Go.WideShapes Go.ChangeAt Go.RowKit Go.Joins
attribute [local go_sem ↓] Go.wp_at_zero Go.wp_at_succ

theorem five_cells (W : World) (x y z u v : Int) (t b : Nat) (hb : W.heap.size = b) : ∀ i, i < [x, y, z, u, v].length → (W.alloc (Obj.cells #[.int .i64 x, .int .i64 y, .int .i64 z, .int .i64 u, .int .i64 v] t)).cell? ⟨b, i, none⟩ = some (.int .i64 ([x, y, z, u, v].getD i 0)) := by
  subst hb
  intro i hi
  match i, hi with
  | 0, _ => simp [go_sem]
  | 1, _ => simp [go_sem]
  | 2, _ => simp [go_sem]
  | 3, _ => simp [go_sem]
  | 4, _ => simp [go_sem]

/-- Two boxes of writes behind what was there. -/
abbrev TwoIn (w : World) (k c s q v : Int) (de : Bool) (a : Option Addr) (len cap : Nat) (k' c' s' q' v' : Int) (de' : Bool) (a' : Option Addr) (len' cap' : Nat) (W : World) : Prop :=
  W.cell? ⟨w.heap.size, 0, none⟩ = some (.int .i64 k) ∧ W.cell? ⟨w.heap.size, 1, none⟩ = some (.int .i64 c) ∧ W.cell? ⟨w.heap.size, 2, none⟩ = some (.int .i64 s) ∧ W.cell? ⟨w.heap.size, 3, none⟩ = some (.int .i64 q) ∧ W.cell? ⟨w.heap.size, 4, none⟩ = some (.int .i64 v) ∧ W.cell? ⟨w.heap.size, 5, none⟩ = some (.bool de) ∧ W.cell? ⟨w.heap.size, 6, none⟩ = some (.slice a len cap) ∧ W.cell? ⟨w.heap.size + 1, 0, none⟩ = some (.int .i64 k') ∧ W.cell? ⟨w.heap.size + 1, 1, none⟩ = some (.int .i64 c') ∧ W.cell? ⟨w.heap.size + 1, 2, none⟩ = some (.int .i64 s') ∧ W.cell? ⟨w.heap.size + 1, 3, none⟩ = some (.int .i64 q') ∧ W.cell? ⟨w.heap.size + 1, 4, none⟩ = some (.int .i64 v') ∧ W.cell? ⟨w.heap.size + 1, 5, none⟩ = some (.bool de') ∧ W.cell? ⟨w.heap.size + 1, 6, none⟩ = some (.slice a' len' cap') ∧ w.heap.size + 1 < W.heap.size ∧ Below w.heap.size w W

theorem two_step {w W w1 : World} {k c s q v : Int} {de : Bool} {a : Option Addr} {len cap : Nat} {k' c' s' q' v' : Int} {de' : Bool} {a' : Option Addr} {len' cap' : Nat} (h : TwoIn w k c s q v de a len cap k' c' s' q' v' de' a' len' cap' W) (hb : Below W.heap.size W w1) : TwoIn w k c s q v de a len cap k' c' s' q' v' de' a' len' cap' w1 := by
  obtain ⟨e0, e1, e2, e3, e4, e5, e6, f0, f1, f2, f3, f4, f5, f6, hz, hB⟩ := h
  have hz' : w.heap.size < W.heap.size := by omega
  exact ⟨held_cell hb e0 hz', held_cell hb e1 hz', held_cell hb e2 hz', held_cell hb e3 hz', held_cell hb e4 hz', held_cell hb e5 hz', held_cell hb e6 hz', held_cell hb f0 hz, held_cell hb f1 hz, held_cell hb f2 hz, held_cell hb f3 hz, held_cell hb f4 hz, held_cell hb f5 hz, held_cell hb f6 hz, Nat.lt_of_lt_of_le hz hb.size, below_step hB hB.size hb⟩

theorem two_alloc {w W : World} {k c s q v : Int} {de : Bool} {a : Option Addr} {len cap : Nat} {k' c' s' q' v' : Int} {de' : Bool} {a' : Option Addr} {len' cap' : Nat} (X : Obj) (h : TwoIn w k c s q v de a len cap k' c' s' q' v' de' a' len' cap' W) : TwoIn w k c s q v de a len cap k' c' s' q' v' de' a' len' cap' (W.alloc X) :=
  two_step h ((Below.refl _ _).alloc (Nat.le_refl _) X)

theorem two_start (w : World) (k c s q v : Int) (de : Bool) (a : Option Addr) (len cap : Nat) (k' c' s' q' v' : Int) (de' : Bool) (a' : Option Addr) (len' cap' : Nat) (t t' : Nat) : TwoIn w k c s q v de a len cap k' c' s' q' v' de' a' len' cap' ((w.alloc (.cells #[.int .i64 k, .int .i64 c, .int .i64 s, .int .i64 q, .int .i64 v, .bool de, .slice a len cap] t)).alloc (.cells #[.int .i64 k', .int .i64 c', .int .i64 s', .int .i64 q', .int .i64 v', .bool de', .slice a' len' cap'] t')) := by
  refine ⟨?_, ?_, ?_, ?_, ?_, ?_, ?_, ?_, ?_, ?_, ?_, ?_, ?_, ?_, ?_, ?_⟩ <;> first | (simp [go_sem]; done) | (simp; omega) | exact ((Below.refl _ _).alloc (Nat.le_refl _) _).alloc (by simp) _

theorem two_drew {w W : World} {k c s q v : Int} {de : Bool} {a : Option Addr} {len cap : Nat} {k' c' s' q' v' : Int} {de' : Bool} {a' : Option Addr} {len' cap' : Nat} (h : TwoIn w k c s q v de a len cap k' c' s' q' v' de' a' len' cap' W) : TwoIn w k c s q v de a len cap k' c' s' q' v' de' a' len' cap' W.drew :=
  two_step h (Below.refl _ _).drew

set_option maxHeartbeats 4000000 in
theorem implWriteCmp_raw (k c s q v : Int) (de : Bool) (a : Option Addr) (xs : List Dp) (cap : Nat) (k' c' s' q' v' : Int) (de' : Bool) (a' : Option Addr) (ys : List Dp) (cap' : Nat) (w : World)
    (hn : xs.length ≤ 1048576) (hm : ys.length ≤ 1048576) (hh : IsDeps w a xs) (hh' : IsDeps w a' ys) :
    Calls Try.prog 28 #[wrV k c s q v de a xs.length cap, wrV k' c' s' q' v' de' a' ys.length cap'] w fun e w' => e = .returned (.int .i64 (orI [tcmp c s q c' s' q', sgn k k', sgn v v', sgn (bit de) (bit de'), depsCmp xs ys])) ∧ Below w.heap.size w w' := by
  have HH : Hid (IsDeps w a xs) := hh
  have HH' : Hid (IsDeps w a' ys) := hh'
  clear hh hh'
  go_enter Try.func28, Try.ntmps28
  go_wp2_with fail
  go_region_held3 (fun w' => w'.cell? ⟨w.heap.size, 0, none⟩ = some (.int .i64 k) ∧ w'.cell? ⟨w.heap.size, 1, none⟩ = some (.int .i64 c) ∧ w'.cell? ⟨w.heap.size, 2, none⟩ = some (.int .i64 s) ∧ w'.cell? ⟨w.heap.size, 3, none⟩ = some (.int .i64 q) ∧ w'.cell? ⟨w.heap.size, 4, none⟩ = some (.int .i64 v) ∧ w'.cell? ⟨w.heap.size, 5, none⟩ = some (.bool de) ∧ w'.cell? ⟨w.heap.size, 6, none⟩ = some (.slice a xs.length cap) ∧ w'.cell? ⟨w.heap.size + 1, 0, none⟩ = some (.int .i64 k') ∧ w'.cell? ⟨w.heap.size + 1, 1, none⟩ = some (.int .i64 c') ∧ w'.cell? ⟨w.heap.size + 1, 2, none⟩ = some (.int .i64 s') ∧ w'.cell? ⟨w.heap.size + 1, 3, none⟩ = some (.int .i64 q') ∧ w'.cell? ⟨w.heap.size + 1, 4, none⟩ = some (.int .i64 v') ∧ w'.cell? ⟨w.heap.size + 1, 5, none⟩ = some (.bool de') ∧ w'.cell? ⟨w.heap.size + 1, 6, none⟩ = some (.slice a' ys.length cap') ∧ w.heap.size + 1 < w'.heap.size ∧ Below w.heap.size w w')
    (first | assumption | exact two_drew (two_start _ _ _ _ _ _ _ _ _ _ _ _ _ _ _ _ _ _ _ _ _) | exact two_step (by assumption) hb2 | exact two_step (by assumption) hb3 | exact two_alloc _ (by assumption))
    (first | (go_at_call 66; refine (compare_any _ _ _).mono ?_; rintro e w1 ⟨rfl, rfl⟩) | (go_at_call 67; refine (flagNum_any _ _).mono ?_; rintro e w1 ⟨rfl, rfl⟩) | (go_at_call 65; refine (implTagCmp_any _ _ _ _ _ _ _).mono ?_; rintro e w2 ⟨rfl, hb2⟩; have HB2 : Hid (Below w.heap.size w w2) := below_step (((Below.refl w.heap.size w).alloc (Nat.le_refl _) _).alloc (by simp) _).drew (by simp; omega) hb2) | (go_at_call 68; refine (compareFunc_gen _ _ xs ys _ _ _ hn hm (HH.out.below HB2.out) (HH'.out.below HB2.out)).mono ?_; rintro e w3 ⟨rfl, hb3⟩) | (go_at_call 64; refine (or_any _ [tcmp c s q c' s' q', sgn k k', sgn v v', sgn (bit de) (bit de'), depsCmp xs ys] _ _ (by simp) (by exact five_cells _ _ _ _ _ _ _ _ (by simp))).mono ?_; rintro e w4 ⟨rfl, rfl⟩))
  obtain ⟨-, -, -, -, -, -, -, -, -, -, -, -, -, -, -, HB0⟩ := ‹_ ∧ _›
  have HB : Hid (Below w.heap.size w _) := HB0
  clear HB0 hb2 hb3
  go_wp2
  go_ret
  exact ⟨rfl, HB.out⟩

theorem implWriteCmp_gen (k c s q v : Int) (de : Bool) (a : Option Addr) (xs : List Dp) (len cap : Nat) (k' c' s' q' v' : Int) (de' : Bool) (a' : Option Addr) (ys : List Dp) (len' cap' : Nat) (w : World) (hl : xs.length = len) (hl' : ys.length = len')
    (hn : len ≤ 1048576) (hm : len' ≤ 1048576) (hh : IsDeps w a xs) (hh' : IsDeps w a' ys) :
    Calls Try.prog 28 #[wrV k c s q v de a len cap, wrV k' c' s' q' v' de' a' len' cap'] w fun e w' => e = .returned (.int .i64 (wcmp k c s q v de xs k' c' s' q' v' de' ys)) ∧ Below w.heap.size w w' := by
  subst hl hl'
  rw [← wcmp_or]
  exact implWriteCmp_raw k c s q v de a xs cap k' c' s' q' v' de' a' ys cap' w hn hm hh hh'

theorem implWriteCmp_any (k c s q v : Int) (de : Bool) (g : Nat) (xs : List Dp) (len cap : Nat) (k' c' s' q' v' : Int) (de' : Bool) (g' : Nat) (ys : List Dp) (len' cap' : Nat) (w : World) (hl : xs.length = len) (hl' : ys.length = len')
    (hn : len ≤ 1048576) (hm : len' ≤ 1048576) (hlt : g < w.heap.size) (hlt' : g' < w.heap.size) (hh : HoldsDeps w g 0 xs) (hh' : HoldsDeps w g' 0 ys) :
    Calls Try.prog 28 #[wrV k c s q v de (some ⟨g, 0, none⟩) len cap, wrV k' c' s' q' v' de' (some ⟨g', 0, none⟩) len' cap'] w fun e w' => e = .returned (.int .i64 (wcmp k c s q v de xs k' c' s' q' v' de' ys)) ∧ Below w.heap.size w w' :=
  implWriteCmp_gen k c s q v de _ xs len cap k' c' s' q' v' de' _ ys len' cap' w hl hl' hn hm (.inr ⟨g, 0, rfl, hlt, hh⟩) (.inr ⟨g', 0, rfl, hlt', hh'⟩)

end Go.Proofs.Ytojgahcogpediaa

/- The contract of spec.WriteCmp. -/
namespace Go.Proofs.Ytojgahcogpediaa
open Go.ChangeShapes Go.WideShapes Go.ChangeAt Go.RowKit Go.Joins

set_option maxHeartbeats 1000000 in
theorem specWriteCmp_tag1 (k v : Int) (c s q c' s' q' : Int) (de : Bool) (a : Option Addr) (len cap : Nat) (k' v' : Int) (de' : Bool) (a' : Option Addr) (len' cap' : Nat) (w : World) (h : ¬ c = c') :
    Calls Try.prog 27 #[wrV k c s q v de a len cap, wrV k' c' s' q' v' de' a' len' cap'] w fun e w' => e = .returned (.int .i64 (tcmp c s q c' s' q')) ∧ Below w.heap.size w w' := by
  go_enter Try.func27, Try.ntmps27
  go_wp2_with fail
  refine (specTagCmp_any _ _ _ _ _ _ _).mono ?_
  rintro e w1 ⟨rfl, hb⟩
  have HB : Hid (Below w.heap.size w w1) := below_step (((Below.refl _ _).alloc (Nat.le_refl _) _).alloc (by simp) _) (by simp; omega) hb
  clear hb
  go_wp2
  go_ret
  exact ⟨rfl, HB.out⟩

set_option maxHeartbeats 1000000 in
theorem specWriteCmp_tag2 (k v : Int) (c s q s' q' : Int) (de : Bool) (a : Option Addr) (len cap : Nat) (k' v' : Int) (de' : Bool) (a' : Option Addr) (len' cap' : Nat) (w : World) (h : ¬ s = s') :
    Calls Try.prog 27 #[wrV k c s q v de a len cap, wrV k' c s' q' v' de' a' len' cap'] w fun e w' => e = .returned (.int .i64 (tcmp c s q c s' q')) ∧ Below w.heap.size w w' := by
  go_enter Try.func27, Try.ntmps27
  go_wp2_with fail
  refine (specTagCmp_any _ _ _ _ _ _ _).mono ?_
  rintro e w1 ⟨rfl, hb⟩
  have HB : Hid (Below w.heap.size w w1) := below_step (((Below.refl _ _).alloc (Nat.le_refl _) _).alloc (by simp) _) (by simp; omega) hb
  clear hb
  go_wp2
  go_ret
  exact ⟨rfl, HB.out⟩

set_option maxHeartbeats 1000000 in
theorem specWriteCmp_tag3 (k v : Int) (c s q q' : Int) (de : Bool) (a : Option Addr) (len cap : Nat) (k' v' : Int) (de' : Bool) (a' : Option Addr) (len' cap' : Nat) (w : World) (h : ¬ q = q') :
    Calls Try.prog 27 #[wrV k c s q v de a len cap, wrV k' c s q' v' de' a' len' cap'] w fun e w' => e = .returned (.int .i64 (tcmp c s q c s q')) ∧ Below w.heap.size w w' := by
  go_enter Try.func27, Try.ntmps27
  go_wp2_with fail
  refine (specTagCmp_any _ _ _ _ _ _ _).mono ?_
  rintro e w1 ⟨rfl, hb⟩
  have HB : Hid (Below w.heap.size w w1) := below_step (((Below.refl _ _).alloc (Nat.le_refl _) _).alloc (by simp) _) (by simp; omega) hb
  clear hb
  go_wp2
  go_ret
  exact ⟨rfl, HB.out⟩

set_option maxHeartbeats 1000000 in
theorem specWriteCmp_key (k c s q v : Int) (de : Bool) (a : Option Addr) (len cap : Nat) (k' v' : Int) (de' : Bool) (a' : Option Addr) (len' cap' : Nat) (w : World) (h : k ≠ k') :
    Calls Try.prog 27 #[wrV k c s q v de a len cap, wrV k' c s q v' de' a' len' cap'] w fun e w' => e = .returned (.int .i64 (sgn k k')) ∧ Below w.heap.size w w' := by
  have h' : (k != k') = true := by rw [bne_iff_ne]; exact h
  clear h
  go_enter Try.func27, Try.ntmps27
  go_wp2_with (go_at_call 62; refine (sign_any _ _ _).mono ?_; rintro e w' ⟨rfl, rfl⟩)
  go_ret
  exact ⟨rfl, ((Below.refl _ _).alloc (Nat.le_refl _) _).alloc (by simp) _⟩

set_option maxHeartbeats 1000000 in
theorem specWriteCmp_val (k c s q v : Int) (de : Bool) (a : Option Addr) (len cap : Nat) (v' : Int) (de' : Bool) (a' : Option Addr) (len' cap' : Nat) (w : World) (h : v ≠ v') :
    Calls Try.prog 27 #[wrV k c s q v de a len cap, wrV k c s q v' de' a' len' cap'] w fun e w' => e = .returned (.int .i64 (sgn v v')) ∧ Below w.heap.size w w' := by
  have h' : (v != v') = true := by rw [bne_iff_ne]; exact h
  clear h
  go_enter Try.func27, Try.ntmps27
  go_wp2_with (go_at_call 62; refine (sign_any _ _ _).mono ?_; rintro e w' ⟨rfl, rfl⟩)
  go_ret
  exact ⟨rfl, ((Below.refl _ _).alloc (Nat.le_refl _) _).alloc (by simp) _⟩

set_option maxHeartbeats 1000000 in
theorem specWriteCmp_dead_false (k c s q v : Int) (a : Option Addr) (len cap : Nat) (a' : Option Addr) (len' cap' : Nat) (w : World) :
    Calls Try.prog 27 #[wrV k c s q v false a len cap, wrV k c s q v true a' len' cap'] w fun e w' => e = .returned (.int .i64 (sgn (bit false) (bit true))) ∧ Below w.heap.size w w' := by
  go_enter Try.func27, Try.ntmps27
  go_wp2_with fail
  obtain ⟨e0, e1, e2, e3, e4, e5, e6, f0, f1, f2, f3, f4, f5, f6, hz, hB⟩ := two_start w k c s q v false a len cap k c s q v true a' len' cap' 41 41
  generalize ((w.alloc (.cells #[.int .i64 k, .int .i64 c, .int .i64 s, .int .i64 q, .int .i64 v, .bool false, .slice a len cap] 41)).alloc (.cells #[.int .i64 k, .int .i64 c, .int .i64 s, .int .i64 q, .int .i64 v, .bool true, .slice a' len' cap'] 41)) = W at *
  have hz0 : w.heap.size < W.heap.size := by omega
  have g5 := aft_cell hz0 e5
  have g5' := aft_cell hz f5
  have ne := aft_some W
  clear e0 e1 e2 e3 e4 e5 e6 f0 f1 f2 f3 f4 f5 f6
  refine wp_region_aft (by kernel_rfl) (by kernel_rfl) ?_
  repeat (first | go_big_quiet_step (first | (go_at_call 63; exact aft_same (bit_any _ _)) | (go_at_call 62; exact aft_same (sign_any _ _ _))))
  refine wpQuiet_nil ?_
  intro wq hq
  have HB : Hid (Below w.heap.size w wq) := below_step hB hB.size hq
  clear hq hB g5 g5' ne
  go_wp2
  go_ret
  exact ⟨rfl, HB.out⟩

set_option maxHeartbeats 1000000 in
theorem specWriteCmp_dead_true (k c s q v : Int) (a : Option Addr) (len cap : Nat) (a' : Option Addr) (len' cap' : Nat) (w : World) :
    Calls Try.prog 27 #[wrV k c s q v true a len cap, wrV k c s q v false a' len' cap'] w fun e w' => e = .returned (.int .i64 (sgn (bit true) (bit false))) ∧ Below w.heap.size w w' := by
  go_enter Try.func27, Try.ntmps27
  go_wp2_with fail
  obtain ⟨e0, e1, e2, e3, e4, e5, e6, f0, f1, f2, f3, f4, f5, f6, hz, hB⟩ := two_start w k c s q v true a len cap k c s q v false a' len' cap' 41 41
  generalize ((w.alloc (.cells #[.int .i64 k, .int .i64 c, .int .i64 s, .int .i64 q, .int .i64 v, .bool true, .slice a len cap] 41)).alloc (.cells #[.int .i64 k, .int .i64 c, .int .i64 s, .int .i64 q, .int .i64 v, .bool false, .slice a' len' cap'] 41)) = W at *
  have hz0 : w.heap.size < W.heap.size := by omega
  have g5 := aft_cell hz0 e5
  have g5' := aft_cell hz f5
  have ne := aft_some W
  clear e0 e1 e2 e3 e4 e5 e6 f0 f1 f2 f3 f4 f5 f6
  refine wp_region_aft (by kernel_rfl) (by kernel_rfl) ?_
  repeat (first | go_big_quiet_step (first | (go_at_call 63; exact aft_same (bit_any _ _)) | (go_at_call 62; exact aft_same (sign_any _ _ _))))
  refine wpQuiet_nil ?_
  intro wq hq
  have HB : Hid (Below w.heap.size w wq) := below_step hB hB.size hq
  clear hq hB g5 g5' ne
  go_wp2
  go_ret
  exact ⟨rfl, HB.out⟩

set_option maxRecDepth 100000 in
set_option maxHeartbeats 4000000 in
theorem specWriteCmp_deps (k c s q v : Int) (de : Bool) (a : Option Addr) (xs : List Dp) (cap : Nat) (a' : Option Addr) (ys : List Dp) (cap' : Nat) (w : World)
    (hn : xs.length ≤ 1048576) (_hm : ys.length ≤ 1048576) (hh : IsDeps w a xs) (hh' : IsDeps w a' ys) :
    Calls Try.prog 27 #[wrV k c s q v de a xs.length cap, wrV k c s q v de a' ys.length cap'] w fun e w' => e = .returned (.int .i64 (depsCmp xs ys)) ∧ Below w.heap.size w w' := by
  have HH : Hid (IsDeps w a xs) := hh
  have HH' : Hid (IsDeps w a' ys) := hh'
  clear hh hh'
  have HT := two_start w k c s q v de a xs.length cap k c s q v de a' ys.length cap' 41 41
  have HT' : Hid (TwoIn w k c s q v de a xs.length cap k c s q v de a' ys.length cap' ((w.alloc (.cells #[.int .i64 k, .int .i64 c, .int .i64 s, .int .i64 q, .int .i64 v, .bool de, .slice a xs.length cap] 41)).alloc (.cells #[.int .i64 k, .int .i64 c, .int .i64 s, .int .i64 q, .int .i64 v, .bool de, .slice a' ys.length cap'] 41))) := HT
  clear HT
  have hde : (de != de) = false := by cases de <;> rfl
  go_enter Try.func27, Try.ntmps27
  go_wp2
  go_loopw [5] (fun i wr => ∃ j : Nat, j ≤ xs.length ∧ j ≤ ys.length ∧ i = .int .i64 j ∧ Hid (∀ l, l < j → dcmp (xs.getD l dz) (ys.getD l dz) = 0) ∧ Hid (TwoIn w k c s q v de a xs.length cap k c s q v de a' ys.length cap' wr)) (fun i _ => xs.length - (intOf i).toNat)
  case atStart => exact ⟨0, Nat.zero_le _, Nat.zero_le _, rfl, fun l hl => by omega, HT'⟩
  case round =>
    clear HT'
    obtain ⟨j, hj, hjy, rfl, HG, HT⟩ := hrel
    obtain ⟨-, -, -, -, -, -, b6, -, -, -, -, -, -, b6', hzb', HB0⟩ := HT.out
    have HB : Hid (Below w.heap.size w wr) := HB0
    have hzb : w.heap.size < wr.heap.size := by omega
    clear HB0
    have i1 : (0 : Int) ≤ (j : Int) := by omega
    by_cases hj' : j < xs.length
    · have i2 : (j : Int) < (xs.length : Int) := by omega
      by_cases hy' : j < ys.length
      · have i3 : (j : Int) < (ys.length : Int) := by omega
        obtain ⟨g, o, rfl, hz, e0, e1, e2, e3⟩ := HH.out.at HB.out hj'
        obtain ⟨g', o', rfl, hz', f0, f1, f2, f3⟩ := HH'.out.at HB.out hy'
        clear HH HH'
        have HN : Hid (dcmp ⟨(xs.getD j dz).k, (xs.getD j dz).c, (xs.getD j dz).s, (xs.getD j dz).q⟩ ⟨(ys.getD j dz).k, (ys.getD j dz).c, (ys.getD j dz).s, (ys.getD j dz).q⟩ ≠ 0 → depsCmp xs ys = dcmp ⟨(xs.getD j dz).k, (xs.getD j dz).c, (xs.getD j dz).s, (xs.getD j dz).q⟩ ⟨(ys.getD j dz).k, (ys.getD j dz).c, (ys.getD j dz).s, (ys.getD j dz).q⟩) := fun h => depsCmp_first xs ys j hj' hy' HG.out h
        have HG' : Hid (dcmp ⟨(xs.getD j dz).k, (xs.getD j dz).c, (xs.getD j dz).s, (xs.getD j dz).q⟩ ⟨(ys.getD j dz).k, (ys.getD j dz).c, (ys.getD j dz).s, (ys.getD j dz).q⟩ = 0 → ∀ l, l < j + 1 → dcmp (xs.getD l dz) (ys.getD l dz) = 0) := fun h0 l hl => by
          by_cases h : l < j
          · exact HG.out l h
          · have : l = j := by omega
            rw [this]
            exact h0
        generalize (xs.getD j dz).k = x0 at *
        generalize (xs.getD j dz).c = x1 at *
        generalize (xs.getD j dz).s = x2 at *
        generalize (xs.getD j dz).q = x3 at *
        generalize (ys.getD j dz).k = y0 at *
        generalize (ys.getD j dz).c = y1 at *
        generalize (ys.getD j dz).s = y2 at *
        generalize (ys.getD j dz).q = y3 at *
        clear HB
        by_cases hk : x0 = y0
        · subst hk
          by_cases t1 : x1 = y1
          · subst t1
            by_cases t2 : x2 = y2
            · subst t2
              by_cases t3 : x3 = y3
              · subst t3
                have HG2 : Hid (∀ l, l < j + 1 → dcmp (xs.getD l dz) (ys.getD l dz) = 0) := HG'.out (by unfold dcmp; rw [if_neg (by simp)]; exact tcmp_self _ _ _)
                clear HN HG' HG
                go_wp2_with fail
                have ge0 := aft_cell hz e0
                have ge1 := aft_cell hz e1
                have ge2 := aft_cell hz e2
                have ge3 := aft_cell hz e3
                have gf0 := aft_cell hz' f0
                have gf1 := aft_cell hz' f1
                have gf2 := aft_cell hz' f2
                have gf3 := aft_cell hz' f3
                have gb6 := aft_cell hzb b6
                have gb6' := aft_cell hzb' b6'
                have ne := aft_some wr
                refine wp_region_aft (by kernel_rfl) (by kernel_rfl) ?_
                repeat (first | go_big_quiet_step (fail))
                refine wpQuiet_nil ?_
                intro wq hq
                replace e0 := held_cell hq e0 hz
                replace e1 := held_cell hq e1 hz
                replace e2 := held_cell hq e2 hz
                replace e3 := held_cell hq e3 hz
                replace f0 := held_cell hq f0 hz'
                replace f1 := held_cell hq f1 hz'
                replace f2 := held_cell hq f2 hz'
                replace f3 := held_cell hq f3 hz'
                replace b6 := held_cell hq b6 hzb
                replace b6' := held_cell hq b6' hzb'
                have HT1 : Hid (TwoIn w k c s q v de (some ⟨g, o, none⟩) xs.length cap k c s q v de (some ⟨g', o', none⟩) ys.length cap' wq) := two_step HT.out hq
                replace hz := Nat.lt_of_lt_of_le hz hq.size
                replace hz' := Nat.lt_of_lt_of_le hz' hq.size
                replace hzb := Nat.lt_of_lt_of_le hzb hq.size
                replace hzb' := Nat.lt_of_lt_of_le hzb' hq.size
                clear ge0 ge1 ge2 ge3 gf0 gf1 gf2 gf3 gb6 gb6' ne hq HT
                go_wp2_with fail
                have ge0 := aft_cell hz e0
                have ge1 := aft_cell hz e1
                have ge2 := aft_cell hz e2
                have ge3 := aft_cell hz e3
                have gf0 := aft_cell hz' f0
                have gf1 := aft_cell hz' f1
                have gf2 := aft_cell hz' f2
                have gf3 := aft_cell hz' f3
                have gb6 := aft_cell hzb b6
                have gb6' := aft_cell hzb' b6'
                have ne := aft_some wq
                refine wp_region_aft (by kernel_rfl) (by kernel_rfl) ?_
                repeat (first | go_big_quiet_step (fail))
                refine wpQuiet_nil ?_
                intro wu hu
                have HT2 : Hid (TwoIn w k c s q v de (some ⟨g, o, none⟩) xs.length cap k c s q v de (some ⟨g', o', none⟩) ys.length cap' wu) := two_step HT1.out hu
                clear hu HT1
                go_wp2
                exact ⟨⟨j + 1, by omega, by omega, by go_num, HG2, HT2⟩, by simp [intOf]; omega⟩
              · have HD : Hid (depsCmp xs ys = tcmp x1 x2 x3 x1 x2 y3) := by
                  have h1 : dcmp ⟨x0, x1, x2, x3⟩ ⟨x0, x1, x2, y3⟩ = tcmp x1 x2 x3 x1 x2 y3 := by unfold dcmp; rw [if_neg (by simp)]
                  show depsCmp xs ys = tcmp x1 x2 x3 x1 x2 y3
                  rw [← h1]
                  exact HN.out (by rw [h1]; intro h0; have h2 := tcmp_zero.1 h0; omega)
                clear HN HG'
                go_wp2_with fail
                have ge0 := aft_cell hz e0
                have ge1 := aft_cell hz e1
                have ge2 := aft_cell hz e2
                have ge3 := aft_cell hz e3
                have gf0 := aft_cell hz' f0
                have gf1 := aft_cell hz' f1
                have gf2 := aft_cell hz' f2
                have gf3 := aft_cell hz' f3
                have gb6 := aft_cell hzb b6
                have gb6' := aft_cell hzb' b6'
                have ne := aft_some wr
                refine wp_region_aft (by kernel_rfl) (by kernel_rfl) ?_
                repeat (first | go_big_quiet_step (fail))
                refine wpQuiet_nil ?_
                intro wq hq
                replace e0 := held_cell hq e0 hz
                replace e1 := held_cell hq e1 hz
                replace e2 := held_cell hq e2 hz
                replace e3 := held_cell hq e3 hz
                replace f0 := held_cell hq f0 hz'
                replace f1 := held_cell hq f1 hz'
                replace f2 := held_cell hq f2 hz'
                replace f3 := held_cell hq f3 hz'
                replace b6 := held_cell hq b6 hzb
                replace b6' := held_cell hq b6' hzb'
                have HT1 : Hid (TwoIn w k c s q v de (some ⟨g, o, none⟩) xs.length cap k c s q v de (some ⟨g', o', none⟩) ys.length cap' wq) := two_step HT.out hq
                replace hz := Nat.lt_of_lt_of_le hz hq.size
                replace hz' := Nat.lt_of_lt_of_le hz' hq.size
                replace hzb := Nat.lt_of_lt_of_le hzb hq.size
                replace hzb' := Nat.lt_of_lt_of_le hzb' hq.size
                clear ge0 ge1 ge2 ge3 gf0 gf1 gf2 gf3 gb6 gb6' ne hq HT
                go_wp2_with fail
                have ge0 := aft_cell hz e0
                have ge1 := aft_cell hz e1
                have ge2 := aft_cell hz e2
                have ge3 := aft_cell hz e3
                have gf0 := aft_cell hz' f0
                have gf1 := aft_cell hz' f1
                have gf2 := aft_cell hz' f2
                have gf3 := aft_cell hz' f3
                have gb6 := aft_cell hzb b6
                have gb6' := aft_cell hzb' b6'
                have ne := aft_some wq
                refine wp_region_aft (by kernel_rfl) (by kernel_rfl) ?_
                repeat (first | go_big_quiet_step (fail))
                refine wpQuiet_nil ?_
                intro wu hu
                replace e0 := held_cell hu e0 hz
                replace e1 := held_cell hu e1 hz
                replace e2 := held_cell hu e2 hz
                replace e3 := held_cell hu e3 hz
                replace f0 := held_cell hu f0 hz'
                replace f1 := held_cell hu f1 hz'
                replace f2 := held_cell hu f2 hz'
                replace f3 := held_cell hu f3 hz'
                replace b6 := held_cell hu b6 hzb
                replace b6' := held_cell hu b6' hzb'
                have HT2 : Hid (TwoIn w k c s q v de (some ⟨g, o, none⟩) xs.length cap k c s q v de (some ⟨g', o', none⟩) ys.length cap' wu) := two_step HT1.out hu
                replace hz := Nat.lt_of_lt_of_le hz hu.size
                replace hz' := Nat.lt_of_lt_of_le hz' hu.size
                replace hzb := Nat.lt_of_lt_of_le hzb hu.size
                replace hzb' := Nat.lt_of_lt_of_le hzb' hu.size
                clear ge0 ge1 ge2 ge3 gf0 gf1 gf2 gf3 gb6 gb6' ne hu HT1
                go_wp2_with fail
                have ge0 := aft_cell hz e0
                have ge1 := aft_cell hz e1
                have ge2 := aft_cell hz e2
                have ge3 := aft_cell hz e3
                have gf0 := aft_cell hz' f0
                have gf1 := aft_cell hz' f1
                have gf2 := aft_cell hz' f2
                have gf3 := aft_cell hz' f3
                have gb6 := aft_cell hzb b6
                have gb6' := aft_cell hzb' b6'
                have ne := aft_some wu
                refine wp_region_aft (by kernel_rfl) (by kernel_rfl) ?_
                repeat (first | go_big_quiet_step ((go_at_call 61; exact aft_of (specTagCmp_any _ _ _ _ _ _ _))))
                refine wpQuiet_nil ?_
                intro wp hp
                have HT3 : Hid (TwoIn w k c s q v de (some ⟨g, o, none⟩) xs.length cap k c s q v de (some ⟨g', o', none⟩) ys.length cap' wp) := two_step HT2.out hp
                clear hp
                go_wp2
                go_ret
                exact ⟨ret_i64 HD.out.symm, HT3.out.2.2.2.2.2.2.2.2.2.2.2.2.2.2.2⟩
            · have HD : Hid (depsCmp xs ys = tcmp x1 x2 x3 x1 y2 y3) := by
                have h1 : dcmp ⟨x0, x1, x2, x3⟩ ⟨x0, x1, y2, y3⟩ = tcmp x1 x2 x3 x1 y2 y3 := by unfold dcmp; rw [if_neg (by simp)]
                show depsCmp xs ys = tcmp x1 x2 x3 x1 y2 y3
                rw [← h1]
                exact HN.out (by rw [h1]; intro h0; have h2 := tcmp_zero.1 h0; omega)
              clear HN HG'
              go_wp2_with fail
              have ge0 := aft_cell hz e0
              have ge1 := aft_cell hz e1
              have ge2 := aft_cell hz e2
              have ge3 := aft_cell hz e3
              have gf0 := aft_cell hz' f0
              have gf1 := aft_cell hz' f1
              have gf2 := aft_cell hz' f2
              have gf3 := aft_cell hz' f3
              have gb6 := aft_cell hzb b6
              have gb6' := aft_cell hzb' b6'
              have ne := aft_some wr
              refine wp_region_aft (by kernel_rfl) (by kernel_rfl) ?_
              repeat (first | go_big_quiet_step (fail))
              refine wpQuiet_nil ?_
              intro wq hq
              replace e0 := held_cell hq e0 hz
              replace e1 := held_cell hq e1 hz
              replace e2 := held_cell hq e2 hz
              replace e3 := held_cell hq e3 hz
              replace f0 := held_cell hq f0 hz'
              replace f1 := held_cell hq f1 hz'
              replace f2 := held_cell hq f2 hz'
              replace f3 := held_cell hq f3 hz'
              replace b6 := held_cell hq b6 hzb
              replace b6' := held_cell hq b6' hzb'
              have HT1 : Hid (TwoIn w k c s q v de (some ⟨g, o, none⟩) xs.length cap k c s q v de (some ⟨g', o', none⟩) ys.length cap' wq) := two_step HT.out hq
              replace hz := Nat.lt_of_lt_of_le hz hq.size
              replace hz' := Nat.lt_of_lt_of_le hz' hq.size
              replace hzb := Nat.lt_of_lt_of_le hzb hq.size
              replace hzb' := Nat.lt_of_lt_of_le hzb' hq.size
              clear ge0 ge1 ge2 ge3 gf0 gf1 gf2 gf3 gb6 gb6' ne hq HT
              go_wp2_with fail
              have ge0 := aft_cell hz e0
              have ge1 := aft_cell hz e1
              have ge2 := aft_cell hz e2
              have ge3 := aft_cell hz e3
              have gf0 := aft_cell hz' f0
              have gf1 := aft_cell hz' f1
              have gf2 := aft_cell hz' f2
              have gf3 := aft_cell hz' f3
              have gb6 := aft_cell hzb b6
              have gb6' := aft_cell hzb' b6'
              have ne := aft_some wq
              refine wp_region_aft (by kernel_rfl) (by kernel_rfl) ?_
              repeat (first | go_big_quiet_step (fail))
              refine wpQuiet_nil ?_
              intro wu hu
              replace e0 := held_cell hu e0 hz
              replace e1 := held_cell hu e1 hz
              replace e2 := held_cell hu e2 hz
              replace e3 := held_cell hu e3 hz
              replace f0 := held_cell hu f0 hz'
              replace f1 := held_cell hu f1 hz'
              replace f2 := held_cell hu f2 hz'
              replace f3 := held_cell hu f3 hz'
              replace b6 := held_cell hu b6 hzb
              replace b6' := held_cell hu b6' hzb'
              have HT2 : Hid (TwoIn w k c s q v de (some ⟨g, o, none⟩) xs.length cap k c s q v de (some ⟨g', o', none⟩) ys.length cap' wu) := two_step HT1.out hu
              replace hz := Nat.lt_of_lt_of_le hz hu.size
              replace hz' := Nat.lt_of_lt_of_le hz' hu.size
              replace hzb := Nat.lt_of_lt_of_le hzb hu.size
              replace hzb' := Nat.lt_of_lt_of_le hzb' hu.size
              clear ge0 ge1 ge2 ge3 gf0 gf1 gf2 gf3 gb6 gb6' ne hu HT1
              go_wp2_with fail
              have ge0 := aft_cell hz e0
              have ge1 := aft_cell hz e1
              have ge2 := aft_cell hz e2
              have ge3 := aft_cell hz e3
              have gf0 := aft_cell hz' f0
              have gf1 := aft_cell hz' f1
              have gf2 := aft_cell hz' f2
              have gf3 := aft_cell hz' f3
              have gb6 := aft_cell hzb b6
              have gb6' := aft_cell hzb' b6'
              have ne := aft_some wu
              refine wp_region_aft (by kernel_rfl) (by kernel_rfl) ?_
              repeat (first | go_big_quiet_step ((go_at_call 61; exact aft_of (specTagCmp_any _ _ _ _ _ _ _))))
              refine wpQuiet_nil ?_
              intro wp hp
              have HT3 : Hid (TwoIn w k c s q v de (some ⟨g, o, none⟩) xs.length cap k c s q v de (some ⟨g', o', none⟩) ys.length cap' wp) := two_step HT2.out hp
              clear hp
              go_wp2
              go_ret
              exact ⟨ret_i64 HD.out.symm, HT3.out.2.2.2.2.2.2.2.2.2.2.2.2.2.2.2⟩
          · have HD : Hid (depsCmp xs ys = tcmp x1 x2 x3 y1 y2 y3) := by
              have h1 : dcmp ⟨x0, x1, x2, x3⟩ ⟨x0, y1, y2, y3⟩ = tcmp x1 x2 x3 y1 y2 y3 := by unfold dcmp; rw [if_neg (by simp)]
              show depsCmp xs ys = tcmp x1 x2 x3 y1 y2 y3
              rw [← h1]
              exact HN.out (by rw [h1]; intro h0; have h2 := tcmp_zero.1 h0; omega)
            clear HN HG'
            go_wp2_with fail
            have ge0 := aft_cell hz e0
            have ge1 := aft_cell hz e1
            have ge2 := aft_cell hz e2
            have ge3 := aft_cell hz e3
            have gf0 := aft_cell hz' f0
            have gf1 := aft_cell hz' f1
            have gf2 := aft_cell hz' f2
            have gf3 := aft_cell hz' f3
            have gb6 := aft_cell hzb b6
            have gb6' := aft_cell hzb' b6'
            have ne := aft_some wr
            refine wp_region_aft (by kernel_rfl) (by kernel_rfl) ?_
            repeat (first | go_big_quiet_step (fail))
            refine wpQuiet_nil ?_
            intro wq hq
            replace e0 := held_cell hq e0 hz
            replace e1 := held_cell hq e1 hz
            replace e2 := held_cell hq e2 hz
            replace e3 := held_cell hq e3 hz
            replace f0 := held_cell hq f0 hz'
            replace f1 := held_cell hq f1 hz'
            replace f2 := held_cell hq f2 hz'
            replace f3 := held_cell hq f3 hz'
            replace b6 := held_cell hq b6 hzb
            replace b6' := held_cell hq b6' hzb'
            have HT1 : Hid (TwoIn w k c s q v de (some ⟨g, o, none⟩) xs.length cap k c s q v de (some ⟨g', o', none⟩) ys.length cap' wq) := two_step HT.out hq
            replace hz := Nat.lt_of_lt_of_le hz hq.size
            replace hz' := Nat.lt_of_lt_of_le hz' hq.size
            replace hzb := Nat.lt_of_lt_of_le hzb hq.size
            replace hzb' := Nat.lt_of_lt_of_le hzb' hq.size
            clear ge0 ge1 ge2 ge3 gf0 gf1 gf2 gf3 gb6 gb6' ne hq HT
            go_wp2_with fail
            have ge0 := aft_cell hz e0
            have ge1 := aft_cell hz e1
            have ge2 := aft_cell hz e2
            have ge3 := aft_cell hz e3
            have gf0 := aft_cell hz' f0
            have gf1 := aft_cell hz' f1
            have gf2 := aft_cell hz' f2
            have gf3 := aft_cell hz' f3
            have gb6 := aft_cell hzb b6
            have gb6' := aft_cell hzb' b6'
            have ne := aft_some wq
            refine wp_region_aft (by kernel_rfl) (by kernel_rfl) ?_
            repeat (first | go_big_quiet_step (fail))
            refine wpQuiet_nil ?_
            intro wu hu
            replace e0 := held_cell hu e0 hz
            replace e1 := held_cell hu e1 hz
            replace e2 := held_cell hu e2 hz
            replace e3 := held_cell hu e3 hz
            replace f0 := held_cell hu f0 hz'
            replace f1 := held_cell hu f1 hz'
            replace f2 := held_cell hu f2 hz'
            replace f3 := held_cell hu f3 hz'
            replace b6 := held_cell hu b6 hzb
            replace b6' := held_cell hu b6' hzb'
            have HT2 : Hid (TwoIn w k c s q v de (some ⟨g, o, none⟩) xs.length cap k c s q v de (some ⟨g', o', none⟩) ys.length cap' wu) := two_step HT1.out hu
            replace hz := Nat.lt_of_lt_of_le hz hu.size
            replace hz' := Nat.lt_of_lt_of_le hz' hu.size
            replace hzb := Nat.lt_of_lt_of_le hzb hu.size
            replace hzb' := Nat.lt_of_lt_of_le hzb' hu.size
            clear ge0 ge1 ge2 ge3 gf0 gf1 gf2 gf3 gb6 gb6' ne hu HT1
            go_wp2_with fail
            have ge0 := aft_cell hz e0
            have ge1 := aft_cell hz e1
            have ge2 := aft_cell hz e2
            have ge3 := aft_cell hz e3
            have gf0 := aft_cell hz' f0
            have gf1 := aft_cell hz' f1
            have gf2 := aft_cell hz' f2
            have gf3 := aft_cell hz' f3
            have gb6 := aft_cell hzb b6
            have gb6' := aft_cell hzb' b6'
            have ne := aft_some wu
            refine wp_region_aft (by kernel_rfl) (by kernel_rfl) ?_
            repeat (first | go_big_quiet_step ((go_at_call 61; exact aft_of (specTagCmp_any _ _ _ _ _ _ _))))
            refine wpQuiet_nil ?_
            intro wp hp
            have HT3 : Hid (TwoIn w k c s q v de (some ⟨g, o, none⟩) xs.length cap k c s q v de (some ⟨g', o', none⟩) ys.length cap' wp) := two_step HT2.out hp
            clear hp
            go_wp2
            go_ret
            exact ⟨ret_i64 HD.out.symm, HT3.out.2.2.2.2.2.2.2.2.2.2.2.2.2.2.2⟩
        · have HD : Hid (depsCmp xs ys = sgn x0 y0) := by
            have h1 : dcmp ⟨x0, x1, x2, x3⟩ ⟨y0, y1, y2, y3⟩ = sgn x0 y0 := by unfold dcmp; rw [if_pos hk]
            show depsCmp xs ys = sgn x0 y0
            rw [← h1]
            exact HN.out (by rw [h1]; intro h0; exact hk (sgn_zero.1 h0))
          have hk' : (x0 != y0) = true := by rw [bne_iff_ne]; exact hk
          clear hk HN HG'
          go_wp2_with fail
          have ge0 := aft_cell hz e0
          have ge1 := aft_cell hz e1
          have ge2 := aft_cell hz e2
          have ge3 := aft_cell hz e3
          have gf0 := aft_cell hz' f0
          have gf1 := aft_cell hz' f1
          have gf2 := aft_cell hz' f2
          have gf3 := aft_cell hz' f3
          have gb6 := aft_cell hzb b6
          have gb6' := aft_cell hzb' b6'
          have ne := aft_some wr
          refine wp_region_aft (by kernel_rfl) (by kernel_rfl) ?_
          repeat (first | go_big_quiet_step (fail))
          refine wpQuiet_nil ?_
          intro wq hq
          replace e0 := held_cell hq e0 hz
          replace e1 := held_cell hq e1 hz
          replace e2 := held_cell hq e2 hz
          replace e3 := held_cell hq e3 hz
          replace f0 := held_cell hq f0 hz'
          replace f1 := held_cell hq f1 hz'
          replace f2 := held_cell hq f2 hz'
          replace f3 := held_cell hq f3 hz'
          replace b6 := held_cell hq b6 hzb
          replace b6' := held_cell hq b6' hzb'
          have HT1 : Hid (TwoIn w k c s q v de (some ⟨g, o, none⟩) xs.length cap k c s q v de (some ⟨g', o', none⟩) ys.length cap' wq) := two_step HT.out hq
          replace hz := Nat.lt_of_lt_of_le hz hq.size
          replace hz' := Nat.lt_of_lt_of_le hz' hq.size
          replace hzb := Nat.lt_of_lt_of_le hzb hq.size
          replace hzb' := Nat.lt_of_lt_of_le hzb' hq.size
          clear ge0 ge1 ge2 ge3 gf0 gf1 gf2 gf3 gb6 gb6' ne hq HT
          go_wp2_with fail
          have ge0 := aft_cell hz e0
          have ge1 := aft_cell hz e1
          have ge2 := aft_cell hz e2
          have ge3 := aft_cell hz e3
          have gf0 := aft_cell hz' f0
          have gf1 := aft_cell hz' f1
          have gf2 := aft_cell hz' f2
          have gf3 := aft_cell hz' f3
          have gb6 := aft_cell hzb b6
          have gb6' := aft_cell hzb' b6'
          have ne := aft_some wq
          refine wp_region_aft (by kernel_rfl) (by kernel_rfl) ?_
          repeat (first | go_big_quiet_step ((go_at_call 62; exact aft_same (sign_any _ _ _))))
          refine wpQuiet_nil ?_
          intro wp hp
          have HT2 : Hid (TwoIn w k c s q v de (some ⟨g, o, none⟩) xs.length cap k c s q v de (some ⟨g', o', none⟩) ys.length cap' wp) := two_step HT1.out hp
          clear hp
          go_wp2
          go_ret
          exact ⟨ret_i64 HD.out.symm, HT2.out.2.2.2.2.2.2.2.2.2.2.2.2.2.2.2⟩
      · have HF : Hid (depsCmp xs ys = sgn xs.length ys.length) := depsCmp_none xs ys (fun i h1 h2 => HG.out i (by omega))
        go_wp2_with (go_at_call 62; refine (sign_any _ _ _).mono ?_; rintro e w' ⟨rfl, rfl⟩)
        go_ret
        exact ⟨ret_i64 HF.out.symm, HB.out⟩
    · have HF : Hid (depsCmp xs ys = sgn xs.length ys.length) := depsCmp_none xs ys (fun i h1 h2 => HG.out i (by omega))
      go_wp2_with (go_at_call 62; refine (sign_any _ _ _).mono ?_; rintro e w' ⟨rfl, rfl⟩)
      go_ret
      exact ⟨ret_i64 HF.out.symm, HB.out⟩

theorem specWriteCmp_gen (k c s q v : Int) (de : Bool) (a : Option Addr) (xs : List Dp) (len cap : Nat) (k' c' s' q' v' : Int) (de' : Bool) (a' : Option Addr) (ys : List Dp) (len' cap' : Nat) (w : World) (hl : xs.length = len) (hl' : ys.length = len')
    (hn : len ≤ 1048576) (hm : len' ≤ 1048576) (hh : IsDeps w a xs) (hh' : IsDeps w a' ys) :
    Calls Try.prog 27 #[wrV k c s q v de a len cap, wrV k' c' s' q' v' de' a' len' cap'] w fun e w' => e = .returned (.int .i64 (wcmp k c s q v de xs k' c' s' q' v' de' ys)) ∧ Below w.heap.size w w' := by
  subst hl hl'
  by_cases h1 : c = c'
  · subst h1
    by_cases h2 : s = s'
    · subst h2
      by_cases h3 : q = q'
      · subst h3
        by_cases h4 : k = k'
        · subst h4
          by_cases h5 : v = v'
          · subst h5
            by_cases h6 : de = de'
            · subst h6
              rw [wcmp_deps]
              exact specWriteCmp_deps k c s q v de a xs cap a' ys cap' w hn hm hh hh'
            · rw [wcmp_dead h6]
              cases de
              · cases de'
                · exact absurd rfl h6
                · exact specWriteCmp_dead_false k c s q v _ _ cap _ _ cap' w
              · cases de'
                · exact specWriteCmp_dead_true k c s q v _ _ cap _ _ cap' w
                · exact absurd rfl h6
          · rw [wcmp_val h5]
            exact specWriteCmp_val k c s q v de _ _ cap v' de' _ _ cap' w h5
        · rw [wcmp_key h4]
          exact specWriteCmp_key k c s q v de _ _ cap k' v' de' _ _ cap' w h4
      · rw [wcmp_tag (fun h => h3 h.2.2)]
        exact specWriteCmp_tag3 k v c s q q' de _ _ cap k' v' de' _ _ cap' w h3
    · rw [wcmp_tag (fun h => h2 h.2.1)]
      exact specWriteCmp_tag2 k v c s q s' q' de _ _ cap k' v' de' _ _ cap' w h2
  · rw [wcmp_tag (fun h => h1 h.1)]
    exact specWriteCmp_tag1 k v c s q c' s' q' de _ _ cap k' v' de' _ _ cap' w h1

theorem specWriteCmp_any (k c s q v : Int) (de : Bool) (g : Nat) (xs : List Dp) (len cap : Nat) (k' c' s' q' v' : Int) (de' : Bool) (g' : Nat) (ys : List Dp) (len' cap' : Nat) (w : World) (hl : xs.length = len) (hl' : ys.length = len')
    (hn : len ≤ 1048576) (hm : len' ≤ 1048576) (hlt : g < w.heap.size) (hlt' : g' < w.heap.size) (hh : HoldsDeps w g 0 xs) (hh' : HoldsDeps w g' 0 ys) :
    Calls Try.prog 27 #[wrV k c s q v de (some ⟨g, 0, none⟩) len cap, wrV k' c' s' q' v' de' (some ⟨g', 0, none⟩) len' cap'] w fun e w' => e = .returned (.int .i64 (wcmp k c s q v de xs k' c' s' q' v' de' ys)) ∧ Below w.heap.size w w' :=
  specWriteCmp_gen k c s q v de _ xs len cap k' c' s' q' v' de' _ ys len' cap' w hl hl' hn hm (.inr ⟨g, 0, rfl, hlt, hh⟩) (.inr ⟨g', 0, rfl, hlt', hh'⟩)

end Go.Proofs.Ytojgahcogpediaa
