/- At every two writes the law FnExactWriteCmp answers true: impl.WriteCmp answers as spec.WriteCmp and leaves both as they were. No conditions. -/
import Derived.Test.YtjonmjgegkdceahWriteCmp1
import Derived.Test.YtjonmjgegkdceahBoxes
import Derived.Test.YtjonmjgegkdceahOpenDeps
namespace Go.Proofs.Ytjonmjgegkdceah.lawWriteCmp
open Go.ChangeShapes Go.WideShapes Go.ChangeAt Go.RowKit Go.Joins
attribute [local go_sem ↓] Go.wp_at_zero Go.wp_at_succ

theorem start2 (w : World) (k c s q v : Int) (de : Bool) (a : Option Addr) (len cap : Nat) (k' c' s' q' v' : Int) (de' : Bool) (a' : Option Addr) (len' cap' : Nat) (t t' : Nat) (w1 : World)
    (hb : Below ((w.alloc (.cells #[.int .i64 k, .int .i64 c, .int .i64 s, .int .i64 q, .int .i64 v, .bool de, .slice a len cap] t)).alloc (.cells #[.int .i64 k', .int .i64 c', .int .i64 s', .int .i64 q', .int .i64 v', .bool de', .slice a' len' cap'] t')).heap.size ((w.alloc (.cells #[.int .i64 k, .int .i64 c, .int .i64 s, .int .i64 q, .int .i64 v, .bool de, .slice a len cap] t)).alloc (.cells #[.int .i64 k', .int .i64 c', .int .i64 s', .int .i64 q', .int .i64 v', .bool de', .slice a' len' cap'] t')) w1) :
    BoxAt w.heap.size w1 k c s q v de a len cap ∧ BoxAt (w.heap.size + 1) w1 k' c' s' q' v' de' a' len' cap' ∧ Below w.heap.size w w1 := by
  obtain ⟨e0, e1, e2, e3, e4, e5, e6, f0, f1, f2, f3, f4, f5, f6, hz, hB⟩ := two_step (two_start w k c s q v de a len cap k' c' s' q' v' de' a' len' cap' t t') hb
  exact ⟨⟨by omega, e0, e1, e2, e3, e4, e5, e6⟩, ⟨hz, f0, f1, f2, f3, f4, f5, f6⟩, hB⟩

set_option maxHeartbeats 1000000 in
theorem walk_big (k c s q v : Int) (de : Bool) (a : Option Addr) (len cap : Nat) (k' c' s' q' v' : Int) (de' : Bool) (a' : Option Addr) (len' cap' : Nat) (w : World) (hm : len ≤ maxLen) (h : 1048576 < len) :
    Calls Try.prog 5 #[wrV k c s q v de a len cap, wrV k' c' s' q' v' de' a' len' cap'] w fun e w' => e = .returned (.bool true) ∧ Below w.heap.size w w' := by
  go_enter Try.func5, Try.ntmps5
  go_wp2_with fail
  refine (szWrite_big _ _ _ _ _ _ _ _ _ _ _ (by omega) (by omega) (by omega) hm).mono ?_
  rintro e w1 ⟨rfl, hb⟩
  have HB : Hid (Below w.heap.size w w1) := (start2 _ _ _ _ _ _ _ _ _ _ _ _ _ _ _ _ _ _ _ _ _ _ hb).2.2
  clear hb
  go_wp2
  go_ret
  exact ⟨rfl, HB.out⟩

set_option maxHeartbeats 1000000 in
theorem walk_big2 (k c s q v : Int) (de : Bool) (a : Option Addr) (len cap : Nat) (k' c' s' q' v' : Int) (de' : Bool) (a' : Option Addr) (len' cap' : Nat) (w : World) (hm : len' ≤ maxLen) (h : len ≤ 1048576) (h2 : 1048576 < len + len') :
    Calls Try.prog 5 #[wrV k c s q v de a len cap, wrV k' c' s' q' v' de' a' len' cap'] w fun e w' => e = .returned (.bool true) ∧ Below w.heap.size w w' := by
  go_enter Try.func5, Try.ntmps5
  go_wp2_with fail
  refine (szWrite_small _ _ _ _ _ _ _ _ _ _ _ (by omega) (by omega) (by omega)).mono ?_
  rintro e w1 ⟨rfl, hb⟩
  obtain ⟨hA, hB, HB0⟩ := start2 _ _ _ _ _ _ _ _ _ _ _ _ _ _ _ _ _ _ _ _ _ _ hb
  have HB : Hid (Below w.heap.size w w1) := HB0
  have HBx : Hid (BoxAt (w.heap.size + 1) w1 k' c' s' q' v' de' a' len' cap') := hB
  clear hb HB0 hA hB
  have f0 := HBx.out.c0
  have f1 := HBx.out.c1
  have f2 := HBx.out.c2
  have f3 := HBx.out.c3
  have f4 := HBx.out.c4
  have f5 := HBx.out.c5
  have f6 := HBx.out.c6
  go_wp2_with fail
  refine (szWrite_big _ _ _ _ _ _ _ _ _ _ _ (by omega) (by omega) (by omega) hm).mono ?_
  rintro e w2 ⟨rfl, hb⟩
  have HB2 : Hid (Below w.heap.size w w2) := below_step HB.out HB.out.size hb
  clear hb
  go_wp2
  go_ret
  exact ⟨rfl, HB2.out⟩

set_option maxRecDepth 100000 in
set_option maxHeartbeats 8000000 in
theorem walk_small (k c s q v : Int) (de : Bool) (a : Option Addr) (cap : Nat) (k' c' s' q' v' : Int) (de' : Bool) (a' : Option Addr) (cap' : Nat) (xs ys : List Dp) (w : World) (hi : IsDeps w a xs) (hi' : IsDeps w a' ys) (h : xs.length + ys.length ≤ 1048576) :
    Calls Try.prog 5 #[wrV k c s q v de a xs.length cap, wrV k' c' s' q' v' de' a' ys.length cap'] w fun e w' => e = .returned (.bool true) ∧ Below w.heap.size w w' := by
  have HI : Hid (IsDeps w a xs) := hi
  have HI' : Hid (IsDeps w a' ys) := hi'
  have hn : xs.length ≤ 1048576 := by omega
  have hm : ys.length ≤ 1048576 := by omega
  clear hi hi'
  go_enter Try.func5, Try.ntmps5
  go_wp2_with fail
  refine (szWrite_small _ _ _ _ _ _ _ _ _ _ _ (by omega) (by omega) (by omega)).mono ?_
  rintro e w1 ⟨rfl, hb⟩
  obtain ⟨hA, hB, HB0⟩ := start2 _ _ _ _ _ _ _ _ _ _ _ _ _ _ _ _ _ _ _ _ _ _ hb
  have HB : Hid (Below w.heap.size w w1) := HB0
  have HAx : Hid (BoxAt w.heap.size w1 k c s q v de a xs.length cap) := hA
  have HBx : Hid (BoxAt (w.heap.size + 1) w1 k' c' s' q' v' de' a' ys.length cap') := hB
  clear hb HB0 hA hB
  have f0 := HBx.out.c0
  have f1 := HBx.out.c1
  have f2 := HBx.out.c2
  have f3 := HBx.out.c3
  have f4 := HBx.out.c4
  have f5 := HBx.out.c5
  have f6 := HBx.out.c6
  go_wp2_with fail
  refine (szWrite_small _ _ _ _ _ _ _ _ _ _ _ (by omega) (by omega) (by omega)).mono ?_
  rintro e w2 ⟨rfl, hb⟩
  have HB2 : Hid (Below w.heap.size w w2) := below_step HB.out HB.out.size hb
  have HAx2 : Hid (BoxAt w.heap.size w2 k c s q v de a xs.length cap) := HAx.out.step hb
  have HBx2 : Hid (BoxAt (w.heap.size + 1) w2 k' c' s' q' v' de' a' ys.length cap') := HBx.out.step hb
  clear hb f0 f1 f2 f3 f4 f5 f6 HB HAx HBx
  go_wp2_with fail
  go_region_held3 (fun w' => w'.cell? ⟨w.heap.size, 0, none⟩ = some (.int .i64 k) ∧ w'.cell? ⟨w.heap.size, 1, none⟩ = some (.int .i64 c) ∧ w'.cell? ⟨w.heap.size, 2, none⟩ = some (.int .i64 s) ∧ w'.cell? ⟨w.heap.size, 3, none⟩ = some (.int .i64 q) ∧ w'.cell? ⟨w.heap.size, 4, none⟩ = some (.int .i64 v) ∧ w'.cell? ⟨w.heap.size, 5, none⟩ = some (.bool de) ∧ w'.cell? ⟨w.heap.size, 6, none⟩ = some (.slice a xs.length cap) ∧ w'.cell? ⟨w.heap.size + 1, 0, none⟩ = some (.int .i64 k') ∧ w'.cell? ⟨w.heap.size + 1, 1, none⟩ = some (.int .i64 c') ∧ w'.cell? ⟨w.heap.size + 1, 2, none⟩ = some (.int .i64 s') ∧ w'.cell? ⟨w.heap.size + 1, 3, none⟩ = some (.int .i64 q') ∧ w'.cell? ⟨w.heap.size + 1, 4, none⟩ = some (.int .i64 v') ∧ w'.cell? ⟨w.heap.size + 1, 5, none⟩ = some (.bool de') ∧ w'.cell? ⟨w.heap.size + 1, 6, none⟩ = some (.slice a' ys.length cap') ∧ w.heap.size < w'.heap.size ∧ w.heap.size + 1 < w'.heap.size ∧ Below w2.heap.size w2 w')
    (first | exact pair_start HAx2.out HBx2.out | exact pair_step (by assumption) (by assumption))
    (first | (go_at_call_of 13 (Value.slice a xs.length cap); refine (toWrite_any _ _ _ _ _ _ _ _ _ xs _ hn rfl (HI.out.below HB2.out.drew)).mono ?_; rintro e u1 ⟨g1, rfl, hg11, hg12, hg13, hc1⟩; have HBu : Hid (Below w.heap.size w u1) := below_step HB2.out.drew HB2.out.drew.size hc1) | (go_at_call_of 13 (Value.slice a' ys.length cap'); refine (toWrite_any _ _ _ _ _ _ _ _ _ ys _ hm rfl (HI'.out.below HBu.out)).mono ?_; rintro e u2 ⟨g2, rfl, hg21, hg22, hg23, hc2⟩) | (go_at_call 16; refine (specWriteCmp_any _ _ _ _ _ _ _ xs _ _ _ _ _ _ _ _ _ ys _ _ _ rfl rfl hn hm (Nat.lt_of_lt_of_le hg12 hc2.size) hg22 (hg13.below hc2 hg12) hg23).mono ?_; rintro e w3 ⟨rfl, hc3⟩))
  obtain ⟨-, -, -, -, -, -, -, -, -, -, -, -, -, -, -, -, HX0⟩ := ‹_ ∧ _›
  have HB3 : Hid (Below w.heap.size w w3) := below_step HB2.out HB2.out.size HX0
  have HAx3 : Hid (BoxAt w.heap.size w3 k c s q v de a xs.length cap) := HAx2.out.step HX0
  have HBx3 : Hid (BoxAt (w.heap.size + 1) w3 k' c' s' q' v' de' a' ys.length cap') := HBx2.out.step HX0
  clear HX0 hc1 hc2 hc3 hg11 hg12 hg13 hg21 hg22 hg23 HBu HAx2 HBx2 HB2
  have e0 := HAx3.out.c0
  have e1 := HAx3.out.c1
  have e2 := HAx3.out.c2
  have e3 := HAx3.out.c3
  have e4 := HAx3.out.c4
  have e5 := HAx3.out.c5
  have e6 := HAx3.out.c6
  go_wp2_with fail
  refine (toWrite_any _ _ _ _ _ _ _ _ _ xs _ hn rfl (HI.out.below HB3.out)).mono ?_
  rintro e w4 ⟨g4, rfl, hg41, hg42, hg43, hb4⟩
  have HG4 : Hid (HoldsDeps w4 g4 0 xs) := hg43
  have HB4 : Hid (Below w.heap.size w w4) := below_step HB3.out HB3.out.size hb4
  have HAx4 : Hid (BoxAt w.heap.size w4 k c s q v de a xs.length cap) := HAx3.out.step hb4
  have HBx4 : Hid (BoxAt (w.heap.size + 1) w4 k' c' s' q' v' de' a' ys.length cap') := HBx3.out.step hb4
  clear hb4 hg43 hg41 e0 e1 e2 e3 e4 e5 e6 HAx3 HBx3 HB3
  have f0 := HBx4.out.c0
  have f1 := HBx4.out.c1
  have f2 := HBx4.out.c2
  have f3 := HBx4.out.c3
  have f4 := HBx4.out.c4
  have f5 := HBx4.out.c5
  have f6 := HBx4.out.c6
  have hzB := HBx4.out.lt
  go_wp2_with fail
  have HBa : Hid (Below w4.heap.size w4 (w4.alloc (.cells #[.int .i64 k, .int .i64 c, .int .i64 s, .int .i64 q, .int .i64 v, .bool de, .slice (some ⟨g4, 0, none⟩) xs.length xs.length] 37))) := (Below.refl _ _).alloc (Nat.le_refl _) _
  refine (toWrite_any _ _ _ _ _ _ _ _ _ ys _ hm rfl (HI'.out.below (below_step HB4.out HB4.out.size HBa.out))).mono ?_
  rintro e w6 ⟨g6, rfl, hg61, hg62, hg63, hb6⟩
  have HXx : Hid (BoxAt w4.heap.size w6 k c s q v de (some ⟨g4, 0, none⟩) xs.length xs.length) := BoxAt.start hb6
  have HG6 : Hid (HoldsDeps w6 g6 0 ys) := hg63
  have HB46 : Hid (Below w4.heap.size w4 w6) := below_step HBa.out HBa.out.size hb6
  have HG46 : Hid (HoldsDeps w6 g4 0 xs) := HG4.out.below HB46.out hg42
  have hg46 : g4 < w6.heap.size := Nat.lt_of_lt_of_le hg42 HB46.out.size
  have HB6 : Hid (Below w.heap.size w w6) := below_step HB4.out HB4.out.size HB46.out
  have HAx6 : Hid (BoxAt w.heap.size w6 k c s q v de a xs.length cap) := HAx4.out.step HB46.out
  have HBx6 : Hid (BoxAt (w.heap.size + 1) w6 k' c' s' q' v' de' a' ys.length cap') := HBx4.out.step HB46.out
  clear hb6 hg63 hg61 f0 f1 f2 f3 f4 f5 f6 HAx4 HBx4 HB4 HB46 HBa HG4 hg42 hzB
  have e0 := HXx.out.c0
  have e1 := HXx.out.c1
  have e2 := HXx.out.c2
  have e3 := HXx.out.c3
  have e4 := HXx.out.c4
  have e5 := HXx.out.c5
  have e6 := HXx.out.c6
  have hzX := HXx.out.lt
  go_wp2_with fail
  have HBa : Hid (Below w6.heap.size w6 (w6.alloc (.cells #[.int .i64 k', .int .i64 c', .int .i64 s', .int .i64 q', .int .i64 v', .bool de', .slice (some ⟨g6, 0, none⟩) ys.length ys.length] 37))) := (Below.refl _ _).alloc (Nat.le_refl _) _
  refine (implWriteCmp_any _ _ _ _ _ _ _ xs _ _ _ _ _ _ _ _ _ ys _ _ _ rfl rfl hn hm (Nat.lt_of_lt_of_le hg46 HBa.out.size) (Nat.lt_of_lt_of_le hg62 HBa.out.size) (HG46.out.below HBa.out hg46) (HG6.out.below HBa.out hg62)).mono ?_
  rintro e w7 ⟨rfl, hb7⟩
  have HYx : Hid (BoxAt w6.heap.size w7 k' c' s' q' v' de' (some ⟨g6, 0, none⟩) ys.length ys.length) := BoxAt.start hb7
  have HB67 : Hid (Below w6.heap.size w6 w7) := below_step HBa.out HBa.out.size hb7
  have HXx7 : Hid (BoxAt w4.heap.size w7 k c s q v de (some ⟨g4, 0, none⟩) xs.length xs.length) := HXx.out.step HB67.out
  have HG47 : Hid (HoldsDeps w7 g4 0 xs) := HG46.out.below HB67.out hg46
  have HG67 : Hid (HoldsDeps w7 g6 0 ys) := HG6.out.below HB67.out hg62
  have hg47 : g4 < w7.heap.size := Nat.lt_of_lt_of_le hg46 HB67.out.size
  have hg67 : g6 < w7.heap.size := Nat.lt_of_lt_of_le hg62 HB67.out.size
  have HB7 : Hid (Below w.heap.size w w7) := below_step HB6.out HB6.out.size HB67.out
  have HAx7 : Hid (BoxAt w.heap.size w7 k c s q v de a xs.length cap) := HAx6.out.step HB67.out
  have HBx7 : Hid (BoxAt (w.heap.size + 1) w7 k' c' s' q' v' de' a' ys.length cap') := HBx6.out.step HB67.out
  clear hb7 e0 e1 e2 e3 e4 e5 e6 HAx6 HBx6 HB6 HB67 HBa HG46 HG6 hg46 hg62 hzX HXx
  go_wp2_with fail
  go_region_held3 (fun w' => w'.cell? ⟨w.heap.size, 0, none⟩ = some (.int .i64 k) ∧ w'.cell? ⟨w.heap.size, 1, none⟩ = some (.int .i64 c) ∧ w'.cell? ⟨w.heap.size, 2, none⟩ = some (.int .i64 s) ∧ w'.cell? ⟨w.heap.size, 3, none⟩ = some (.int .i64 q) ∧ w'.cell? ⟨w.heap.size, 4, none⟩ = some (.int .i64 v) ∧ w'.cell? ⟨w.heap.size, 5, none⟩ = some (.bool de) ∧ w'.cell? ⟨w.heap.size, 6, none⟩ = some (.slice a xs.length cap) ∧ w'.cell? ⟨w4.heap.size, 0, none⟩ = some (.int .i64 k) ∧ w'.cell? ⟨w4.heap.size, 1, none⟩ = some (.int .i64 c) ∧ w'.cell? ⟨w4.heap.size, 2, none⟩ = some (.int .i64 s) ∧ w'.cell? ⟨w4.heap.size, 3, none⟩ = some (.int .i64 q) ∧ w'.cell? ⟨w4.heap.size, 4, none⟩ = some (.int .i64 v) ∧ w'.cell? ⟨w4.heap.size, 5, none⟩ = some (.bool de) ∧ w'.cell? ⟨w4.heap.size, 6, none⟩ = some (.slice (some ⟨g4, 0, none⟩) xs.length xs.length) ∧ w.heap.size < w'.heap.size ∧ w4.heap.size < w'.heap.size ∧ Below w7.heap.size w7 w')
    (first | exact pair_start HAx7.out HXx7.out | exact pair_step (by assumption) (by assumption))
    (first | (go_at_call 13; refine (toWrite_any _ _ _ _ _ _ _ _ _ xs _ hn rfl (HI.out.below HB7.out.drew)).mono ?_; rintro e u1 ⟨g8, rfl, hg81, hg82, hg83, hc8⟩) | (go_at_call 15; refine (eqWrite_same _ _ _ _ _ _ _ _ _ _ _ xs _ hn rfl (Nat.lt_of_lt_of_le hg47 hc8.size) hg82 ((show HoldsDeps w7.drew g4 0 xs from HG47.out).below hc8 hg47) hg83).mono ?_; rintro e w8 ⟨rfl, hc9⟩))
  obtain ⟨-, -, -, -, -, -, -, -, -, -, -, -, -, -, -, -, HX0⟩ := ‹_ ∧ _›
  have HB8 : Hid (Below w.heap.size w w8) := below_step HB7.out HB7.out.size HX0
  have HYx8 : Hid (BoxAt w6.heap.size w8 k' c' s' q' v' de' (some ⟨g6, 0, none⟩) ys.length ys.length) := HYx.out.step HX0
  have HBx8 : Hid (BoxAt (w.heap.size + 1) w8 k' c' s' q' v' de' a' ys.length cap') := HBx7.out.step HX0
  have HG68 : Hid (HoldsDeps w8 g6 0 ys) := HG67.out.below HX0 hg67
  have hg68 : g6 < w8.heap.size := Nat.lt_of_lt_of_le hg67 HX0.size
  clear HX0 hc8 hc9 hg81 hg82 hg83 HB7 HAx7 HBx7 HXx7 HYx HG47 HG67 hg47 hg67
  go_wp2_with fail
  go_region_held3 (fun w' => w'.cell? ⟨w.heap.size + 1, 0, none⟩ = some (.int .i64 k') ∧ w'.cell? ⟨w.heap.size + 1, 1, none⟩ = some (.int .i64 c') ∧ w'.cell? ⟨w.heap.size + 1, 2, none⟩ = some (.int .i64 s') ∧ w'.cell? ⟨w.heap.size + 1, 3, none⟩ = some (.int .i64 q') ∧ w'.cell? ⟨w.heap.size + 1, 4, none⟩ = some (.int .i64 v') ∧ w'.cell? ⟨w.heap.size + 1, 5, none⟩ = some (.bool de') ∧ w'.cell? ⟨w.heap.size + 1, 6, none⟩ = some (.slice a' ys.length cap') ∧ w'.cell? ⟨w6.heap.size, 0, none⟩ = some (.int .i64 k') ∧ w'.cell? ⟨w6.heap.size, 1, none⟩ = some (.int .i64 c') ∧ w'.cell? ⟨w6.heap.size, 2, none⟩ = some (.int .i64 s') ∧ w'.cell? ⟨w6.heap.size, 3, none⟩ = some (.int .i64 q') ∧ w'.cell? ⟨w6.heap.size, 4, none⟩ = some (.int .i64 v') ∧ w'.cell? ⟨w6.heap.size, 5, none⟩ = some (.bool de') ∧ w'.cell? ⟨w6.heap.size, 6, none⟩ = some (.slice (some ⟨g6, 0, none⟩) ys.length ys.length) ∧ w.heap.size + 1 < w'.heap.size ∧ w6.heap.size < w'.heap.size ∧ Below w8.heap.size w8 w')
    (first | exact pair_start HBx8.out HYx8.out | exact pair_step (by assumption) (by assumption))
    (first | (go_at_call 13; refine (toWrite_any _ _ _ _ _ _ _ _ _ ys _ hm rfl (HI'.out.below HB8.out.drew)).mono ?_; rintro e u2 ⟨g9, rfl, hg91, hg92, hg93, hd8⟩) | (go_at_call 15; refine (eqWrite_same _ _ _ _ _ _ _ _ _ _ _ ys _ hm rfl (Nat.lt_of_lt_of_le hg68 hd8.size) hg92 ((show HoldsDeps w8.drew g6 0 ys from HG68.out).below hd8 hg68) hg93).mono ?_; rintro e w9 ⟨rfl, hd9⟩))
  obtain ⟨-, -, -, -, -, -, -, -, -, -, -, -, -, -, -, -, HX0⟩ := ‹_ ∧ _›
  have HB9 : Hid (Below w.heap.size w w9) := below_step HB8.out HB8.out.size HX0
  clear HX0 hd8 hd9 hg91 hg92 hg93
  go_wp2
  go_ret
  exact ⟨rfl, HB9.out⟩

theorem walk (k c s q v : Int) (de : Bool) (a : Option Addr) (len cap : Nat) (xs : List Dp) (k' c' s' q' v' : Int) (de' : Bool) (a' : Option Addr) (len' cap' : Nat) (ys : List Dp) (w : World) (hr : xs.length = len ∧ len ≤ maxLen ∧ IsDeps w a xs) (hr' : ys.length = len' ∧ len' ≤ maxLen ∧ IsDeps w a' ys) :
    Calls Try.prog 5 #[wrV k c s q v de a len cap, wrV k' c' s' q' v' de' a' len' cap'] w fun e w' => e = .returned (.bool true) ∧ Below w.heap.size w w' := by
  obtain ⟨rfl, h2, h3⟩ := hr
  obtain ⟨rfl, h2', h3'⟩ := hr'
  by_cases h : xs.length ≤ 1048576
  · by_cases h' : xs.length + ys.length ≤ 1048576
    · exact walk_small k c s q v de a cap k' c' s' q' v' de' a' cap' xs ys w h3 h3' h'
    · exact walk_big2 k c s q v de a xs.length cap k' c' s' q' v' de' a' ys.length cap' w h2' h (by omega)
  · exact walk_big k c s q v de a xs.length cap k' c' s' q' v' de' a' ys.length cap' w h2 (by omega)

set_option maxRecDepth 100000 in
theorem lifted (os : Os) (started : os.Started) (H : Type) (enc : TypeId × Value → H) :
    ReturnsInHanded {} Try.checked os 5 .any (Rows.fnExactWriteCmpSpec.pre6 enc Try.prog Try.f5 Rows.fnExactWriteCmpRow.domain false) (Rows.fnExactWriteCmpSpec.post enc Try.prog Try.f5 false true false false) := by
  refine returnsInHanded_of_change (C := Try.checked) own started (by kernel_rfl) Try.func5
    (ChangeSpec.witness6 (enc := enc) (C := Try.checked) false ⟨#[], #[.agg #[.int .i64 0, .int .i64 0, .int .i64 0, .int .i64 0, .int .i64 0, .bool false, .slice none 0 0], .agg #[.int .i64 0, .int .i64 0, .int .i64 0, .int .i64 0, .int .i64 0, .bool false, .slice none 0 0]], []⟩ 8 (by kernel_rfl) (by kernel_rfl) (by kernel_rfl) (by kernel_rfl)) ?_
  intro W base args ds gs before hval0 hW hcnd _
  have hval : ∀ (j : Nat) t v, Try.f5.params[j]? = some t → args[j]? = some v → Value.okWide Try.prog W .any base t v := hval0
  have hW' := hW
  obtain ⟨p, q, hA0, hV, rfl, hfz, hnd⟩ := hW
  have hA : DataW.TrodAll enc Try.prog W 0 (fun _ => true) true Try.f5.params.toList args.toList ds p := hA0
  rw [Try.params5] at hA hval
  obtain ⟨v0, v1, d0, d1, p0, p1, rfl, rfl, rfl, h0, h1⟩ := trodAll_two hA
  have k0 := h0
  have lt0 : ∀ x ∈ p0, x.block < W.heap.size := by obtain ⟨m, hm⟩ := k0; exact DataW.trod_lt m _ _ _ hm
  have k1 := h1
  have lt1 : ∀ x ∈ p1, x.block < W.heap.size := by obtain ⟨m, hm⟩ := k1; exact DataW.trod_lt m _ _ _ hm
  obtain ⟨rfl, rfl⟩ := trodVars_none hV
  obtain ⟨ke0, c0, s0, q0, va0, de0, a0, len0, cap0, xs0, hv0, hr0⟩ := open_write (hval 0 32 v0 rfl rfl) h0
  subst hv0
  obtain ⟨ke1, c1, s1, q1, va1, de1, a1, len1, cap1, xs1, hv1, hr1⟩ := open_write (hval 1 32 v1 rfl rfl) h1
  subst hv1
  clear hA0 hval0
  refine (walk ke0 c0 s0 q0 va0 de0 a0 len0 cap0 xs0 ke1 c1 s1 q1 va1 de1 a1 len1 cap1 xs1 W hr0 hr1).mono fun e W' ⟨he, bel⟩ => ?_
  subst he
  exact ⟨_, rfl, _, _, _, [], _, [], hW', trodAll_mk1 (shut_bool Try.underlying4 _), (trodAll_mk2 (Below.trod laidOut (by kernel_rfl) (of_decide_eq_true (by kernel_rfl)) k0 bel lt0) (Below.trod laidOut (by kernel_rfl) (of_decide_eq_true (by kernel_rfl)) k1 bel lt1)), rfl, bel.frame _, fun h => by cases h⟩

theorem over : Rows.fnExactWriteCmpRow.holds Try.pinned (OpenSpec.ofChange Rows.fnExactWriteCmpSpec) :=
  OpenClaim.holds_of_wide 5 Try.f5 rfl rfl rfl rfl rfl rfl rfl ⟨rfl, rfl, rfl, rfl, rfl⟩ rfl rfl rfl rfl rfl (by kernel_rfl) Try.func5 (by kernel_rfl)
    (of_decide_eq_true (by kernel_rfl)) (by unfold Func.isWrapper; rw [if_neg (by decide +kernel)]; exact ⟨rfl, rfl⟩)
    (fun os started H enc _ => lifted os started H enc)

end Go.Proofs.Ytjonmjgegkdceah.lawWriteCmp
namespace Go.Proofs.Ytjonmjgegkdceah
theorem fnExactWriteCmp_holds : Rows.FnExactWriteCmpSaid := lawWriteCmp.over
#print axioms fnExactWriteCmp_holds
end Go.Proofs.Ytjonmjgegkdceah
