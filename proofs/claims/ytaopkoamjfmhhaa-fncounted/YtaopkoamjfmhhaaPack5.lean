/- Counters: the program's CounterLeq. -/
import Derived.Test.YtaopkoamjfmhhaaPack4
namespace Go.Proofs.Ytaopkoamjfmhhaa
open Go.ChangeShapes Go.WideShapes Go.ChangeAt Go.RowKit Go.Joins
attribute [local go_sem ↓] Go.wp_at_zero Go.wp_at_succ

set_option maxRecDepth 100000 in
theorem eql_ta (d : Nat) (w : World) (x0 x1 x2 x3 x4 x5 x6 x7 y0 y1 y2 y3 y4 y5 y6 y7 : Int) : (Op.equalIn (d + 3) 45 (taV x0 x1 x2 x3 x4 x5 x6 x7) (taV y0 y1 y2 y3 y4 y5 y6 y7)).run Try.prog w = .ok (decide (x0 = y0 ∧ x1 = y1 ∧ x2 = y2 ∧ x3 = y3) && decide (x4 = y4 ∧ x5 = y5 ∧ x6 = y6 ∧ x7 = y7)) w := by
  have hq := fun a0 a1 a2 a3 b0 b1 b2 b3 w => eql_tk d w a0 a1 a2 a3 b0 b1 b2 b3
  have p0 : ∀ (z0 z1 z2 z3 z4 z5 z6 z7 : Int) w, (part 43 #[.int .i64 z0, .int .i64 z1, .int .i64 z2, .int .i64 z3, .int .i64 z4, .int .i64 z5, .int .i64 z6, .int .i64 z7] 0).run Try.prog w = .ok (tkV z0 z1 z2 z3) w := by
    intro z0 z1 z2 z3 z4 z5 z6 z7 w
    simp [part, Try.isAgg43, Try.sizeOf43, Sem.run_bind]
  have p1 : ∀ (z0 z1 z2 z3 z4 z5 z6 z7 : Int) w, (part 43 #[.int .i64 z0, .int .i64 z1, .int .i64 z2, .int .i64 z3, .int .i64 z4, .int .i64 z5, .int .i64 z6, .int .i64 z7] 4).run Try.prog w = .ok (tkV z4 z5 z6 z7) w := by
    intro z0 z1 z2 z3 z4 z5 z6 z7 w
    simp [part, Try.isAgg43, Try.sizeOf43, Sem.run_bind]
  have hst : Try.prog.stoodInHeld 45 = false := by kernel_rfl
  rw [Op.equalIn]
  simp only [Sem.run_bind, run_underlying Try.underlying45, Result.andThen_ok]
  simp only [run_program, Result.andThen_ok, hst, Bool.false_eq_true, if_false, Sem.run_bind, List.forIn_toArray, List.forIn_cons, List.forIn_nil, ne_eq]
  by_cases h0 : (x0 = y0 ∧ x1 = y1 ∧ x2 = y2 ∧ x3 = y3)
  · by_cases h1 : (x4 = y4 ∧ x5 = y5 ∧ x6 = y6 ∧ x7 = y7)
    · simp [h0, h1, p0, p1, hq]
    · simp [h0, h1, p0, p1, hq]
  · simp [h0, p0, hq]

def leqC (us ds us' ds' : List Int) : Bool := (cntB us ds && cntB us' ds') && (decide (List.zipWith max us us' = us') && decide (List.zipWith max ds ds' = ds'))

theorem leqC_bad {us ds us' ds' : List Int} (h : (cntB us ds && cntB us' ds') = false) : leqC us ds us' ds' = false := by
  unfold leqC
  rw [h]
  rfl

theorem leqC_good {x0 x1 x2 x3 y0 y1 y2 y3 z0 z1 z2 z3 v0 v1 v2 v3 : Int} (h : cntB [x0, x1, x2, x3] [y0, y1, y2, y3] = true) (h' : cntB [z0, z1, z2, z3] [v0, v1, v2, v3] = true) : leqC [x0, x1, x2, x3] [y0, y1, y2, y3] [z0, z1, z2, z3] [v0, v1, v2, v3] = (decide (max x0 z0 = z0 ∧ max x1 z1 = z1 ∧ max x2 z2 = z2 ∧ max x3 z3 = z3) && decide (max y0 v0 = v0 ∧ max y1 v1 = v1 ∧ max y2 v2 = v2 ∧ max y3 v3 = v3)) := by
  unfold leqC
  rw [h, h']
  simp only [List.zipWith_cons_cons, List.zipWith_nil_left, List.cons.injEq, and_true, Bool.true_and, Bool.and_self]

set_option maxRecDepth 100000 in
set_option maxHeartbeats 4000000 in
theorem implCounterLeq_any (a : Option Addr) (n cap : Nat) (b : Option Addr) (m cb : Nat) (a' : Option Addr) (n' cap' : Nat) (b' : Option Addr) (m' cb' : Nat) (us ds us' ds' : List Int) (w : World) (hl : us.length = n) (hn : n ≤ maxLen) (hl' : ds.length = m) (hm : m ≤ maxLen) (hh : IsC w a b us ds) (gl : us'.length = n') (gn : n' ≤ maxLen) (gl' : ds'.length = m') (gm : m' ≤ maxLen) (gg : IsC w a' b' us' ds') :
    Calls Try.prog 12 #[cntV a n cap b m cb, cntV a' n' cap' b' m' cb'] w fun e w' => e = .returned (.bool (leqC us ds us' ds')) ∧ Below w.heap.size w w' := by
  have HC := Lib.hid hh
  have HL := Lib.hid hl
  have HL' := Lib.hid hl'
  have GC := Lib.hid gg
  have GL := Lib.hid gl
  have GL' := Lib.hid gl'
  clear hh hl hl' gg gl gl'
  cases hv : cntB us ds
  · have HV := Lib.hid hv
    have HJ := Lib.hid (leqC_bad (us := us) (ds := ds) (us' := us') (ds' := ds') (by rw [hv]; rfl))
    clear hv
    go_enter Try.func12, Try.ntmps12
    go_wp2_with fail
    have HB : Hid (Below w.heap.size w ((w.alloc (.cells #[.slice a n cap, .slice b m cb] 26)).alloc (.cells #[.slice a' n' cap', .slice b' m' cb'] 26))) := (((Below.refl _ _).alloc (Nat.le_refl _) _).alloc (by simp) _)
    have cb1_0 : ((w.alloc (.cells #[.slice a n cap, .slice b m cb] 26)).alloc (.cells #[.slice a' n' cap', .slice b' m' cb'] 26)).cell? ⟨w.heap.size, 0, none⟩ = some (.slice a n cap) := by go_simp
    have cb1_1 : ((w.alloc (.cells #[.slice a n cap, .slice b m cb] 26)).alloc (.cells #[.slice a' n' cap', .slice b' m' cb'] 26)).cell? ⟨w.heap.size, 1, none⟩ = some (.slice b m cb) := by go_simp
    have zb1 : w.heap.size < ((w.alloc (.cells #[.slice a n cap, .slice b m cb] 26)).alloc (.cells #[.slice a' n' cap', .slice b' m' cb'] 26)).heap.size := by simp <;> omega
    have cb2_0 : ((w.alloc (.cells #[.slice a n cap, .slice b m cb] 26)).alloc (.cells #[.slice a' n' cap', .slice b' m' cb'] 26)).cell? ⟨w.heap.size + 1, 0, none⟩ = some (.slice a' n' cap') := by go_simp
    have cb2_1 : ((w.alloc (.cells #[.slice a n cap, .slice b m cb] 26)).alloc (.cells #[.slice a' n' cap', .slice b' m' cb'] 26)).cell? ⟨w.heap.size + 1, 1, none⟩ = some (.slice b' m' cb') := by go_simp
    have zb2 : w.heap.size + 1 < ((w.alloc (.cells #[.slice a n cap, .slice b m cb] 26)).alloc (.cells #[.slice a' n' cap', .slice b' m' cb'] 26)).heap.size := by simp
    have hsV0 : w.heap.size + 1 < ((w.alloc (.cells #[.slice a n cap, .slice b m cb] 26)).alloc (.cells #[.slice a' n' cap', .slice b' m' cb'] 26)).heap.size := by simp
    generalize ((w.alloc (.cells #[.slice a n cap, .slice b m cb] 26)).alloc (.cells #[.slice a' n' cap', .slice b' m' cb'] 26)) = V0 at *
    refine (tallyOf_bad a n cap b m cb us ds _ HL.out hn HL'.out hm (HC.out.below HB.out) HV.out).mono ?_
    rintro e w1 ⟨⟨p0, p1, p2, p3, p4, p5, p6, p7, rfl⟩, hb⟩
    have hsw1 : V0.heap.size ≤ w1.heap.size := hb.size
    replace cb1_0 := cells_of hb zb1 cb1_0
    replace cb1_1 := cells_of hb zb1 cb1_1
    replace zb1 := Nat.lt_of_lt_of_le zb1 hb.size
    replace cb2_0 := cells_of hb zb2 cb2_0
    replace cb2_1 := cells_of hb zb2 cb2_1
    replace zb2 := Nat.lt_of_lt_of_le zb2 hb.size
    replace HB := Lib.hid (below_step HB.out HB.out.size hb)
    clear hb
    go_wp2_with fail
    have hA : Below w1.heap.size w1 (w1.alloc (.cells #[.int .i64 p0, .int .i64 p1, .int .i64 p2, .int .i64 p3, .int .i64 p4, .int .i64 p5, .int .i64 p6, .int .i64 p7] 45)) := (Below.refl _ _).alloc (Nat.le_refl _) _
    replace cb1_0 := cells_of hA zb1 cb1_0
    replace cb1_1 := cells_of hA zb1 cb1_1
    replace zb1 := Nat.lt_of_lt_of_le zb1 hA.size
    replace cb2_0 := cells_of hA zb2 cb2_0
    replace cb2_1 := cells_of hA zb2 cb2_1
    replace zb2 := Nat.lt_of_lt_of_le zb2 hA.size
    replace HB := Lib.hid (below_step HB.out HB.out.size hA)
    clear hA
    have ct1_0 : (w1.alloc (.cells #[.int .i64 p0, .int .i64 p1, .int .i64 p2, .int .i64 p3, .int .i64 p4, .int .i64 p5, .int .i64 p6, .int .i64 p7] 45)).cell? ⟨w1.heap.size, 0, none⟩ = some (.int .i64 p0) := by go_simp
    have ct1_1 : (w1.alloc (.cells #[.int .i64 p0, .int .i64 p1, .int .i64 p2, .int .i64 p3, .int .i64 p4, .int .i64 p5, .int .i64 p6, .int .i64 p7] 45)).cell? ⟨w1.heap.size, 1, none⟩ = some (.int .i64 p1) := by go_simp
    have ct1_2 : (w1.alloc (.cells #[.int .i64 p0, .int .i64 p1, .int .i64 p2, .int .i64 p3, .int .i64 p4, .int .i64 p5, .int .i64 p6, .int .i64 p7] 45)).cell? ⟨w1.heap.size, 2, none⟩ = some (.int .i64 p2) := by go_simp
    have ct1_3 : (w1.alloc (.cells #[.int .i64 p0, .int .i64 p1, .int .i64 p2, .int .i64 p3, .int .i64 p4, .int .i64 p5, .int .i64 p6, .int .i64 p7] 45)).cell? ⟨w1.heap.size, 3, none⟩ = some (.int .i64 p3) := by go_simp
    have ct1_4 : (w1.alloc (.cells #[.int .i64 p0, .int .i64 p1, .int .i64 p2, .int .i64 p3, .int .i64 p4, .int .i64 p5, .int .i64 p6, .int .i64 p7] 45)).cell? ⟨w1.heap.size, 4, none⟩ = some (.int .i64 p4) := by go_simp
    have ct1_5 : (w1.alloc (.cells #[.int .i64 p0, .int .i64 p1, .int .i64 p2, .int .i64 p3, .int .i64 p4, .int .i64 p5, .int .i64 p6, .int .i64 p7] 45)).cell? ⟨w1.heap.size, 5, none⟩ = some (.int .i64 p5) := by go_simp
    have ct1_6 : (w1.alloc (.cells #[.int .i64 p0, .int .i64 p1, .int .i64 p2, .int .i64 p3, .int .i64 p4, .int .i64 p5, .int .i64 p6, .int .i64 p7] 45)).cell? ⟨w1.heap.size, 6, none⟩ = some (.int .i64 p6) := by go_simp
    have ct1_7 : (w1.alloc (.cells #[.int .i64 p0, .int .i64 p1, .int .i64 p2, .int .i64 p3, .int .i64 p4, .int .i64 p5, .int .i64 p6, .int .i64 p7] 45)).cell? ⟨w1.heap.size, 7, none⟩ = some (.int .i64 p7) := by go_simp
    have zt1 : w1.heap.size < (w1.alloc (.cells #[.int .i64 p0, .int .i64 p1, .int .i64 p2, .int .i64 p3, .int .i64 p4, .int .i64 p5, .int .i64 p6, .int .i64 p7] 45)).heap.size := by simp
    have hsV1 : w1.heap.size < (w1.alloc (.cells #[.int .i64 p0, .int .i64 p1, .int .i64 p2, .int .i64 p3, .int .i64 p4, .int .i64 p5, .int .i64 p6, .int .i64 p7] 45)).heap.size := by simp
    generalize (w1.alloc (.cells #[.int .i64 p0, .int .i64 p1, .int .i64 p2, .int .i64 p3, .int .i64 p4, .int .i64 p5, .int .i64 p6, .int .i64 p7] 45)) = V1 at *
    refine (tallyOf_any a' n' cap' b' m' cb' us' ds' _ GL.out gn GL'.out gm (GC.out.below HB.out)).mono ?_
    rintro e w2 ⟨⟨q0, q1, q2, q3, q4, q5, q6, q7, rfl, -⟩, hb⟩
    have hsw2 : V1.heap.size ≤ w2.heap.size := hb.size
    replace cb1_0 := cells_of hb zb1 cb1_0
    replace cb1_1 := cells_of hb zb1 cb1_1
    replace zb1 := Nat.lt_of_lt_of_le zb1 hb.size
    replace cb2_0 := cells_of hb zb2 cb2_0
    replace cb2_1 := cells_of hb zb2 cb2_1
    replace zb2 := Nat.lt_of_lt_of_le zb2 hb.size
    replace ct1_0 := cells_of hb zt1 ct1_0
    replace ct1_1 := cells_of hb zt1 ct1_1
    replace ct1_2 := cells_of hb zt1 ct1_2
    replace ct1_3 := cells_of hb zt1 ct1_3
    replace ct1_4 := cells_of hb zt1 ct1_4
    replace ct1_5 := cells_of hb zt1 ct1_5
    replace ct1_6 := cells_of hb zt1 ct1_6
    replace ct1_7 := cells_of hb zt1 ct1_7
    replace zt1 := Nat.lt_of_lt_of_le zt1 hb.size
    replace HB := Lib.hid (below_step HB.out HB.out.size hb)
    clear hb
    go_wp2_with fail
    have hA : Below w2.heap.size w2 (w2.alloc (.cells #[.int .i64 q0, .int .i64 q1, .int .i64 q2, .int .i64 q3, .int .i64 q4, .int .i64 q5, .int .i64 q6, .int .i64 q7] 45)) := (Below.refl _ _).alloc (Nat.le_refl _) _
    replace cb1_0 := cells_of hA zb1 cb1_0
    replace cb1_1 := cells_of hA zb1 cb1_1
    replace zb1 := Nat.lt_of_lt_of_le zb1 hA.size
    replace cb2_0 := cells_of hA zb2 cb2_0
    replace cb2_1 := cells_of hA zb2 cb2_1
    replace zb2 := Nat.lt_of_lt_of_le zb2 hA.size
    replace ct1_0 := cells_of hA zt1 ct1_0
    replace ct1_1 := cells_of hA zt1 ct1_1
    replace ct1_2 := cells_of hA zt1 ct1_2
    replace ct1_3 := cells_of hA zt1 ct1_3
    replace ct1_4 := cells_of hA zt1 ct1_4
    replace ct1_5 := cells_of hA zt1 ct1_5
    replace ct1_6 := cells_of hA zt1 ct1_6
    replace ct1_7 := cells_of hA zt1 ct1_7
    replace zt1 := Nat.lt_of_lt_of_le zt1 hA.size
    replace HB := Lib.hid (below_step HB.out HB.out.size hA)
    clear hA
    have ct2_0 : (w2.alloc (.cells #[.int .i64 q0, .int .i64 q1, .int .i64 q2, .int .i64 q3, .int .i64 q4, .int .i64 q5, .int .i64 q6, .int .i64 q7] 45)).cell? ⟨w2.heap.size, 0, none⟩ = some (.int .i64 q0) := by go_simp
    have ct2_1 : (w2.alloc (.cells #[.int .i64 q0, .int .i64 q1, .int .i64 q2, .int .i64 q3, .int .i64 q4, .int .i64 q5, .int .i64 q6, .int .i64 q7] 45)).cell? ⟨w2.heap.size, 1, none⟩ = some (.int .i64 q1) := by go_simp
    have ct2_2 : (w2.alloc (.cells #[.int .i64 q0, .int .i64 q1, .int .i64 q2, .int .i64 q3, .int .i64 q4, .int .i64 q5, .int .i64 q6, .int .i64 q7] 45)).cell? ⟨w2.heap.size, 2, none⟩ = some (.int .i64 q2) := by go_simp
    have ct2_3 : (w2.alloc (.cells #[.int .i64 q0, .int .i64 q1, .int .i64 q2, .int .i64 q3, .int .i64 q4, .int .i64 q5, .int .i64 q6, .int .i64 q7] 45)).cell? ⟨w2.heap.size, 3, none⟩ = some (.int .i64 q3) := by go_simp
    have ct2_4 : (w2.alloc (.cells #[.int .i64 q0, .int .i64 q1, .int .i64 q2, .int .i64 q3, .int .i64 q4, .int .i64 q5, .int .i64 q6, .int .i64 q7] 45)).cell? ⟨w2.heap.size, 4, none⟩ = some (.int .i64 q4) := by go_simp
    have ct2_5 : (w2.alloc (.cells #[.int .i64 q0, .int .i64 q1, .int .i64 q2, .int .i64 q3, .int .i64 q4, .int .i64 q5, .int .i64 q6, .int .i64 q7] 45)).cell? ⟨w2.heap.size, 5, none⟩ = some (.int .i64 q5) := by go_simp
    have ct2_6 : (w2.alloc (.cells #[.int .i64 q0, .int .i64 q1, .int .i64 q2, .int .i64 q3, .int .i64 q4, .int .i64 q5, .int .i64 q6, .int .i64 q7] 45)).cell? ⟨w2.heap.size, 6, none⟩ = some (.int .i64 q6) := by go_simp
    have ct2_7 : (w2.alloc (.cells #[.int .i64 q0, .int .i64 q1, .int .i64 q2, .int .i64 q3, .int .i64 q4, .int .i64 q5, .int .i64 q6, .int .i64 q7] 45)).cell? ⟨w2.heap.size, 7, none⟩ = some (.int .i64 q7) := by go_simp
    have zt2 : w2.heap.size < (w2.alloc (.cells #[.int .i64 q0, .int .i64 q1, .int .i64 q2, .int .i64 q3, .int .i64 q4, .int .i64 q5, .int .i64 q6, .int .i64 q7] 45)).heap.size := by simp
    have hsV2 : w2.heap.size < (w2.alloc (.cells #[.int .i64 q0, .int .i64 q1, .int .i64 q2, .int .i64 q3, .int .i64 q4, .int .i64 q5, .int .i64 q6, .int .i64 q7] 45)).heap.size := by simp
    generalize (w2.alloc (.cells #[.int .i64 q0, .int .i64 q1, .int .i64 q2, .int .i64 q3, .int .i64 q4, .int .i64 q5, .int .i64 q6, .int .i64 q7] 45)) = V2 at *
    clear ct1_0 ct2_0 ct1_1 ct2_1 ct1_2 ct2_2 ct1_3 ct2_3 ct1_4 ct2_4 ct1_5 ct2_5 ct1_6 ct2_6 ct1_7 ct2_7
    have ne := aft_some V2
    refine wp_region_aft (by kernel_rfl) (by kernel_rfl) ?_
    repeat (first | go_big_quiet_step (fail))
    refine wpQuiet_nil ?_
    intro wq hq
    have HBQ : Hid (Below w.heap.size w wq) := below_step HB.out HB.out.size hq
    clear hq
    go_wp2
    go_ret
    exact ⟨ret_bool HJ.out.symm, HBQ.out⟩
  · cases gv : cntB us' ds'
    · have GV := Lib.hid gv
      have HJ := Lib.hid (leqC_bad (us := us) (ds := ds) (us' := us') (ds' := ds') (by rw [gv, Bool.and_false]))
      obtain ⟨x0, x1, x2, x3, y0, y1, y2, y3, rfl, rfl, -⟩ := cntB_four hv
      have hn4 : n = 4 := HL.out.symm
      subst hn4
      have hm4 : m = 4 := HL'.out.symm
      subst hm4
      have HV := Lib.hid hv
      clear hv gv
      go_enter Try.func12, Try.ntmps12
      go_wp2_with fail
      have HB : Hid (Below w.heap.size w ((w.alloc (.cells #[.slice a 4 cap, .slice b 4 cb] 26)).alloc (.cells #[.slice a' n' cap', .slice b' m' cb'] 26))) := (((Below.refl _ _).alloc (Nat.le_refl _) _).alloc (by simp) _)
      have cb1_0 : ((w.alloc (.cells #[.slice a 4 cap, .slice b 4 cb] 26)).alloc (.cells #[.slice a' n' cap', .slice b' m' cb'] 26)).cell? ⟨w.heap.size, 0, none⟩ = some (.slice a 4 cap) := by go_simp
      have cb1_1 : ((w.alloc (.cells #[.slice a 4 cap, .slice b 4 cb] 26)).alloc (.cells #[.slice a' n' cap', .slice b' m' cb'] 26)).cell? ⟨w.heap.size, 1, none⟩ = some (.slice b 4 cb) := by go_simp
      have zb1 : w.heap.size < ((w.alloc (.cells #[.slice a 4 cap, .slice b 4 cb] 26)).alloc (.cells #[.slice a' n' cap', .slice b' m' cb'] 26)).heap.size := by simp <;> omega
      have cb2_0 : ((w.alloc (.cells #[.slice a 4 cap, .slice b 4 cb] 26)).alloc (.cells #[.slice a' n' cap', .slice b' m' cb'] 26)).cell? ⟨w.heap.size + 1, 0, none⟩ = some (.slice a' n' cap') := by go_simp
      have cb2_1 : ((w.alloc (.cells #[.slice a 4 cap, .slice b 4 cb] 26)).alloc (.cells #[.slice a' n' cap', .slice b' m' cb'] 26)).cell? ⟨w.heap.size + 1, 1, none⟩ = some (.slice b' m' cb') := by go_simp
      have zb2 : w.heap.size + 1 < ((w.alloc (.cells #[.slice a 4 cap, .slice b 4 cb] 26)).alloc (.cells #[.slice a' n' cap', .slice b' m' cb'] 26)).heap.size := by simp
      have hsV0 : w.heap.size + 1 < ((w.alloc (.cells #[.slice a 4 cap, .slice b 4 cb] 26)).alloc (.cells #[.slice a' n' cap', .slice b' m' cb'] 26)).heap.size := by simp
      generalize ((w.alloc (.cells #[.slice a 4 cap, .slice b 4 cb] 26)).alloc (.cells #[.slice a' n' cap', .slice b' m' cb'] 26)) = V0 at *
      refine (tallyOf_good a cap b cb x0 x1 x2 x3 y0 y1 y2 y3 _ (HC.out.below HB.out) HV.out).mono ?_
      rintro e w1 ⟨rfl, hb⟩
      have hsw1 : V0.heap.size ≤ w1.heap.size := hb.size
      replace cb1_0 := cells_of hb zb1 cb1_0
      replace cb1_1 := cells_of hb zb1 cb1_1
      replace zb1 := Nat.lt_of_lt_of_le zb1 hb.size
      replace cb2_0 := cells_of hb zb2 cb2_0
      replace cb2_1 := cells_of hb zb2 cb2_1
      replace zb2 := Nat.lt_of_lt_of_le zb2 hb.size
      replace HB := Lib.hid (below_step HB.out HB.out.size hb)
      clear hb
      go_wp2_with fail
      have hA : Below w1.heap.size w1 (w1.alloc (.cells #[.int .i64 x0, .int .i64 x1, .int .i64 x2, .int .i64 x3, .int .i64 y0, .int .i64 y1, .int .i64 y2, .int .i64 y3] 45)) := (Below.refl _ _).alloc (Nat.le_refl _) _
      replace cb1_0 := cells_of hA zb1 cb1_0
      replace cb1_1 := cells_of hA zb1 cb1_1
      replace zb1 := Nat.lt_of_lt_of_le zb1 hA.size
      replace cb2_0 := cells_of hA zb2 cb2_0
      replace cb2_1 := cells_of hA zb2 cb2_1
      replace zb2 := Nat.lt_of_lt_of_le zb2 hA.size
      replace HB := Lib.hid (below_step HB.out HB.out.size hA)
      clear hA
      have ct1_0 : (w1.alloc (.cells #[.int .i64 x0, .int .i64 x1, .int .i64 x2, .int .i64 x3, .int .i64 y0, .int .i64 y1, .int .i64 y2, .int .i64 y3] 45)).cell? ⟨w1.heap.size, 0, none⟩ = some (.int .i64 x0) := by go_simp
      have ct1_1 : (w1.alloc (.cells #[.int .i64 x0, .int .i64 x1, .int .i64 x2, .int .i64 x3, .int .i64 y0, .int .i64 y1, .int .i64 y2, .int .i64 y3] 45)).cell? ⟨w1.heap.size, 1, none⟩ = some (.int .i64 x1) := by go_simp
      have ct1_2 : (w1.alloc (.cells #[.int .i64 x0, .int .i64 x1, .int .i64 x2, .int .i64 x3, .int .i64 y0, .int .i64 y1, .int .i64 y2, .int .i64 y3] 45)).cell? ⟨w1.heap.size, 2, none⟩ = some (.int .i64 x2) := by go_simp
      have ct1_3 : (w1.alloc (.cells #[.int .i64 x0, .int .i64 x1, .int .i64 x2, .int .i64 x3, .int .i64 y0, .int .i64 y1, .int .i64 y2, .int .i64 y3] 45)).cell? ⟨w1.heap.size, 3, none⟩ = some (.int .i64 x3) := by go_simp
      have ct1_4 : (w1.alloc (.cells #[.int .i64 x0, .int .i64 x1, .int .i64 x2, .int .i64 x3, .int .i64 y0, .int .i64 y1, .int .i64 y2, .int .i64 y3] 45)).cell? ⟨w1.heap.size, 4, none⟩ = some (.int .i64 y0) := by go_simp
      have ct1_5 : (w1.alloc (.cells #[.int .i64 x0, .int .i64 x1, .int .i64 x2, .int .i64 x3, .int .i64 y0, .int .i64 y1, .int .i64 y2, .int .i64 y3] 45)).cell? ⟨w1.heap.size, 5, none⟩ = some (.int .i64 y1) := by go_simp
      have ct1_6 : (w1.alloc (.cells #[.int .i64 x0, .int .i64 x1, .int .i64 x2, .int .i64 x3, .int .i64 y0, .int .i64 y1, .int .i64 y2, .int .i64 y3] 45)).cell? ⟨w1.heap.size, 6, none⟩ = some (.int .i64 y2) := by go_simp
      have ct1_7 : (w1.alloc (.cells #[.int .i64 x0, .int .i64 x1, .int .i64 x2, .int .i64 x3, .int .i64 y0, .int .i64 y1, .int .i64 y2, .int .i64 y3] 45)).cell? ⟨w1.heap.size, 7, none⟩ = some (.int .i64 y3) := by go_simp
      have zt1 : w1.heap.size < (w1.alloc (.cells #[.int .i64 x0, .int .i64 x1, .int .i64 x2, .int .i64 x3, .int .i64 y0, .int .i64 y1, .int .i64 y2, .int .i64 y3] 45)).heap.size := by simp
      have hsV1 : w1.heap.size < (w1.alloc (.cells #[.int .i64 x0, .int .i64 x1, .int .i64 x2, .int .i64 x3, .int .i64 y0, .int .i64 y1, .int .i64 y2, .int .i64 y3] 45)).heap.size := by simp
      generalize (w1.alloc (.cells #[.int .i64 x0, .int .i64 x1, .int .i64 x2, .int .i64 x3, .int .i64 y0, .int .i64 y1, .int .i64 y2, .int .i64 y3] 45)) = V1 at *
      refine (tallyOf_bad a' n' cap' b' m' cb' us' ds' _ GL.out gn GL'.out gm (GC.out.below HB.out) GV.out).mono ?_
      rintro e w2 ⟨⟨q0, q1, q2, q3, q4, q5, q6, q7, rfl⟩, hb⟩
      have hsw2 : V1.heap.size ≤ w2.heap.size := hb.size
      replace cb1_0 := cells_of hb zb1 cb1_0
      replace cb1_1 := cells_of hb zb1 cb1_1
      replace zb1 := Nat.lt_of_lt_of_le zb1 hb.size
      replace cb2_0 := cells_of hb zb2 cb2_0
      replace cb2_1 := cells_of hb zb2 cb2_1
      replace zb2 := Nat.lt_of_lt_of_le zb2 hb.size
      replace ct1_0 := cells_of hb zt1 ct1_0
      replace ct1_1 := cells_of hb zt1 ct1_1
      replace ct1_2 := cells_of hb zt1 ct1_2
      replace ct1_3 := cells_of hb zt1 ct1_3
      replace ct1_4 := cells_of hb zt1 ct1_4
      replace ct1_5 := cells_of hb zt1 ct1_5
      replace ct1_6 := cells_of hb zt1 ct1_6
      replace ct1_7 := cells_of hb zt1 ct1_7
      replace zt1 := Nat.lt_of_lt_of_le zt1 hb.size
      replace HB := Lib.hid (below_step HB.out HB.out.size hb)
      clear hb
      go_wp2_with fail
      have hA : Below w2.heap.size w2 (w2.alloc (.cells #[.int .i64 q0, .int .i64 q1, .int .i64 q2, .int .i64 q3, .int .i64 q4, .int .i64 q5, .int .i64 q6, .int .i64 q7] 45)) := (Below.refl _ _).alloc (Nat.le_refl _) _
      replace cb1_0 := cells_of hA zb1 cb1_0
      replace cb1_1 := cells_of hA zb1 cb1_1
      replace zb1 := Nat.lt_of_lt_of_le zb1 hA.size
      replace cb2_0 := cells_of hA zb2 cb2_0
      replace cb2_1 := cells_of hA zb2 cb2_1
      replace zb2 := Nat.lt_of_lt_of_le zb2 hA.size
      replace ct1_0 := cells_of hA zt1 ct1_0
      replace ct1_1 := cells_of hA zt1 ct1_1
      replace ct1_2 := cells_of hA zt1 ct1_2
      replace ct1_3 := cells_of hA zt1 ct1_3
      replace ct1_4 := cells_of hA zt1 ct1_4
      replace ct1_5 := cells_of hA zt1 ct1_5
      replace ct1_6 := cells_of hA zt1 ct1_6
      replace ct1_7 := cells_of hA zt1 ct1_7
      replace zt1 := Nat.lt_of_lt_of_le zt1 hA.size
      replace HB := Lib.hid (below_step HB.out HB.out.size hA)
      clear hA
      have ct2_0 : (w2.alloc (.cells #[.int .i64 q0, .int .i64 q1, .int .i64 q2, .int .i64 q3, .int .i64 q4, .int .i64 q5, .int .i64 q6, .int .i64 q7] 45)).cell? ⟨w2.heap.size, 0, none⟩ = some (.int .i64 q0) := by go_simp
      have ct2_1 : (w2.alloc (.cells #[.int .i64 q0, .int .i64 q1, .int .i64 q2, .int .i64 q3, .int .i64 q4, .int .i64 q5, .int .i64 q6, .int .i64 q7] 45)).cell? ⟨w2.heap.size, 1, none⟩ = some (.int .i64 q1) := by go_simp
      have ct2_2 : (w2.alloc (.cells #[.int .i64 q0, .int .i64 q1, .int .i64 q2, .int .i64 q3, .int .i64 q4, .int .i64 q5, .int .i64 q6, .int .i64 q7] 45)).cell? ⟨w2.heap.size, 2, none⟩ = some (.int .i64 q2) := by go_simp
      have ct2_3 : (w2.alloc (.cells #[.int .i64 q0, .int .i64 q1, .int .i64 q2, .int .i64 q3, .int .i64 q4, .int .i64 q5, .int .i64 q6, .int .i64 q7] 45)).cell? ⟨w2.heap.size, 3, none⟩ = some (.int .i64 q3) := by go_simp
      have ct2_4 : (w2.alloc (.cells #[.int .i64 q0, .int .i64 q1, .int .i64 q2, .int .i64 q3, .int .i64 q4, .int .i64 q5, .int .i64 q6, .int .i64 q7] 45)).cell? ⟨w2.heap.size, 4, none⟩ = some (.int .i64 q4) := by go_simp
      have ct2_5 : (w2.alloc (.cells #[.int .i64 q0, .int .i64 q1, .int .i64 q2, .int .i64 q3, .int .i64 q4, .int .i64 q5, .int .i64 q6, .int .i64 q7] 45)).cell? ⟨w2.heap.size, 5, none⟩ = some (.int .i64 q5) := by go_simp
      have ct2_6 : (w2.alloc (.cells #[.int .i64 q0, .int .i64 q1, .int .i64 q2, .int .i64 q3, .int .i64 q4, .int .i64 q5, .int .i64 q6, .int .i64 q7] 45)).cell? ⟨w2.heap.size, 6, none⟩ = some (.int .i64 q6) := by go_simp
      have ct2_7 : (w2.alloc (.cells #[.int .i64 q0, .int .i64 q1, .int .i64 q2, .int .i64 q3, .int .i64 q4, .int .i64 q5, .int .i64 q6, .int .i64 q7] 45)).cell? ⟨w2.heap.size, 7, none⟩ = some (.int .i64 q7) := by go_simp
      have zt2 : w2.heap.size < (w2.alloc (.cells #[.int .i64 q0, .int .i64 q1, .int .i64 q2, .int .i64 q3, .int .i64 q4, .int .i64 q5, .int .i64 q6, .int .i64 q7] 45)).heap.size := by simp
      have hsV2 : w2.heap.size < (w2.alloc (.cells #[.int .i64 q0, .int .i64 q1, .int .i64 q2, .int .i64 q3, .int .i64 q4, .int .i64 q5, .int .i64 q6, .int .i64 q7] 45)).heap.size := by simp
      generalize (w2.alloc (.cells #[.int .i64 q0, .int .i64 q1, .int .i64 q2, .int .i64 q3, .int .i64 q4, .int .i64 q5, .int .i64 q6, .int .i64 q7] 45)) = V2 at *
      clear ct1_0 ct2_0 ct1_1 ct2_1 ct1_2 ct2_2 ct1_3 ct2_3 ct1_4 ct2_4 ct1_5 ct2_5 ct1_6 ct2_6 ct1_7 ct2_7
      have ne := aft_some V2
      refine wp_region_aft (by kernel_rfl) (by kernel_rfl) ?_
      repeat (first | go_big_quiet_step (fail))
      refine wpQuiet_nil ?_
      intro wq hq
      have HBQ : Hid (Below w.heap.size w wq) := below_step HB.out HB.out.size hq
      clear hq
      go_wp2
      go_ret
      exact ⟨ret_bool HJ.out.symm, HBQ.out⟩
    · obtain ⟨x0, x1, x2, x3, y0, y1, y2, y3, rfl, rfl, -⟩ := cntB_four hv
      have hn4 : n = 4 := HL.out.symm
      subst hn4
      have hm4 : m = 4 := HL'.out.symm
      subst hm4
      obtain ⟨z0, z1, z2, z3, v0, v1, v2, v3, rfl, rfl, -⟩ := cntB_four gv
      have gn4 : n' = 4 := GL.out.symm
      subst gn4
      have gm4 : m' = 4 := GL'.out.symm
      subst gm4
      have HJ := Lib.hid (leqC_good hv gv)
      have HV := Lib.hid hv
      have GV := Lib.hid gv
      clear hv gv
      go_enter Try.func12, Try.ntmps12
      go_wp2_with fail
      have HB : Hid (Below w.heap.size w ((w.alloc (.cells #[.slice a 4 cap, .slice b 4 cb] 26)).alloc (.cells #[.slice a' 4 cap', .slice b' 4 cb'] 26))) := (((Below.refl _ _).alloc (Nat.le_refl _) _).alloc (by simp) _)
      have cb1_0 : ((w.alloc (.cells #[.slice a 4 cap, .slice b 4 cb] 26)).alloc (.cells #[.slice a' 4 cap', .slice b' 4 cb'] 26)).cell? ⟨w.heap.size, 0, none⟩ = some (.slice a 4 cap) := by go_simp
      have cb1_1 : ((w.alloc (.cells #[.slice a 4 cap, .slice b 4 cb] 26)).alloc (.cells #[.slice a' 4 cap', .slice b' 4 cb'] 26)).cell? ⟨w.heap.size, 1, none⟩ = some (.slice b 4 cb) := by go_simp
      have zb1 : w.heap.size < ((w.alloc (.cells #[.slice a 4 cap, .slice b 4 cb] 26)).alloc (.cells #[.slice a' 4 cap', .slice b' 4 cb'] 26)).heap.size := by simp <;> omega
      have cb2_0 : ((w.alloc (.cells #[.slice a 4 cap, .slice b 4 cb] 26)).alloc (.cells #[.slice a' 4 cap', .slice b' 4 cb'] 26)).cell? ⟨w.heap.size + 1, 0, none⟩ = some (.slice a' 4 cap') := by go_simp
      have cb2_1 : ((w.alloc (.cells #[.slice a 4 cap, .slice b 4 cb] 26)).alloc (.cells #[.slice a' 4 cap', .slice b' 4 cb'] 26)).cell? ⟨w.heap.size + 1, 1, none⟩ = some (.slice b' 4 cb') := by go_simp
      have zb2 : w.heap.size + 1 < ((w.alloc (.cells #[.slice a 4 cap, .slice b 4 cb] 26)).alloc (.cells #[.slice a' 4 cap', .slice b' 4 cb'] 26)).heap.size := by simp
      have hsV0 : w.heap.size + 1 < ((w.alloc (.cells #[.slice a 4 cap, .slice b 4 cb] 26)).alloc (.cells #[.slice a' 4 cap', .slice b' 4 cb'] 26)).heap.size := by simp
      generalize ((w.alloc (.cells #[.slice a 4 cap, .slice b 4 cb] 26)).alloc (.cells #[.slice a' 4 cap', .slice b' 4 cb'] 26)) = V0 at *
      refine (tallyOf_good a cap b cb x0 x1 x2 x3 y0 y1 y2 y3 _ (HC.out.below HB.out) HV.out).mono ?_
      rintro e w1 ⟨rfl, hb⟩
      have hsw1 : V0.heap.size ≤ w1.heap.size := hb.size
      replace cb1_0 := cells_of hb zb1 cb1_0
      replace cb1_1 := cells_of hb zb1 cb1_1
      replace zb1 := Nat.lt_of_lt_of_le zb1 hb.size
      replace cb2_0 := cells_of hb zb2 cb2_0
      replace cb2_1 := cells_of hb zb2 cb2_1
      replace zb2 := Nat.lt_of_lt_of_le zb2 hb.size
      replace HB := Lib.hid (below_step HB.out HB.out.size hb)
      clear hb
      go_wp2_with fail
      have hA : Below w1.heap.size w1 (w1.alloc (.cells #[.int .i64 x0, .int .i64 x1, .int .i64 x2, .int .i64 x3, .int .i64 y0, .int .i64 y1, .int .i64 y2, .int .i64 y3] 45)) := (Below.refl _ _).alloc (Nat.le_refl _) _
      replace cb1_0 := cells_of hA zb1 cb1_0
      replace cb1_1 := cells_of hA zb1 cb1_1
      replace zb1 := Nat.lt_of_lt_of_le zb1 hA.size
      replace cb2_0 := cells_of hA zb2 cb2_0
      replace cb2_1 := cells_of hA zb2 cb2_1
      replace zb2 := Nat.lt_of_lt_of_le zb2 hA.size
      replace HB := Lib.hid (below_step HB.out HB.out.size hA)
      clear hA
      have ct1_0 : (w1.alloc (.cells #[.int .i64 x0, .int .i64 x1, .int .i64 x2, .int .i64 x3, .int .i64 y0, .int .i64 y1, .int .i64 y2, .int .i64 y3] 45)).cell? ⟨w1.heap.size, 0, none⟩ = some (.int .i64 x0) := by go_simp
      have ct1_1 : (w1.alloc (.cells #[.int .i64 x0, .int .i64 x1, .int .i64 x2, .int .i64 x3, .int .i64 y0, .int .i64 y1, .int .i64 y2, .int .i64 y3] 45)).cell? ⟨w1.heap.size, 1, none⟩ = some (.int .i64 x1) := by go_simp
      have ct1_2 : (w1.alloc (.cells #[.int .i64 x0, .int .i64 x1, .int .i64 x2, .int .i64 x3, .int .i64 y0, .int .i64 y1, .int .i64 y2, .int .i64 y3] 45)).cell? ⟨w1.heap.size, 2, none⟩ = some (.int .i64 x2) := by go_simp
      have ct1_3 : (w1.alloc (.cells #[.int .i64 x0, .int .i64 x1, .int .i64 x2, .int .i64 x3, .int .i64 y0, .int .i64 y1, .int .i64 y2, .int .i64 y3] 45)).cell? ⟨w1.heap.size, 3, none⟩ = some (.int .i64 x3) := by go_simp
      have ct1_4 : (w1.alloc (.cells #[.int .i64 x0, .int .i64 x1, .int .i64 x2, .int .i64 x3, .int .i64 y0, .int .i64 y1, .int .i64 y2, .int .i64 y3] 45)).cell? ⟨w1.heap.size, 4, none⟩ = some (.int .i64 y0) := by go_simp
      have ct1_5 : (w1.alloc (.cells #[.int .i64 x0, .int .i64 x1, .int .i64 x2, .int .i64 x3, .int .i64 y0, .int .i64 y1, .int .i64 y2, .int .i64 y3] 45)).cell? ⟨w1.heap.size, 5, none⟩ = some (.int .i64 y1) := by go_simp
      have ct1_6 : (w1.alloc (.cells #[.int .i64 x0, .int .i64 x1, .int .i64 x2, .int .i64 x3, .int .i64 y0, .int .i64 y1, .int .i64 y2, .int .i64 y3] 45)).cell? ⟨w1.heap.size, 6, none⟩ = some (.int .i64 y2) := by go_simp
      have ct1_7 : (w1.alloc (.cells #[.int .i64 x0, .int .i64 x1, .int .i64 x2, .int .i64 x3, .int .i64 y0, .int .i64 y1, .int .i64 y2, .int .i64 y3] 45)).cell? ⟨w1.heap.size, 7, none⟩ = some (.int .i64 y3) := by go_simp
      have zt1 : w1.heap.size < (w1.alloc (.cells #[.int .i64 x0, .int .i64 x1, .int .i64 x2, .int .i64 x3, .int .i64 y0, .int .i64 y1, .int .i64 y2, .int .i64 y3] 45)).heap.size := by simp
      have hsV1 : w1.heap.size < (w1.alloc (.cells #[.int .i64 x0, .int .i64 x1, .int .i64 x2, .int .i64 x3, .int .i64 y0, .int .i64 y1, .int .i64 y2, .int .i64 y3] 45)).heap.size := by simp
      generalize (w1.alloc (.cells #[.int .i64 x0, .int .i64 x1, .int .i64 x2, .int .i64 x3, .int .i64 y0, .int .i64 y1, .int .i64 y2, .int .i64 y3] 45)) = V1 at *
      refine (tallyOf_good a' cap' b' cb' z0 z1 z2 z3 v0 v1 v2 v3 _ (GC.out.below HB.out) GV.out).mono ?_
      rintro e w2 ⟨rfl, hb⟩
      have hsw2 : V1.heap.size ≤ w2.heap.size := hb.size
      replace cb1_0 := cells_of hb zb1 cb1_0
      replace cb1_1 := cells_of hb zb1 cb1_1
      replace zb1 := Nat.lt_of_lt_of_le zb1 hb.size
      replace cb2_0 := cells_of hb zb2 cb2_0
      replace cb2_1 := cells_of hb zb2 cb2_1
      replace zb2 := Nat.lt_of_lt_of_le zb2 hb.size
      replace ct1_0 := cells_of hb zt1 ct1_0
      replace ct1_1 := cells_of hb zt1 ct1_1
      replace ct1_2 := cells_of hb zt1 ct1_2
      replace ct1_3 := cells_of hb zt1 ct1_3
      replace ct1_4 := cells_of hb zt1 ct1_4
      replace ct1_5 := cells_of hb zt1 ct1_5
      replace ct1_6 := cells_of hb zt1 ct1_6
      replace ct1_7 := cells_of hb zt1 ct1_7
      replace zt1 := Nat.lt_of_lt_of_le zt1 hb.size
      replace HB := Lib.hid (below_step HB.out HB.out.size hb)
      clear hb
      go_wp2_with fail
      have hA : Below w2.heap.size w2 (w2.alloc (.cells #[.int .i64 z0, .int .i64 z1, .int .i64 z2, .int .i64 z3, .int .i64 v0, .int .i64 v1, .int .i64 v2, .int .i64 v3] 45)) := (Below.refl _ _).alloc (Nat.le_refl _) _
      replace cb1_0 := cells_of hA zb1 cb1_0
      replace cb1_1 := cells_of hA zb1 cb1_1
      replace zb1 := Nat.lt_of_lt_of_le zb1 hA.size
      replace cb2_0 := cells_of hA zb2 cb2_0
      replace cb2_1 := cells_of hA zb2 cb2_1
      replace zb2 := Nat.lt_of_lt_of_le zb2 hA.size
      replace ct1_0 := cells_of hA zt1 ct1_0
      replace ct1_1 := cells_of hA zt1 ct1_1
      replace ct1_2 := cells_of hA zt1 ct1_2
      replace ct1_3 := cells_of hA zt1 ct1_3
      replace ct1_4 := cells_of hA zt1 ct1_4
      replace ct1_5 := cells_of hA zt1 ct1_5
      replace ct1_6 := cells_of hA zt1 ct1_6
      replace ct1_7 := cells_of hA zt1 ct1_7
      replace zt1 := Nat.lt_of_lt_of_le zt1 hA.size
      replace HB := Lib.hid (below_step HB.out HB.out.size hA)
      clear hA
      have ct2_0 : (w2.alloc (.cells #[.int .i64 z0, .int .i64 z1, .int .i64 z2, .int .i64 z3, .int .i64 v0, .int .i64 v1, .int .i64 v2, .int .i64 v3] 45)).cell? ⟨w2.heap.size, 0, none⟩ = some (.int .i64 z0) := by go_simp
      have ct2_1 : (w2.alloc (.cells #[.int .i64 z0, .int .i64 z1, .int .i64 z2, .int .i64 z3, .int .i64 v0, .int .i64 v1, .int .i64 v2, .int .i64 v3] 45)).cell? ⟨w2.heap.size, 1, none⟩ = some (.int .i64 z1) := by go_simp
      have ct2_2 : (w2.alloc (.cells #[.int .i64 z0, .int .i64 z1, .int .i64 z2, .int .i64 z3, .int .i64 v0, .int .i64 v1, .int .i64 v2, .int .i64 v3] 45)).cell? ⟨w2.heap.size, 2, none⟩ = some (.int .i64 z2) := by go_simp
      have ct2_3 : (w2.alloc (.cells #[.int .i64 z0, .int .i64 z1, .int .i64 z2, .int .i64 z3, .int .i64 v0, .int .i64 v1, .int .i64 v2, .int .i64 v3] 45)).cell? ⟨w2.heap.size, 3, none⟩ = some (.int .i64 z3) := by go_simp
      have ct2_4 : (w2.alloc (.cells #[.int .i64 z0, .int .i64 z1, .int .i64 z2, .int .i64 z3, .int .i64 v0, .int .i64 v1, .int .i64 v2, .int .i64 v3] 45)).cell? ⟨w2.heap.size, 4, none⟩ = some (.int .i64 v0) := by go_simp
      have ct2_5 : (w2.alloc (.cells #[.int .i64 z0, .int .i64 z1, .int .i64 z2, .int .i64 z3, .int .i64 v0, .int .i64 v1, .int .i64 v2, .int .i64 v3] 45)).cell? ⟨w2.heap.size, 5, none⟩ = some (.int .i64 v1) := by go_simp
      have ct2_6 : (w2.alloc (.cells #[.int .i64 z0, .int .i64 z1, .int .i64 z2, .int .i64 z3, .int .i64 v0, .int .i64 v1, .int .i64 v2, .int .i64 v3] 45)).cell? ⟨w2.heap.size, 6, none⟩ = some (.int .i64 v2) := by go_simp
      have ct2_7 : (w2.alloc (.cells #[.int .i64 z0, .int .i64 z1, .int .i64 z2, .int .i64 z3, .int .i64 v0, .int .i64 v1, .int .i64 v2, .int .i64 v3] 45)).cell? ⟨w2.heap.size, 7, none⟩ = some (.int .i64 v3) := by go_simp
      have zt2 : w2.heap.size < (w2.alloc (.cells #[.int .i64 z0, .int .i64 z1, .int .i64 z2, .int .i64 z3, .int .i64 v0, .int .i64 v1, .int .i64 v2, .int .i64 v3] 45)).heap.size := by simp
      have hsV2 : w2.heap.size < (w2.alloc (.cells #[.int .i64 z0, .int .i64 z1, .int .i64 z2, .int .i64 z3, .int .i64 v0, .int .i64 v1, .int .i64 v2, .int .i64 v3] 45)).heap.size := by simp
      generalize (w2.alloc (.cells #[.int .i64 z0, .int .i64 z1, .int .i64 z2, .int .i64 z3, .int .i64 v0, .int .i64 v1, .int .i64 v2, .int .i64 v3] 45)) = V2 at *
      have g0 := aft_cell zt1 ct1_0
      have k0 := aft_cell zt2 ct2_0
      have g1 := aft_cell zt1 ct1_1
      have k1 := aft_cell zt2 ct2_1
      have g2 := aft_cell zt1 ct1_2
      have k2 := aft_cell zt2 ct2_2
      have g3 := aft_cell zt1 ct1_3
      have k3 := aft_cell zt2 ct2_3
      have g4 := aft_cell zt1 ct1_4
      have k4 := aft_cell zt2 ct2_4
      have g5 := aft_cell zt1 ct1_5
      have k5 := aft_cell zt2 ct2_5
      have g6 := aft_cell zt1 ct1_6
      have k6 := aft_cell zt2 ct2_6
      have g7 := aft_cell zt1 ct1_7
      have k7 := aft_cell zt2 ct2_7
      obtain ⟨zz, HZZ⟩ : ∃ zz, Hid (leqC [x0, x1, x2, x3] [y0, y1, y2, y3] [z0, z1, z2, z3] [v0, v1, v2, v3] = zz) := ⟨_, Lib.hid rfl⟩
      have heq : ∀ w, (Op.equalIn 10000 45 (taV (max x0 z0) (max x1 z1) (max x2 z2) (max x3 z3) (max y0 v0) (max y1 v1) (max y2 v2) (max y3 v3)) (taV z0 z1 z2 z3 v0 v1 v2 v3)).run Try.prog w = .ok zz w := fun w => by rw [← HZZ.out, HJ.out]; exact eql_ta 9997 w _ _ _ _ _ _ _ _ _ _ _ _ _ _ _ _
      clear HJ
      have HJN : Hid (∀ W, Calls Try.prog 22 #[taV x0 x1 x2 x3 y0 y1 y2 y3, taV z0 z1 z2 z3 v0 v1 v2 v3] W fun e w' => e = .returned (taV (max x0 z0) (max x1 z1) (max x2 z2) (max x3 z3) (max y0 v0) (max y1 v1) (max y2 v2) (max y3 v3)) ∧ Below W.heap.size W w') := tJoin_any x0 x1 x2 x3 y0 y1 y2 y3 z0 z1 z2 z3 v0 v1 v2 v3
      generalize max x0 z0 = m0 at *
      generalize max x1 z1 = m1 at *
      generalize max x2 z2 = m2 at *
      generalize max x3 z3 = m3 at *
      generalize max y0 v0 = m4 at *
      generalize max y1 v1 = m5 at *
      generalize max y2 v2 = m6 at *
      generalize max y3 v3 = m7 at *
      clear ct1_0 ct2_0 ct1_1 ct2_1 ct1_2 ct2_2 ct1_3 ct2_3 ct1_4 ct2_4 ct1_5 ct2_5 ct1_6 ct2_6 ct1_7 ct2_7
      have ne := aft_some V2
      refine wp_region_aft (by kernel_rfl) (by kernel_rfl) ?_
      repeat (first | go_big_quiet_step (first | (go_at_call 22; exact aft_of (HJN.out _))))
      refine wpQuiet_nil ?_
      intro wq hq
      have HBQ : Hid (Below w.heap.size w wq) := below_step HB.out HB.out.size hq
      clear hq
      go_wp2
      go_ret
      exact ⟨ret_bool HZZ.out.symm, HBQ.out⟩

end Go.Proofs.Ytaopkoamjfmhhaa
