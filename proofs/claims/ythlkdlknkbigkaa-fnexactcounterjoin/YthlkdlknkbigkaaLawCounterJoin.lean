/- At any two counters the law FnExactCounterJoin answers true: impl.CounterJoin answers as spec.CounterJoin, leaves its arguments as they were, and its answer owns its memory. No conditions. -/
import Derived.Test.YthlkdlknkbigkaaPack10
import Derived.Test.YthlkdlknkbigkaaRows
import Derived.Deep.DeepCutAuto
namespace Go.Proofs.Ythlkdlknkbigkaa.lawCounterJoin
open Go.ChangeShapes Go.WideShapes Go.ChangeAt Go.RowKit Go.Joins
attribute [local go_sem ↓] Go.wp_at_zero Go.wp_at_succ

set_option maxRecDepth 100000 in
set_option maxHeartbeats 1000000 in
theorem walk_big0 (a0 : Option Addr) (n0 cap0 : Nat) (b0 : Option Addr) (m0 cb0 : Nat) (a1 : Option Addr) (n1 cap1 : Nat) (b1 : Option Addr) (m1 cb1 : Nat) (w : World) (hn0 : n0 ≤ maxLen) (hm0 : m0 ≤ maxLen)  (h : 1048576 < n0 + m0) :
    Calls Try.prog 5 #[cntV a0 n0 cap0 b0 m0 cb0, cntV a1 n1 cap1 b1 m1 cb1] w fun e w' => e = .returned (.bool true) ∧ Below w.heap.size w w' := by
  go_enter Try.func5, Try.ntmps5
  go_wp2_with fail
  have HB : Hid (Below w.heap.size w ((w.alloc (.cells #[.slice a0 n0 cap0, .slice b0 m0 cb0] 24)).alloc (.cells #[.slice a1 n1 cap1, .slice b1 m1 cb1] 24))) := ((Below.refl _ _).alloc (Nat.le_refl _) _).alloc (by simp) _
  refine (szCounter_big _ _ _ _ _ _ _ _ (by omega) (by omega) (by omega) hn0 hm0).mono ?_
  rintro e w0 ⟨rfl, hb⟩
  replace HB := Lib.hid (below_step HB.out HB.out.size hb)
  clear hb
  go_wp2
  go_ret
  exact ⟨rfl, HB.out⟩

set_option maxRecDepth 100000 in
set_option maxHeartbeats 1000000 in
theorem walk_big1 (a0 : Option Addr) (n0 cap0 : Nat) (b0 : Option Addr) (m0 cb0 : Nat) (a1 : Option Addr) (n1 cap1 : Nat) (b1 : Option Addr) (m1 cb1 : Nat) (w : World) (hn1 : n1 ≤ maxLen) (hm1 : m1 ≤ maxLen) (h0 : n0 + m0 ≤ 1048576) (h : 1048576 < n0 + m0 + (n1 + m1)) :
    Calls Try.prog 5 #[cntV a0 n0 cap0 b0 m0 cb0, cntV a1 n1 cap1 b1 m1 cb1] w fun e w' => e = .returned (.bool true) ∧ Below w.heap.size w w' := by
  go_enter Try.func5, Try.ntmps5
  go_wp2_with fail
  have HB : Hid (Below w.heap.size w ((w.alloc (.cells #[.slice a0 n0 cap0, .slice b0 m0 cb0] 24)).alloc (.cells #[.slice a1 n1 cap1, .slice b1 m1 cb1] 24))) := ((Below.refl _ _).alloc (Nat.le_refl _) _).alloc (by simp) _
  refine (szCounter_small _ _ _ _ _ _ _ _ (by omega) (by omega) (by omega)).mono ?_
  rintro e w0 ⟨rfl, hb⟩
  replace HB := Lib.hid (below_step HB.out HB.out.size hb)
  have c0 := (hb.cell (p := ⟨w.heap.size + 1, 0, none⟩) (by simp)).trans (show ((w.alloc (.cells #[.slice a0 n0 cap0, .slice b0 m0 cb0] 24)).alloc (.cells #[.slice a1 n1 cap1, .slice b1 m1 cb1] 24)).cell? ⟨w.heap.size + 1, 0, none⟩ = some (.slice a1 n1 cap1) by go_simp)
  have c1 := (hb.cell (p := ⟨w.heap.size + 1, 1, none⟩) (by simp)).trans (show ((w.alloc (.cells #[.slice a0 n0 cap0, .slice b0 m0 cb0] 24)).alloc (.cells #[.slice a1 n1 cap1, .slice b1 m1 cb1] 24)).cell? ⟨w.heap.size + 1, 1, none⟩ = some (.slice b1 m1 cb1) by go_simp)
  clear hb
  go_wp2_with fail
  refine (szCounter_big _ _ _ _ _ _ _ _ (by omega) (by omega) (by omega) hn1 hm1).mono ?_
  rintro e w1 ⟨rfl, hb⟩
  replace HB := Lib.hid (below_step HB.out HB.out.size hb)
  clear hb
  go_wp2
  go_ret
  exact ⟨rfl, HB.out⟩

set_option maxRecDepth 100000 in
set_option maxHeartbeats 8000000 in
theorem walk_small (a0 : Option Addr) (n0 cap0 : Nat) (b0 : Option Addr) (m0 cb0 : Nat) (us0 ds0 : List Int) (a1 : Option Addr) (n1 cap1 : Nat) (b1 : Option Addr) (m1 cb1 : Nat) (us1 ds1 : List Int) (w : World) (hl0 : us0.length = n0) (hk0 : ds0.length = m0) (hi0 : IsC w a0 b0 us0 ds0) (hl1 : us1.length = n1) (hk1 : ds1.length = m1) (hi1 : IsC w a1 b1 us1 ds1) (h : (n0 + m0) + (n1 + m1) ≤ 1048576) :
    Calls Try.prog 5 #[cntV a0 n0 cap0 b0 m0 cb0, cntV a1 n1 cap1 b1 m1 cb1] w fun e w' => e = .returned (.bool true) ∧ Below w.heap.size w w' := by
  have HI0 : Hid (IsC w a0 b0 us0 ds0) := hi0
  have HN0 : Hid (us0.length = n0) := hl0
  have HK0 : Hid (ds0.length = m0) := hk0
  have hnx0 : n0 ≤ maxLen := by unfold maxLen; omega
  have hmx0 : m0 ≤ maxLen := by unfold maxLen; omega
  have hn0 : n0 ≤ 1048576 := by omega
  have hm0 : m0 ≤ 1048576 := by omega
  have HI1 : Hid (IsC w a1 b1 us1 ds1) := hi1
  have HN1 : Hid (us1.length = n1) := hl1
  have HK1 : Hid (ds1.length = m1) := hk1
  have hnx1 : n1 ≤ maxLen := by unfold maxLen; omega
  have hmx1 : m1 ≤ maxLen := by unfold maxLen; omega
  have hn1 : n1 ≤ 1048576 := by omega
  have hm1 : m1 ≤ 1048576 := by omega
  obtain ⟨RU, hRU⟩ : ∃ R, R = cjU us0 ds0 us1 ds1 := ⟨_, rfl⟩
  obtain ⟨RD, hRD⟩ : ∃ R, R = cjD us0 ds0 us1 ds1 := ⟨_, rfl⟩
  have hru : RU.length ≤ 4 := by rw [hRU]; exact (cj_len us0 ds0 us1 ds1).1
  have hrd : RD.length ≤ 4 := by rw [hRD]; exact (cj_len us0 ds0 us1 ds1).2
  have HSP : Hid (∀ W g0 h0 g1 h1, IsC W (some ⟨g0, 0, none⟩) (some ⟨h0, 0, none⟩) us0 ds0 → IsC W (some ⟨g1, 0, none⟩) (some ⟨h1, 0, none⟩) us1 ds1 → Calls Try.prog 17 #[cntV (some ⟨g0, 0, none⟩) n0 n0 (some ⟨h0, 0, none⟩) m0 m0, cntV (some ⟨g1, 0, none⟩) n1 n1 (some ⟨h1, 0, none⟩) m1 m1] W fun e w' => ∃ g cp g' cq, e = .returned (cntV g RU.length cp g' RD.length cq) ∧ OwnC w' W.heap.size w'.heap.size g g' RU RD ∧ Below W.heap.size W w') := fun W g0 h0 g1 h1 q0 q1 => by
    rw [hRU, hRD]
    exact specCounterJoin_any _ _ _ _ _ _ _ _ _ _ _ _ us0 ds0 us1 ds1 W HN0.out hnx0 HK0.out hmx0 q0 HN1.out hnx1 HK1.out hmx1 q1
  have HIM : Hid (∀ W g0 h0 g1 h1, IsC W (some ⟨g0, 0, none⟩) (some ⟨h0, 0, none⟩) us0 ds0 → IsC W (some ⟨g1, 0, none⟩) (some ⟨h1, 0, none⟩) us1 ds1 → Calls Try.prog 18 #[cntV (some ⟨g0, 0, none⟩) n0 n0 (some ⟨h0, 0, none⟩) m0 m0, cntV (some ⟨g1, 0, none⟩) n1 n1 (some ⟨h1, 0, none⟩) m1 m1] W fun e w' => ∃ g cp g' cq, e = .returned (cntV g RU.length cp g' RD.length cq) ∧ OwnC w' W.heap.size w'.heap.size g g' RU RD ∧ Below W.heap.size W w') := fun W g0 h0 g1 h1 q0 q1 => by
    rw [hRU, hRD]
    exact implCounterJoin_any _ _ _ _ _ _ _ _ _ _ _ _ us0 ds0 us1 ds1 W HN0.out hnx0 HK0.out hmx0 q0 HN1.out hnx1 HK1.out hmx1 q1
  clear hRU hRD hl0 hk0 hi0 hl1 hk1 hi1
  go_enter Try.func5, Try.ntmps5
  go_wp2_with fail
  have HB : Hid (Below w.heap.size w ((w.alloc (.cells #[.slice a0 n0 cap0, .slice b0 m0 cb0] 24)).alloc (.cells #[.slice a1 n1 cap1, .slice b1 m1 cb1] 24))) := ((Below.refl _ _).alloc (Nat.le_refl _) _).alloc (by simp) _
  have cb0_0 : ((w.alloc (.cells #[.slice a0 n0 cap0, .slice b0 m0 cb0] 24)).alloc (.cells #[.slice a1 n1 cap1, .slice b1 m1 cb1] 24)).cell? ⟨w.heap.size, 0, none⟩ = some (.slice a0 n0 cap0) := by go_simp
  have cb0_1 : ((w.alloc (.cells #[.slice a0 n0 cap0, .slice b0 m0 cb0] 24)).alloc (.cells #[.slice a1 n1 cap1, .slice b1 m1 cb1] 24)).cell? ⟨w.heap.size, 1, none⟩ = some (.slice b0 m0 cb0) := by go_simp
  have zb0 : w.heap.size < ((w.alloc (.cells #[.slice a0 n0 cap0, .slice b0 m0 cb0] 24)).alloc (.cells #[.slice a1 n1 cap1, .slice b1 m1 cb1] 24)).heap.size := by simp; omega
  have cb1_0 : ((w.alloc (.cells #[.slice a0 n0 cap0, .slice b0 m0 cb0] 24)).alloc (.cells #[.slice a1 n1 cap1, .slice b1 m1 cb1] 24)).cell? ⟨w.heap.size + 1, 0, none⟩ = some (.slice a1 n1 cap1) := by go_simp
  have cb1_1 : ((w.alloc (.cells #[.slice a0 n0 cap0, .slice b0 m0 cb0] 24)).alloc (.cells #[.slice a1 n1 cap1, .slice b1 m1 cb1] 24)).cell? ⟨w.heap.size + 1, 1, none⟩ = some (.slice b1 m1 cb1) := by go_simp
  have zb1 : w.heap.size + 1 < ((w.alloc (.cells #[.slice a0 n0 cap0, .slice b0 m0 cb0] 24)).alloc (.cells #[.slice a1 n1 cap1, .slice b1 m1 cb1] 24)).heap.size := by simp
  have hsV0 : w.heap.size + 1 < ((w.alloc (.cells #[.slice a0 n0 cap0, .slice b0 m0 cb0] 24)).alloc (.cells #[.slice a1 n1 cap1, .slice b1 m1 cb1] 24)).heap.size := zb1
  generalize ((w.alloc (.cells #[.slice a0 n0 cap0, .slice b0 m0 cb0] 24)).alloc (.cells #[.slice a1 n1 cap1, .slice b1 m1 cb1] 24)) = V0 at *
  refine (szCounter_small _ _ _ _ _ _ _ _ (by omega) (by omega) (by omega)).mono ?_
  rintro e u1 ⟨rfl, hb⟩
  have hsu1 : V0.heap.size ≤ u1.heap.size := hb.size
  replace cb0_0 := cells_of hb zb0 cb0_0
  replace cb0_1 := cells_of hb zb0 cb0_1
  replace zb0 := Nat.lt_of_lt_of_le zb0 hb.size
  replace cb1_0 := cells_of hb zb1 cb1_0
  replace cb1_1 := cells_of hb zb1 cb1_1
  replace zb1 := Nat.lt_of_lt_of_le zb1 hb.size
  replace HB := Lib.hid (below_step HB.out HB.out.size hb)
  clear hb
  go_wp2_with fail
  refine (szCounter_small _ _ _ _ _ _ _ _ (by omega) (by omega) (by omega)).mono ?_
  rintro e u2 ⟨rfl, hb⟩
  have hsu2 : u1.heap.size ≤ u2.heap.size := hb.size
  replace cb0_0 := cells_of hb zb0 cb0_0
  replace cb0_1 := cells_of hb zb0 cb0_1
  replace zb0 := Nat.lt_of_lt_of_le zb0 hb.size
  replace cb1_0 := cells_of hb zb1 cb1_0
  replace cb1_1 := cells_of hb zb1 cb1_1
  replace zb1 := Nat.lt_of_lt_of_le zb1 hb.size
  replace HB := Lib.hid (below_step HB.out HB.out.size hb)
  clear hb
  have yb0 := zb0
  have yb1 := zb1
  go_wp2_with fail
  refine wp_region_slots 6 [[(2, false)], [(24, true)], [(3, false)], [(26, true)], [(25, true), (27, true)], []] (fun w' => Below u2.heap.size u2 w') LowR (by kernel_rfl) (by kernel_rfl) (by rfl) (Below.refl _ _).drew (fun _ _ h hb => below_step h h.size hb) ?_
  apply slot_eq
  · intro ρ w' ⟨p1, p2, p3⟩ hS hn
    have d0 := cells_of hS zb0 cb0_0; have d1 := cells_of hS zb0 cb0_1
    simp at hn
    go_simp
    exact ⟨lowR_refl _, rfl⟩
  refine slot_fact (CtrF u2.heap.size n0 m0 us0 ds0) (lasts_ctrF _ _ _ _ _) ?_ ?_
  · intro ρ w' ⟨p1, p2, p3⟩ hS hn
    simp at hn
    go_simp
    exact got_call (toCounter_own a0 n0 cap0 b0 m0 cb0 us0 ds0 w' HN0.out hn0 HK0.out hm0 (HI0.out.below (below_step HB.out HB.out.size hS))) fun e w'' ⟨g, h, he, ho, hb⟩ => ⟨_, he, hb, g, h, rfl, ho.wider hS.size (Nat.le_refl _)⟩
  apply slot_eq
  · intro ρ w' ⟨p1, p2, p3⟩ hS hn
    have d0 := cells_of hS zb1 cb1_0; have d1 := cells_of hS zb1 cb1_1
    simp at hn
    go_simp
    exact ⟨lowR_refl _, rfl⟩
  refine slot_fact (CtrF u2.heap.size n1 m1 us1 ds1) (lasts_ctrF _ _ _ _ _) ?_ ?_
  · intro ρ w' ⟨p1, p2, p3⟩ hS hn
    simp at hn
    go_simp
    exact got_call (toCounter_own a1 n1 cap1 b1 m1 cb1 us1 ds1 w' HN1.out hn1 HK1.out hm1 (HI1.out.below (below_step HB.out HB.out.size hS))) fun e w'' ⟨g, h, he, ho, hb⟩ => ⟨_, he, hb, g, h, rfl, ho.wider hS.size (Nat.le_refl _)⟩
  refine slot_fact (AnsC u2.heap.size RU RD) (lasts_ansC _ _ _) ?_ ?_
  · intro ρ w' ⟨p1, p2, p3⟩ hS hn
    simp at hn
    obtain ⟨⟨g0, h0, e0, ho0⟩, g1, h1, e1, ho1⟩ := hn
    go_simp
    exact got_call (HSP.out _ _ _ _ _ ho0.isC ho1.isC) fun e w'' ⟨g, cp, g', cq, he, ho, hb⟩ => ⟨_, he, hb, g, cp, g', cq, rfl, ho.wider hS.size (Nat.le_refl _)⟩
  refine slot_fact (Box2F u2.heap.size) (lasts_box2F _) ?_ ?_
  · intro ρ w' ⟨p1, p2, p3⟩ hS hn
    have hz := hS.size
    go_simp
    exact ⟨(Below.refl _ _).alloc (Nat.le_refl _) _, _, rfl, hz, heap_alloc_new _ _⟩
  refine slot_end ?_
  rintro vs u3 hS hF
  simp at hF
  obtain ⟨⟨bw, fb, hb1, hb2⟩, ⟨aw, cpw, ew, cqw, f28, ho⟩, ⟨g1, h1, f27, -⟩, f26, ⟨g0, h0, f25, -⟩, f24⟩ := hF
  have hbt : bw < u3.heap.size := (Array.getElem?_eq_some_iff.1 hb2).1
  obtain ⟨cst, cst', fst, -⟩ := cells_two hb2
  simp only [List.take_succ_cons, List.take_zero, List.drop_succ_cons, List.drop_zero, putAll, fb, f28, f27, f26, f25, f24]
  clear fb f28 f27 f26 f25 f24
  simp only [Act.put, List.setIfInBounds_toArray, List.set_cons_succ, List.set_cons_zero]
  have hsu3 : u2.heap.size ≤ u3.heap.size := hS.size
  replace cb0_0 := cells_of hS zb0 cb0_0
  replace cb0_1 := cells_of hS zb0 cb0_1
  replace zb0 := Nat.lt_of_lt_of_le zb0 hS.size
  replace cb1_0 := cells_of hS zb1 cb1_0
  replace cb1_1 := cells_of hS zb1 cb1_1
  replace zb1 := Nat.lt_of_lt_of_le zb1 hS.size
  replace HB := Lib.hid (below_step HB.out HB.out.size hS)
  clear hS
  go_upto_region 9 with fail
  have Ow := Lib.hid (ho.off2 (s := aw) (n := RU.length) (m := cpw) hb2 (.slice ew RD.length cqw))
  clear ho
  replace cb0_0 := cell2 (b := bw) (v := .slice aw RU.length cpw) (u := .slice ew RD.length cqw) (show ¬ w.heap.size = bw by omega) cb0_0
  replace cb0_1 := cell2 (b := bw) (v := .slice aw RU.length cpw) (u := .slice ew RD.length cqw) (show ¬ w.heap.size = bw by omega) cb0_1
  replace zb0 : w.heap.size < ((u3.setCell ⟨bw, 0, none⟩ (.slice aw RU.length cpw)).setCell ⟨bw, 1, none⟩ (.slice ew RD.length cqw)).heap.size := by simpa using zb0
  replace cb1_0 := cell2 (b := bw) (v := .slice aw RU.length cpw) (u := .slice ew RD.length cqw) (show ¬ w.heap.size + 1 = bw by omega) cb1_0
  replace cb1_1 := cell2 (b := bw) (v := .slice aw RU.length cpw) (u := .slice ew RD.length cqw) (show ¬ w.heap.size + 1 = bw by omega) cb1_1
  replace zb1 : w.heap.size + 1 < ((u3.setCell ⟨bw, 0, none⟩ (.slice aw RU.length cpw)).setCell ⟨bw, 1, none⟩ (.slice ew RD.length cqw)).heap.size := by simpa using zb1
  replace HB := Lib.hid (low2 HB.out (by omega : w.heap.size ≤ bw) (.slice aw RU.length cpw) (.slice ew RD.length cqw))
  obtain ⟨cbw_0, cbw_1, -, -⟩ := cells_two (two_setCell1 (u := .slice ew RD.length cqw) (two_setCell0 (u := .slice aw RU.length cpw) hb2))
  have zbw : bw < ((u3.setCell ⟨bw, 0, none⟩ (.slice aw RU.length cpw)).setCell ⟨bw, 1, none⟩ (.slice ew RD.length cqw)).heap.size := by simpa using hbt
  have hsVw : u3.heap.size ≤ ((u3.setCell ⟨bw, 0, none⟩ (.slice aw RU.length cpw)).setCell ⟨bw, 1, none⟩ (.slice ew RD.length cqw)).heap.size := by simp
  have hhVw : ((u3.setCell ⟨bw, 0, none⟩ (.slice aw RU.length cpw)).setCell ⟨bw, 1, none⟩ (.slice ew RD.length cqw)).heap.size ≤ u3.heap.size := by simp
  clear hb2 cst cst' fst yb0 yb1
  generalize ((u3.setCell ⟨bw, 0, none⟩ (.slice aw RU.length cpw)).setCell ⟨bw, 1, none⟩ (.slice ew RD.length cqw)) = Vw at *
  go_wp2_with fail
  refine (toCounter_own a0 n0 cap0 b0 m0 cb0 us0 ds0 _ HN0.out hn0 HK0.out hm0 (HI0.out.below HB.out)).mono ?_
  rintro e u4 ⟨gx0, hx0, rfl, ho, hb⟩
  have hsu4 : Vw.heap.size ≤ u4.heap.size := hb.size
  replace cb0_0 := cells_of hb zb0 cb0_0
  replace cb0_1 := cells_of hb zb0 cb0_1
  replace zb0 := Nat.lt_of_lt_of_le zb0 hb.size
  replace cb1_0 := cells_of hb zb1 cb1_0
  replace cb1_1 := cells_of hb zb1 cb1_1
  replace zb1 := Nat.lt_of_lt_of_le zb1 hb.size
  replace cbw_0 := cells_of hb zbw cbw_0
  replace cbw_1 := cells_of hb zbw cbw_1
  replace zbw := Nat.lt_of_lt_of_le zbw hb.size
  replace Ow := Lib.hid (Ow.out.below hb)
  replace HB := Lib.hid (below_step HB.out HB.out.size hb)
  have X0 := Lib.hid ho
  clear ho
  clear hb
  go_wp2_with fail
  have hA : Below u4.heap.size u4 (u4.alloc (.cells #[.slice (some ⟨gx0, 0, none⟩) n0 n0, .slice (some ⟨hx0, 0, none⟩) m0 m0] 27)) := (Below.refl _ _).alloc (Nat.le_refl _) _
  replace cb0_0 := cells_of hA zb0 cb0_0
  replace cb0_1 := cells_of hA zb0 cb0_1
  replace zb0 := Nat.lt_of_lt_of_le zb0 hA.size
  replace cb1_0 := cells_of hA zb1 cb1_0
  replace cb1_1 := cells_of hA zb1 cb1_1
  replace zb1 := Nat.lt_of_lt_of_le zb1 hA.size
  replace cbw_0 := cells_of hA zbw cbw_0
  replace cbw_1 := cells_of hA zbw cbw_1
  replace zbw := Nat.lt_of_lt_of_le zbw hA.size
  replace Ow := Lib.hid (Ow.out.below hA)
  replace X0 := Lib.hid (X0.out.below hA)
  replace HB := Lib.hid (below_step HB.out HB.out.size hA)
  clear hA
  have cx0_0 : (u4.alloc (.cells #[.slice (some ⟨gx0, 0, none⟩) n0 n0, .slice (some ⟨hx0, 0, none⟩) m0 m0] 27)).cell? ⟨u4.heap.size, 0, none⟩ = some (.slice (some ⟨gx0, 0, none⟩) n0 n0) := by go_simp
  have cx0_1 : (u4.alloc (.cells #[.slice (some ⟨gx0, 0, none⟩) n0 n0, .slice (some ⟨hx0, 0, none⟩) m0 m0] 27)).cell? ⟨u4.heap.size, 1, none⟩ = some (.slice (some ⟨hx0, 0, none⟩) m0 m0) := by go_simp
  have zx0 : u4.heap.size < (u4.alloc (.cells #[.slice (some ⟨gx0, 0, none⟩) n0 n0, .slice (some ⟨hx0, 0, none⟩) m0 m0] 27)).heap.size := by simp
  have hsVx0 : u4.heap.size < (u4.alloc (.cells #[.slice (some ⟨gx0, 0, none⟩) n0 n0, .slice (some ⟨hx0, 0, none⟩) m0 m0] 27)).heap.size := by simp
  generalize (u4.alloc (.cells #[.slice (some ⟨gx0, 0, none⟩) n0 n0, .slice (some ⟨hx0, 0, none⟩) m0 m0] 27)) = Vx0 at *
  refine (toCounter_own a1 n1 cap1 b1 m1 cb1 us1 ds1 _ HN1.out hn1 HK1.out hm1 (HI1.out.below HB.out)).mono ?_
  rintro e u5 ⟨gx1, hx1, rfl, ho, hb⟩
  have hsu5 : Vx0.heap.size ≤ u5.heap.size := hb.size
  replace cb0_0 := cells_of hb zb0 cb0_0
  replace cb0_1 := cells_of hb zb0 cb0_1
  replace zb0 := Nat.lt_of_lt_of_le zb0 hb.size
  replace cb1_0 := cells_of hb zb1 cb1_0
  replace cb1_1 := cells_of hb zb1 cb1_1
  replace zb1 := Nat.lt_of_lt_of_le zb1 hb.size
  replace cbw_0 := cells_of hb zbw cbw_0
  replace cbw_1 := cells_of hb zbw cbw_1
  replace zbw := Nat.lt_of_lt_of_le zbw hb.size
  replace Ow := Lib.hid (Ow.out.below hb)
  replace X0 := Lib.hid (X0.out.below hb)
  replace cx0_0 := cells_of hb zx0 cx0_0
  replace cx0_1 := cells_of hb zx0 cx0_1
  replace zx0 := Nat.lt_of_lt_of_le zx0 hb.size
  replace HB := Lib.hid (below_step HB.out HB.out.size hb)
  have X1 := Lib.hid ho
  clear ho
  clear hb
  go_wp2_with fail
  have hA : Below u5.heap.size u5 (u5.alloc (.cells #[.slice (some ⟨gx1, 0, none⟩) n1 n1, .slice (some ⟨hx1, 0, none⟩) m1 m1] 27)) := (Below.refl _ _).alloc (Nat.le_refl _) _
  replace cb0_0 := cells_of hA zb0 cb0_0
  replace cb0_1 := cells_of hA zb0 cb0_1
  replace zb0 := Nat.lt_of_lt_of_le zb0 hA.size
  replace cb1_0 := cells_of hA zb1 cb1_0
  replace cb1_1 := cells_of hA zb1 cb1_1
  replace zb1 := Nat.lt_of_lt_of_le zb1 hA.size
  replace cbw_0 := cells_of hA zbw cbw_0
  replace cbw_1 := cells_of hA zbw cbw_1
  replace zbw := Nat.lt_of_lt_of_le zbw hA.size
  replace Ow := Lib.hid (Ow.out.below hA)
  replace X0 := Lib.hid (X0.out.below hA)
  replace cx0_0 := cells_of hA zx0 cx0_0
  replace cx0_1 := cells_of hA zx0 cx0_1
  replace zx0 := Nat.lt_of_lt_of_le zx0 hA.size
  replace X1 := Lib.hid (X1.out.below hA)
  replace HB := Lib.hid (below_step HB.out HB.out.size hA)
  clear hA
  have cx1_0 : (u5.alloc (.cells #[.slice (some ⟨gx1, 0, none⟩) n1 n1, .slice (some ⟨hx1, 0, none⟩) m1 m1] 27)).cell? ⟨u5.heap.size, 0, none⟩ = some (.slice (some ⟨gx1, 0, none⟩) n1 n1) := by go_simp
  have cx1_1 : (u5.alloc (.cells #[.slice (some ⟨gx1, 0, none⟩) n1 n1, .slice (some ⟨hx1, 0, none⟩) m1 m1] 27)).cell? ⟨u5.heap.size, 1, none⟩ = some (.slice (some ⟨hx1, 0, none⟩) m1 m1) := by go_simp
  have zx1 : u5.heap.size < (u5.alloc (.cells #[.slice (some ⟨gx1, 0, none⟩) n1 n1, .slice (some ⟨hx1, 0, none⟩) m1 m1] 27)).heap.size := by simp
  have hsVx1 : u5.heap.size < (u5.alloc (.cells #[.slice (some ⟨gx1, 0, none⟩) n1 n1, .slice (some ⟨hx1, 0, none⟩) m1 m1] 27)).heap.size := by simp
  generalize (u5.alloc (.cells #[.slice (some ⟨gx1, 0, none⟩) n1 n1, .slice (some ⟨hx1, 0, none⟩) m1 m1] 27)) = Vx1 at *
  refine (HIM.out _ _ _ _ _ X0.out.isC X1.out.isC).mono ?_
  rintro e u6 ⟨ag, cpg, eg, cqg, rfl, ho, hb⟩
  have hsu6 : Vx1.heap.size ≤ u6.heap.size := hb.size
  replace cb0_0 := cells_of hb zb0 cb0_0
  replace cb0_1 := cells_of hb zb0 cb0_1
  replace zb0 := Nat.lt_of_lt_of_le zb0 hb.size
  replace cb1_0 := cells_of hb zb1 cb1_0
  replace cb1_1 := cells_of hb zb1 cb1_1
  replace zb1 := Nat.lt_of_lt_of_le zb1 hb.size
  replace cbw_0 := cells_of hb zbw cbw_0
  replace cbw_1 := cells_of hb zbw cbw_1
  replace zbw := Nat.lt_of_lt_of_le zbw hb.size
  replace Ow := Lib.hid (Ow.out.below hb)
  replace X0 := Lib.hid (X0.out.below hb)
  replace cx0_0 := cells_of hb zx0 cx0_0
  replace cx0_1 := cells_of hb zx0 cx0_1
  replace zx0 := Nat.lt_of_lt_of_le zx0 hb.size
  replace X1 := Lib.hid (X1.out.below hb)
  replace cx1_0 := cells_of hb zx1 cx1_0
  replace cx1_1 := cells_of hb zx1 cx1_1
  replace zx1 := Nat.lt_of_lt_of_le zx1 hb.size
  replace HB := Lib.hid (below_step HB.out HB.out.size hb)
  have OG := Lib.hid ho
  clear ho
  clear hb
  go_wp2_with fail
  have hA : Below u6.heap.size u6 (u6.alloc (.cells #[.slice ag RU.length cpg, .slice eg RD.length cqg] 27)) := (Below.refl _ _).alloc (Nat.le_refl _) _
  replace cb0_0 := cells_of hA zb0 cb0_0
  replace cb0_1 := cells_of hA zb0 cb0_1
  replace zb0 := Nat.lt_of_lt_of_le zb0 hA.size
  replace cb1_0 := cells_of hA zb1 cb1_0
  replace cb1_1 := cells_of hA zb1 cb1_1
  replace zb1 := Nat.lt_of_lt_of_le zb1 hA.size
  replace cbw_0 := cells_of hA zbw cbw_0
  replace cbw_1 := cells_of hA zbw cbw_1
  replace zbw := Nat.lt_of_lt_of_le zbw hA.size
  replace Ow := Lib.hid (Ow.out.below hA)
  replace X0 := Lib.hid (X0.out.below hA)
  replace cx0_0 := cells_of hA zx0 cx0_0
  replace cx0_1 := cells_of hA zx0 cx0_1
  replace zx0 := Nat.lt_of_lt_of_le zx0 hA.size
  replace X1 := Lib.hid (X1.out.below hA)
  replace cx1_0 := cells_of hA zx1 cx1_0
  replace cx1_1 := cells_of hA zx1 cx1_1
  replace zx1 := Nat.lt_of_lt_of_le zx1 hA.size
  replace OG := Lib.hid (OG.out.below hA)
  replace HB := Lib.hid (below_step HB.out HB.out.size hA)
  clear hA
  have cbg_0 : (u6.alloc (.cells #[.slice ag RU.length cpg, .slice eg RD.length cqg] 27)).cell? ⟨u6.heap.size, 0, none⟩ = some (.slice ag RU.length cpg) := by go_simp
  have cbg_1 : (u6.alloc (.cells #[.slice ag RU.length cpg, .slice eg RD.length cqg] 27)).cell? ⟨u6.heap.size, 1, none⟩ = some (.slice eg RD.length cqg) := by go_simp
  have zbg : u6.heap.size < (u6.alloc (.cells #[.slice ag RU.length cpg, .slice eg RD.length cqg] 27)).heap.size := by simp
  have hsVg : u6.heap.size < (u6.alloc (.cells #[.slice ag RU.length cpg, .slice eg RD.length cqg] 27)).heap.size := by simp
  generalize (u6.alloc (.cells #[.slice ag RU.length cpg, .slice eg RD.length cqg] 27)) = Vg at *
  refine (eqCounter_same ag RU.length cpg eg RD.length cqg aw cpw ew cqw RU RD _ rfl (by omega) rfl (by omega) OG.out.ints Ow.out.ints).mono ?_
  rintro e u7 ⟨rfl, hb⟩
  have hsu7 : Vg.heap.size ≤ u7.heap.size := hb.size
  replace cb0_0 := cells_of hb zb0 cb0_0
  replace cb0_1 := cells_of hb zb0 cb0_1
  replace zb0 := Nat.lt_of_lt_of_le zb0 hb.size
  replace cb1_0 := cells_of hb zb1 cb1_0
  replace cb1_1 := cells_of hb zb1 cb1_1
  replace zb1 := Nat.lt_of_lt_of_le zb1 hb.size
  replace cbw_0 := cells_of hb zbw cbw_0
  replace cbw_1 := cells_of hb zbw cbw_1
  replace zbw := Nat.lt_of_lt_of_le zbw hb.size
  replace Ow := Lib.hid (Ow.out.below hb)
  replace X0 := Lib.hid (X0.out.below hb)
  replace cx0_0 := cells_of hb zx0 cx0_0
  replace cx0_1 := cells_of hb zx0 cx0_1
  replace zx0 := Nat.lt_of_lt_of_le zx0 hb.size
  replace X1 := Lib.hid (X1.out.below hb)
  replace cx1_0 := cells_of hb zx1 cx1_0
  replace cx1_1 := cells_of hb zx1 cx1_1
  replace zx1 := Nat.lt_of_lt_of_le zx1 hb.size
  replace OG := Lib.hid (OG.out.below hb)
  replace cbg_0 := cells_of hb zbg cbg_0
  replace cbg_1 := cells_of hb zbg cbg_1
  replace zbg := Nat.lt_of_lt_of_le zbg hb.size
  replace HB := Lib.hid (below_step HB.out HB.out.size hb)
  clear hb
  go_wp2_with fail
  refine wp_region_slots 5 [[(7, false)], [(2, false)], [(41, true)], [(40, true), (42, true)], [(43, true)]] (fun w' => Below u7.heap.size u7 w') LowR (by kernel_rfl) (by kernel_rfl) (by rfl) (Below.refl _ _).drew (fun _ _ h hb => below_step h h.size hb) ?_
  apply slot_eq
  · intro ρ w' ⟨p1, p2, p3⟩ hS hn
    have d0 := cells_of hS zx0 cx0_0; have d1 := cells_of hS zx0 cx0_1
    simp at hn
    go_simp
    exact ⟨lowR_refl _, rfl⟩
  apply slot_eq
  · intro ρ w' ⟨p1, p2, p3⟩ hS hn
    have d0 := cells_of hS zb0 cb0_0; have d1 := cells_of hS zb0 cb0_1
    simp at hn
    go_simp
    exact ⟨lowR_refl _, rfl⟩
  refine slot_fact (CtrF u7.heap.size n0 m0 us0 ds0) (lasts_ctrF _ _ _ _ _) ?_ ?_
  · intro ρ w' ⟨p1, p2, p3⟩ hS hn
    simp at hn
    go_simp
    exact got_call (toCounter_own a0 n0 cap0 b0 m0 cb0 us0 ds0 w' HN0.out hn0 HK0.out hm0 (HI0.out.below (below_step HB.out HB.out.size hS))) fun e w'' ⟨g, h, he, ho, hb⟩ => ⟨_, he, hb, g, h, rfl, ho.wider hS.size (Nat.le_refl _)⟩
  apply slot_eq
  · intro ρ w' ⟨p1, p2, p3⟩ hS hn
    simp at hn
    obtain ⟨e1, g, h, e2, ho⟩ := hn
    go_simp
    exact got_call (eqCounter_same _ n0 n0 _ m0 m0 _ n0 _ m0 us0 ds0 w' HN0.out hn0 HK0.out hm0 (X0.out.below hS).ints ho.ints) fun e w'' ⟨he, hb⟩ => ⟨_, he, hb, rfl⟩
  apply slot_eq
  · intro ρ w' ⟨p1, p2, p3⟩ hS hn
    simp at hn
    go_simp
    exact ⟨lowR_refl _, rfl⟩
  refine slot_end ?_
  rintro vs u8 hS hF
  simp at hF
  obtain ⟨e5, e4, ⟨g, h, e3, -⟩, e2, e1⟩ := hF
  simp only [List.take_succ_cons, List.take_zero, List.drop_succ_cons, List.drop_zero, putAll, e5, e4, e3, e2, e1]
  clear e5 e4 e3 e2 e1
  simp only [Act.put, List.setIfInBounds_toArray, List.set_cons_succ, List.set_cons_zero]
  have hsu8 : u7.heap.size ≤ u8.heap.size := hS.size
  replace cb0_0 := cells_of hS zb0 cb0_0
  replace cb0_1 := cells_of hS zb0 cb0_1
  replace zb0 := Nat.lt_of_lt_of_le zb0 hS.size
  replace cb1_0 := cells_of hS zb1 cb1_0
  replace cb1_1 := cells_of hS zb1 cb1_1
  replace zb1 := Nat.lt_of_lt_of_le zb1 hS.size
  replace cbw_0 := cells_of hS zbw cbw_0
  replace cbw_1 := cells_of hS zbw cbw_1
  replace zbw := Nat.lt_of_lt_of_le zbw hS.size
  replace Ow := Lib.hid (Ow.out.below hS)
  replace X0 := Lib.hid (X0.out.below hS)
  replace cx0_0 := cells_of hS zx0 cx0_0
  replace cx0_1 := cells_of hS zx0 cx0_1
  replace zx0 := Nat.lt_of_lt_of_le zx0 hS.size
  replace X1 := Lib.hid (X1.out.below hS)
  replace cx1_0 := cells_of hS zx1 cx1_0
  replace cx1_1 := cells_of hS zx1 cx1_1
  replace zx1 := Nat.lt_of_lt_of_le zx1 hS.size
  replace OG := Lib.hid (OG.out.below hS)
  replace cbg_0 := cells_of hS zbg cbg_0
  replace cbg_1 := cells_of hS zbg cbg_1
  replace zbg := Nat.lt_of_lt_of_le zbg hS.size
  replace HB := Lib.hid (below_step HB.out HB.out.size hS)
  clear hS
  go_wp2_with fail
  refine wp_region_slots 5 [[(8, false)], [(3, false)], [(46, true)], [(45, true), (47, true)], [(48, true)]] (fun w' => Below u8.heap.size u8 w') LowR (by kernel_rfl) (by kernel_rfl) (by rfl) (Below.refl _ _).drew (fun _ _ h hb => below_step h h.size hb) ?_
  apply slot_eq
  · intro ρ w' ⟨p1, p2, p3⟩ hS hn
    have d0 := cells_of hS zx1 cx1_0; have d1 := cells_of hS zx1 cx1_1
    simp at hn
    go_simp
    exact ⟨lowR_refl _, rfl⟩
  apply slot_eq
  · intro ρ w' ⟨p1, p2, p3⟩ hS hn
    have d0 := cells_of hS zb1 cb1_0; have d1 := cells_of hS zb1 cb1_1
    simp at hn
    go_simp
    exact ⟨lowR_refl _, rfl⟩
  refine slot_fact (CtrF u8.heap.size n1 m1 us1 ds1) (lasts_ctrF _ _ _ _ _) ?_ ?_
  · intro ρ w' ⟨p1, p2, p3⟩ hS hn
    simp at hn
    go_simp
    exact got_call (toCounter_own a1 n1 cap1 b1 m1 cb1 us1 ds1 w' HN1.out hn1 HK1.out hm1 (HI1.out.below (below_step HB.out HB.out.size hS))) fun e w'' ⟨g, h, he, ho, hb⟩ => ⟨_, he, hb, g, h, rfl, ho.wider hS.size (Nat.le_refl _)⟩
  apply slot_eq
  · intro ρ w' ⟨p1, p2, p3⟩ hS hn
    simp at hn
    obtain ⟨e1, g, h, e2, ho⟩ := hn
    go_simp
    exact got_call (eqCounter_same _ n1 n1 _ m1 m1 _ n1 _ m1 us1 ds1 w' HN1.out hn1 HK1.out hm1 (X1.out.below hS).ints ho.ints) fun e w'' ⟨he, hb⟩ => ⟨_, he, hb, rfl⟩
  apply slot_eq
  · intro ρ w' ⟨p1, p2, p3⟩ hS hn
    simp at hn
    go_simp
    exact ⟨lowR_refl _, rfl⟩
  refine slot_end ?_
  rintro vs u9 hS hF
  simp at hF
  obtain ⟨e5, e4, ⟨g, h, e3, -⟩, e2, e1⟩ := hF
  simp only [List.take_succ_cons, List.take_zero, List.drop_succ_cons, List.drop_zero, putAll, e5, e4, e3, e2, e1]
  clear e5 e4 e3 e2 e1
  simp only [Act.put, List.setIfInBounds_toArray, List.set_cons_succ, List.set_cons_zero]
  have hsu9 : u8.heap.size ≤ u9.heap.size := hS.size
  replace cb0_0 := cells_of hS zb0 cb0_0
  replace cb0_1 := cells_of hS zb0 cb0_1
  replace zb0 := Nat.lt_of_lt_of_le zb0 hS.size
  replace cb1_0 := cells_of hS zb1 cb1_0
  replace cb1_1 := cells_of hS zb1 cb1_1
  replace zb1 := Nat.lt_of_lt_of_le zb1 hS.size
  replace cbw_0 := cells_of hS zbw cbw_0
  replace cbw_1 := cells_of hS zbw cbw_1
  replace zbw := Nat.lt_of_lt_of_le zbw hS.size
  replace Ow := Lib.hid (Ow.out.below hS)
  replace X0 := Lib.hid (X0.out.below hS)
  replace cx0_0 := cells_of hS zx0 cx0_0
  replace cx0_1 := cells_of hS zx0 cx0_1
  replace zx0 := Nat.lt_of_lt_of_le zx0 hS.size
  replace X1 := Lib.hid (X1.out.below hS)
  replace cx1_0 := cells_of hS zx1 cx1_0
  replace cx1_1 := cells_of hS zx1 cx1_1
  replace zx1 := Nat.lt_of_lt_of_le zx1 hS.size
  replace OG := Lib.hid (OG.out.below hS)
  replace cbg_0 := cells_of hS zbg cbg_0
  replace cbg_1 := cells_of hS zbg cbg_1
  replace zbg := Nat.lt_of_lt_of_le zbg hS.size
  replace HB := Lib.hid (below_step HB.out HB.out.size hS)
  clear hS
  go_wp2_with fail
  refine (markCounter_any Vw.heap.size u4.heap.size n0 n0 _ m0 m0 _ (1) us0 ds0 _ HN0.out hn0 HK0.out hm0 (by omega) (by omega) (by omega) X0.out).mono ?_
  rintro e u10 ⟨rfl, -, ho⟩
  clear X0
  replace cb0_0 := cell_marked ho zb0 (fun h => by omega) cb0_0
  replace cb0_1 := cell_marked ho zb0 (fun h => by omega) cb0_1
  replace zb0 := Nat.lt_trans zb0 (lt_marked ho)
  replace cb1_0 := cell_marked ho zb1 (fun h => by omega) cb1_0
  replace cb1_1 := cell_marked ho zb1 (fun h => by omega) cb1_1
  replace zb1 := Nat.lt_trans zb1 (lt_marked ho)
  replace cbw_0 := cell_marked ho zbw (fun h => by omega) cbw_0
  replace cbw_1 := cell_marked ho zbw (fun h => by omega) cbw_1
  replace zbw := Nat.lt_trans zbw (lt_marked ho)
  replace Ow := Lib.hid (own_markedC ho Ow.out (fun x hx => by omega))
  replace cx0_0 := cell_marked ho zx0 (fun h => by omega) cx0_0
  replace cx0_1 := cell_marked ho zx0 (fun h => by omega) cx0_1
  replace zx0 := Nat.lt_trans zx0 (lt_marked ho)
  replace X1 := Lib.hid (own_markedC ho X1.out (fun x hx => by omega))
  replace cx1_0 := cell_marked ho zx1 (fun h => by omega) cx1_0
  replace cx1_1 := cell_marked ho zx1 (fun h => by omega) cx1_1
  replace zx1 := Nat.lt_trans zx1 (lt_marked ho)
  replace OG := Lib.hid (own_markedC ho OG.out (fun x hx => by omega))
  replace cbg_0 := cell_marked ho zbg (fun h => by omega) cbg_0
  replace cbg_1 := cell_marked ho zbg (fun h => by omega) cbg_1
  replace zbg := Nat.lt_trans zbg (lt_marked ho)
  replace HB := Lib.hid (HB.out.trans (low_marked ho HB.out.size (fun x hx => by omega)))
  have hsu10 : u9.heap.size ≤ u10.heap.size := Nat.le_of_lt (lt_marked ho)
  clear ho
  go_wp2_with fail
  refine (markCounter_any Vx0.heap.size u5.heap.size n1 n1 _ m1 m1 _ (1 + (n0 : Int) + (m0 : Int)) us1 ds1 _ HN1.out hn1 HK1.out hm1 (by omega) (by omega) (by omega) X1.out).mono ?_
  rintro e u11 ⟨rfl, -, ho⟩
  clear X1
  replace cb0_0 := cell_marked ho zb0 (fun h => by omega) cb0_0
  replace cb0_1 := cell_marked ho zb0 (fun h => by omega) cb0_1
  replace zb0 := Nat.lt_trans zb0 (lt_marked ho)
  replace cb1_0 := cell_marked ho zb1 (fun h => by omega) cb1_0
  replace cb1_1 := cell_marked ho zb1 (fun h => by omega) cb1_1
  replace zb1 := Nat.lt_trans zb1 (lt_marked ho)
  replace cbw_0 := cell_marked ho zbw (fun h => by omega) cbw_0
  replace cbw_1 := cell_marked ho zbw (fun h => by omega) cbw_1
  replace zbw := Nat.lt_trans zbw (lt_marked ho)
  replace Ow := Lib.hid (own_markedC ho Ow.out (fun x hx => by omega))
  replace cx0_0 := cell_marked ho zx0 (fun h => by omega) cx0_0
  replace cx0_1 := cell_marked ho zx0 (fun h => by omega) cx0_1
  replace zx0 := Nat.lt_trans zx0 (lt_marked ho)
  replace cx1_0 := cell_marked ho zx1 (fun h => by omega) cx1_0
  replace cx1_1 := cell_marked ho zx1 (fun h => by omega) cx1_1
  replace zx1 := Nat.lt_trans zx1 (lt_marked ho)
  replace OG := Lib.hid (own_markedC ho OG.out (fun x hx => by omega))
  replace cbg_0 := cell_marked ho zbg (fun h => by omega) cbg_0
  replace cbg_1 := cell_marked ho zbg (fun h => by omega) cbg_1
  replace zbg := Nat.lt_trans zbg (lt_marked ho)
  replace HB := Lib.hid (HB.out.trans (low_marked ho HB.out.size (fun x hx => by omega)))
  have hsu11 : u10.heap.size ≤ u11.heap.size := Nat.le_of_lt (lt_marked ho)
  clear ho
  go_wp2_with fail
  refine (eqCounter_same ag RU.length cpg eg RD.length cqg aw cpw ew cqw RU RD _ rfl (by omega) rfl (by omega) OG.out.ints Ow.out.ints).mono ?_
  rintro e u12 ⟨rfl, hb⟩
  have hsu12 : u11.heap.size ≤ u12.heap.size := hb.size
  replace cb0_0 := cells_of hb zb0 cb0_0
  replace cb0_1 := cells_of hb zb0 cb0_1
  replace zb0 := Nat.lt_of_lt_of_le zb0 hb.size
  replace cb1_0 := cells_of hb zb1 cb1_0
  replace cb1_1 := cells_of hb zb1 cb1_1
  replace zb1 := Nat.lt_of_lt_of_le zb1 hb.size
  replace cbw_0 := cells_of hb zbw cbw_0
  replace cbw_1 := cells_of hb zbw cbw_1
  replace zbw := Nat.lt_of_lt_of_le zbw hb.size
  replace Ow := Lib.hid (Ow.out.below hb)
  replace cx0_0 := cells_of hb zx0 cx0_0
  replace cx0_1 := cells_of hb zx0 cx0_1
  replace zx0 := Nat.lt_of_lt_of_le zx0 hb.size
  replace cx1_0 := cells_of hb zx1 cx1_0
  replace cx1_1 := cells_of hb zx1 cx1_1
  replace zx1 := Nat.lt_of_lt_of_le zx1 hb.size
  replace OG := Lib.hid (OG.out.below hb)
  replace cbg_0 := cells_of hb zbg cbg_0
  replace cbg_1 := cells_of hb zbg cbg_1
  replace zbg := Nat.lt_of_lt_of_le zbg hb.size
  replace HB := Lib.hid (below_step HB.out HB.out.size hb)
  clear hb
  go_wp2_with fail
  clear cx0_0 cx0_1 zx0
  clear cx1_0 cx1_1 zx1
  refine (markCounter_any Vx1.heap.size u6.heap.size RU.length cpg ag RD.length cqg eg 1 RU RD _ rfl (by omega) rfl (by omega) (by omega) (by omega) (by omega) OG.out).mono ?_
  rintro e u13 ⟨rfl, hmk, ho⟩
  have MG := Lib.hid hmk
  clear OG
  replace cb0_0 := cell_marked ho zb0 (fun h => by omega) cb0_0
  replace cb0_1 := cell_marked ho zb0 (fun h => by omega) cb0_1
  replace zb0 := Nat.lt_trans zb0 (lt_marked ho)
  replace cb1_0 := cell_marked ho zb1 (fun h => by omega) cb1_0
  replace cb1_1 := cell_marked ho zb1 (fun h => by omega) cb1_1
  replace zb1 := Nat.lt_trans zb1 (lt_marked ho)
  replace cbw_0 := cell_marked ho zbw (fun h => by omega) cbw_0
  replace cbw_1 := cell_marked ho zbw (fun h => by omega) cbw_1
  replace zbw := Nat.lt_trans zbw (lt_marked ho)
  replace Ow := Lib.hid (own_markedC ho Ow.out (fun x hx => by omega))
  replace cbg_0 := cell_marked ho zbg (fun h => by omega) cbg_0
  replace cbg_1 := cell_marked ho zbg (fun h => by omega) cbg_1
  replace zbg := Nat.lt_trans zbg (lt_marked ho)
  replace HB := Lib.hid (HB.out.trans (low_marked ho HB.out.size (fun x hx => by omega)))
  have hsu13 : u12.heap.size ≤ u13.heap.size := Nat.le_of_lt (lt_marked ho)
  clear ho hmk
  obtain ⟨kk, hkk⟩ : ∃ kk : Int, kk = 1 + (RU.length : Int) + (RD.length : Int) := ⟨_, rfl⟩
  have hk0 : 0 ≤ kk := by omega
  have hk1 : kk ≤ 1000000 := by omega
  have HH : Hid (∀ W, MarkedC W ag RU.length eg RD.length 1 → Calls Try.prog 16 #[cntV ag RU.length cpg eg RD.length cqg, .int .i64 1] W fun e w' => e = .returned (.int .i64 kk) ∧ Below W.heap.size W w') := fun W h => by
    rw [hkk]
    exact heldCounter_any _ _ _ _ _ _ _ _ (by omega) (by omega) (by omega) (by omega) h
  rw [← hkk]
  clear hkk
  go_wp2_with fail
  refine (HH.out _ MG.out).mono ?_
  rintro e u14 ⟨rfl, hb⟩
  have hsu14 : u13.heap.size ≤ u14.heap.size := hb.size
  replace cb0_0 := cells_of hb zb0 cb0_0
  replace cb0_1 := cells_of hb zb0 cb0_1
  replace zb0 := Nat.lt_of_lt_of_le zb0 hb.size
  replace cb1_0 := cells_of hb zb1 cb1_0
  replace cb1_1 := cells_of hb zb1 cb1_1
  replace zb1 := Nat.lt_of_lt_of_le zb1 hb.size
  replace cbw_0 := cells_of hb zbw cbw_0
  replace cbw_1 := cells_of hb zbw cbw_1
  replace zbw := Nat.lt_of_lt_of_le zbw hb.size
  replace Ow := Lib.hid (Ow.out.below hb)
  replace cbg_0 := cells_of hb zbg cbg_0
  replace cbg_1 := cells_of hb zbg cbg_1
  replace zbg := Nat.lt_of_lt_of_le zbg hb.size
  replace MG := Lib.hid (MG.out.below hb)
  replace HB := Lib.hid (below_step HB.out HB.out.size hb)
  clear hb
  have yb0 := zb0
  have yb1 := zb1
  have ybw := zbw
  have ybg := zbg
  have mkltMG := mk_ltC MG.out
  go_wp2_with fail
  refine wp_region_slots 6 [[(2, false)], [(75, true)], [(3, false)], [(77, true)], [(76, true), (78, true)], []] (fun w' => Below u14.heap.size u14 w') LowR (by kernel_rfl) (by kernel_rfl) (by rfl) (Below.refl _ _).drew (fun _ _ h hb => below_step h h.size hb) ?_
  apply slot_eq
  · intro ρ w' ⟨p1, p2, p3⟩ hS hn
    have d0 := cells_of hS zb0 cb0_0; have d1 := cells_of hS zb0 cb0_1
    simp at hn
    go_simp
    exact ⟨lowR_refl _, rfl⟩
  refine slot_fact (CtrF u14.heap.size n0 m0 us0 ds0) (lasts_ctrF _ _ _ _ _) ?_ ?_
  · intro ρ w' ⟨p1, p2, p3⟩ hS hn
    simp at hn
    go_simp
    exact got_call (toCounter_own a0 n0 cap0 b0 m0 cb0 us0 ds0 w' HN0.out hn0 HK0.out hm0 (HI0.out.below (below_step HB.out HB.out.size hS))) fun e w'' ⟨g, h, he, ho, hb⟩ => ⟨_, he, hb, g, h, rfl, ho.wider hS.size (Nat.le_refl _)⟩
  apply slot_eq
  · intro ρ w' ⟨p1, p2, p3⟩ hS hn
    have d0 := cells_of hS zb1 cb1_0; have d1 := cells_of hS zb1 cb1_1
    simp at hn
    go_simp
    exact ⟨lowR_refl _, rfl⟩
  refine slot_fact (CtrF u14.heap.size n1 m1 us1 ds1) (lasts_ctrF _ _ _ _ _) ?_ ?_
  · intro ρ w' ⟨p1, p2, p3⟩ hS hn
    simp at hn
    go_simp
    exact got_call (toCounter_own a1 n1 cap1 b1 m1 cb1 us1 ds1 w' HN1.out hn1 HK1.out hm1 (HI1.out.below (below_step HB.out HB.out.size hS))) fun e w'' ⟨g, h, he, ho, hb⟩ => ⟨_, he, hb, g, h, rfl, ho.wider hS.size (Nat.le_refl _)⟩
  refine slot_fact (AnsC u14.heap.size RU RD) (lasts_ansC _ _ _) ?_ ?_
  · intro ρ w' ⟨p1, p2, p3⟩ hS hn
    simp at hn
    obtain ⟨⟨g0, h0, e0, ho0⟩, g1, h1, e1, ho1⟩ := hn
    go_simp
    exact got_call (HIM.out _ _ _ _ _ ho0.isC ho1.isC) fun e w'' ⟨g, cp, g', cq, he, ho, hb⟩ => ⟨_, he, hb, g, cp, g', cq, rfl, ho.wider hS.size (Nat.le_refl _)⟩
  refine slot_fact (Box2F u14.heap.size) (lasts_box2F _) ?_ ?_
  · intro ρ w' ⟨p1, p2, p3⟩ hS hn
    have hz := hS.size
    go_simp
    exact ⟨(Below.refl _ _).alloc (Nat.le_refl _) _, _, rfl, hz, heap_alloc_new _ _⟩
  refine slot_end ?_
  rintro vs u15 hS hF
  simp at hF
  obtain ⟨⟨bh, fb, hb1, hb2⟩, ⟨ah, cph, eh, cqh, f79, ho⟩, ⟨g1, h1, f78, -⟩, f77, ⟨g0, h0, f76, -⟩, f75⟩ := hF
  have hbt : bh < u15.heap.size := (Array.getElem?_eq_some_iff.1 hb2).1
  obtain ⟨cst, cst', fst, -⟩ := cells_two hb2
  simp only [List.take_succ_cons, List.take_zero, List.drop_succ_cons, List.drop_zero, putAll, fb, f79, f78, f77, f76, f75]
  clear fb f79 f78 f77 f76 f75
  simp only [Act.put, List.setIfInBounds_toArray, List.set_cons_succ, List.set_cons_zero]
  have hsu15 : u14.heap.size ≤ u15.heap.size := hS.size
  replace cb0_0 := cells_of hS zb0 cb0_0
  replace cb0_1 := cells_of hS zb0 cb0_1
  replace zb0 := Nat.lt_of_lt_of_le zb0 hS.size
  replace cb1_0 := cells_of hS zb1 cb1_0
  replace cb1_1 := cells_of hS zb1 cb1_1
  replace zb1 := Nat.lt_of_lt_of_le zb1 hS.size
  replace cbw_0 := cells_of hS zbw cbw_0
  replace cbw_1 := cells_of hS zbw cbw_1
  replace zbw := Nat.lt_of_lt_of_le zbw hS.size
  replace Ow := Lib.hid (Ow.out.below hS)
  replace cbg_0 := cells_of hS zbg cbg_0
  replace cbg_1 := cells_of hS zbg cbg_1
  replace zbg := Nat.lt_of_lt_of_le zbg hS.size
  replace MG := Lib.hid (MG.out.below hS)
  replace HB := Lib.hid (below_step HB.out HB.out.size hS)
  clear hS
  go_upto_region 32 with fail
  have Oh := Lib.hid (ho.off2 (s := ah) (n := RU.length) (m := cph) hb2 (.slice eh RD.length cqh))
  clear ho
  replace cb0_0 := cell2 (b := bh) (v := .slice ah RU.length cph) (u := .slice eh RD.length cqh) (show ¬ w.heap.size = bh by omega) cb0_0
  replace cb0_1 := cell2 (b := bh) (v := .slice ah RU.length cph) (u := .slice eh RD.length cqh) (show ¬ w.heap.size = bh by omega) cb0_1
  replace zb0 : w.heap.size < ((u15.setCell ⟨bh, 0, none⟩ (.slice ah RU.length cph)).setCell ⟨bh, 1, none⟩ (.slice eh RD.length cqh)).heap.size := by simpa using zb0
  replace cb1_0 := cell2 (b := bh) (v := .slice ah RU.length cph) (u := .slice eh RD.length cqh) (show ¬ w.heap.size + 1 = bh by omega) cb1_0
  replace cb1_1 := cell2 (b := bh) (v := .slice ah RU.length cph) (u := .slice eh RD.length cqh) (show ¬ w.heap.size + 1 = bh by omega) cb1_1
  replace zb1 : w.heap.size + 1 < ((u15.setCell ⟨bh, 0, none⟩ (.slice ah RU.length cph)).setCell ⟨bh, 1, none⟩ (.slice eh RD.length cqh)).heap.size := by simpa using zb1
  replace cbw_0 := cell2 (b := bh) (v := .slice ah RU.length cph) (u := .slice eh RD.length cqh) (show ¬ bw = bh by omega) cbw_0
  replace cbw_1 := cell2 (b := bh) (v := .slice ah RU.length cph) (u := .slice eh RD.length cqh) (show ¬ bw = bh by omega) cbw_1
  replace zbw : bw < ((u15.setCell ⟨bh, 0, none⟩ (.slice ah RU.length cph)).setCell ⟨bh, 1, none⟩ (.slice eh RD.length cqh)).heap.size := by simpa using zbw
  replace Ow := Lib.hid (Ow.out.far2 (c := bh) (Or.inr (by omega)) (.slice ah RU.length cph) (.slice eh RD.length cqh))
  replace cbg_0 := cell2 (b := bh) (v := .slice ah RU.length cph) (u := .slice eh RD.length cqh) (show ¬ u6.heap.size = bh by omega) cbg_0
  replace cbg_1 := cell2 (b := bh) (v := .slice ah RU.length cph) (u := .slice eh RD.length cqh) (show ¬ u6.heap.size = bh by omega) cbg_1
  replace zbg : u6.heap.size < ((u15.setCell ⟨bh, 0, none⟩ (.slice ah RU.length cph)).setCell ⟨bh, 1, none⟩ (.slice eh RD.length cqh)).heap.size := by simpa using zbg
  replace MG := Lib.hid (MG.out.far2 (c := bh) mkltMG (by omega) (.slice ah RU.length cph) (.slice eh RD.length cqh))
  replace HB := Lib.hid (low2 HB.out (by omega : w.heap.size ≤ bh) (.slice ah RU.length cph) (.slice eh RD.length cqh))
  obtain ⟨cbh_0, cbh_1, -, -⟩ := cells_two (two_setCell1 (u := .slice eh RD.length cqh) (two_setCell0 (u := .slice ah RU.length cph) hb2))
  have zbh : bh < ((u15.setCell ⟨bh, 0, none⟩ (.slice ah RU.length cph)).setCell ⟨bh, 1, none⟩ (.slice eh RD.length cqh)).heap.size := by simpa using hbt
  have hsVh : u15.heap.size ≤ ((u15.setCell ⟨bh, 0, none⟩ (.slice ah RU.length cph)).setCell ⟨bh, 1, none⟩ (.slice eh RD.length cqh)).heap.size := by simp
  have hhVh : ((u15.setCell ⟨bh, 0, none⟩ (.slice ah RU.length cph)).setCell ⟨bh, 1, none⟩ (.slice eh RD.length cqh)).heap.size ≤ u15.heap.size := by simp
  clear hb2 cst cst' fst yb0 yb1 ybw ybg
  generalize ((u15.setCell ⟨bh, 0, none⟩ (.slice ah RU.length cph)).setCell ⟨bh, 1, none⟩ (.slice eh RD.length cqh)) = Vh at *
  go_wp2_with fail
  refine (eqCounter_same ah RU.length cph eh RD.length cqh aw cpw ew cqw RU RD _ rfl (by omega) rfl (by omega) Oh.out.ints Ow.out.ints).mono ?_
  rintro e u16 ⟨rfl, hb⟩
  have hsu16 : Vh.heap.size ≤ u16.heap.size := hb.size
  replace cb0_0 := cells_of hb zb0 cb0_0
  replace cb0_1 := cells_of hb zb0 cb0_1
  replace zb0 := Nat.lt_of_lt_of_le zb0 hb.size
  replace cb1_0 := cells_of hb zb1 cb1_0
  replace cb1_1 := cells_of hb zb1 cb1_1
  replace zb1 := Nat.lt_of_lt_of_le zb1 hb.size
  replace cbw_0 := cells_of hb zbw cbw_0
  replace cbw_1 := cells_of hb zbw cbw_1
  replace zbw := Nat.lt_of_lt_of_le zbw hb.size
  replace Ow := Lib.hid (Ow.out.below hb)
  replace cbg_0 := cells_of hb zbg cbg_0
  replace cbg_1 := cells_of hb zbg cbg_1
  replace zbg := Nat.lt_of_lt_of_le zbg hb.size
  replace MG := Lib.hid (MG.out.below hb)
  replace cbh_0 := cells_of hb zbh cbh_0
  replace cbh_1 := cells_of hb zbh cbh_1
  replace zbh := Nat.lt_of_lt_of_le zbh hb.size
  replace Oh := Lib.hid (Oh.out.below hb)
  replace HB := Lib.hid (below_step HB.out HB.out.size hb)
  clear hb
  go_wp2_with fail
  refine (HH.out _ MG.out).mono ?_
  rintro e u17 ⟨rfl, hb⟩
  have hsu17 : u16.heap.size ≤ u17.heap.size := hb.size
  replace cb0_0 := cells_of hb zb0 cb0_0
  replace cb0_1 := cells_of hb zb0 cb0_1
  replace zb0 := Nat.lt_of_lt_of_le zb0 hb.size
  replace cb1_0 := cells_of hb zb1 cb1_0
  replace cb1_1 := cells_of hb zb1 cb1_1
  replace zb1 := Nat.lt_of_lt_of_le zb1 hb.size
  replace cbw_0 := cells_of hb zbw cbw_0
  replace cbw_1 := cells_of hb zbw cbw_1
  replace zbw := Nat.lt_of_lt_of_le zbw hb.size
  replace Ow := Lib.hid (Ow.out.below hb)
  replace cbg_0 := cells_of hb zbg cbg_0
  replace cbg_1 := cells_of hb zbg cbg_1
  replace zbg := Nat.lt_of_lt_of_le zbg hb.size
  replace MG := Lib.hid (MG.out.below hb)
  replace cbh_0 := cells_of hb zbh cbh_0
  replace cbh_1 := cells_of hb zbh cbh_1
  replace zbh := Nat.lt_of_lt_of_le zbh hb.size
  replace Oh := Lib.hid (Oh.out.below hb)
  replace HB := Lib.hid (below_step HB.out HB.out.size hb)
  clear hb
  go_wp2
  go_ret
  exact ⟨rfl, HB.out⟩

theorem walk (a0 : Option Addr) (n0 cap0 : Nat) (b0 : Option Addr) (m0 cb0 : Nat) (us0 ds0 : List Int) (a1 : Option Addr) (n1 cap1 : Nat) (b1 : Option Addr) (m1 cb1 : Nat) (us1 ds1 : List Int) (w : World) (hr0 : CntIn w a0 n0 b0 m0 us0 ds0) (hr1 : CntIn w a1 n1 b1 m1 us1 ds1) :
    Calls Try.prog 5 #[cntV a0 n0 cap0 b0 m0 cb0, cntV a1 n1 cap1 b1 m1 cb1] w fun e w' => e = .returned (.bool true) ∧ Below w.heap.size w w' := by
  obtain ⟨⟨h10, h20, h30, -⟩, h40, h50, h60, -⟩ := hr0
  obtain ⟨⟨h11, h21, h31, -⟩, h41, h51, h61, -⟩ := hr1
  by_cases h0 : n0 + m0 ≤ 1048576
  · by_cases h : (n0 + m0) + (n1 + m1) ≤ 1048576
    · exact walk_small a0 n0 cap0 b0 m0 cb0 us0 ds0 a1 n1 cap1 b1 m1 cb1 us1 ds1 w h10 h40 ⟨h30, h60⟩ h11 h41 ⟨h31, h61⟩ h
    · exact walk_big1 a0 n0 cap0 b0 m0 cb0 a1 n1 cap1 b1 m1 cb1 w h21 h51 h0 (by omega)
  · exact walk_big0 a0 n0 cap0 b0 m0 cb0 a1 n1 cap1 b1 m1 cb1 w h20 h50 (by omega)

set_option maxRecDepth 100000 in
theorem lifted (os : Os) (started : os.Started) (H : Type) (enc : TypeId × Value → H) :
    ReturnsInHanded {} Try.checked os 5 .any (Rows.fnExactCounterJoinSpec.pre6 enc Try.prog Try.f5 Rows.fnExactCounterJoinRow.domain false) (Rows.fnExactCounterJoinSpec.post enc Try.prog Try.f5 false true false false) := by
  refine returnsInHanded_of_change (C := Try.checked) own started (by kernel_rfl) Try.func5
    (ChangeSpec.witness6 (enc := enc) (C := Try.checked) false ⟨#[], #[.agg #[.slice none 0 0, .slice none 0 0], .agg #[.slice none 0 0, .slice none 0 0]], []⟩ 8 (by kernel_rfl) (by kernel_rfl) (by kernel_rfl) (by kernel_rfl)) ?_
  intro W base args ds gs before hval0 hW hcnd _
  have hval : ∀ (j : Nat) t v, Try.f5.params[j]? = some t → args[j]? = some v → Value.okWide Try.prog W .any base t v := hval0
  have hW' := hW
  obtain ⟨p, q, hA0, hV, rfl, hfz, hnd⟩ := hW
  have hA : DataW.TrodAll enc Try.prog W 0 (fun _ => true) true Try.f5.params.toList args.toList ds p := hA0
  rw [Try.params5] at hA hval
  obtain ⟨v0, v1, d0, d1, p0, p1, rfl, rfl, rfl, h0, h1⟩ := trodAll_two hA
  have k0 := h0
  have lt0 : ∀ x ∈ p0, x.block < W.heap.size := by obtain ⟨m, hm⟩ := k0; exact DataW.trod_lt m _ _ _ hm
  have k1 := h1
  have lt1 : ∀ x ∈ p1, x.block < W.heap.size := by obtain ⟨m, hm⟩ := k1; exact DataW.trod_lt m _ _ _ hm
  obtain ⟨rfl, rfl⟩ := trodVars_none hV
  obtain ⟨a0, len0, cap0, b0, m0, cb0, us0, ds0, hv0, hr0⟩ := open_counter (hval 0 24 v0 rfl rfl) h0
  subst hv0
  obtain ⟨a1, len1, cap1, b1, m1, cb1, us1, ds1, hv1, hr1⟩ := open_counter (hval 1 24 v1 rfl rfl) h1
  subst hv1
  clear hA0 hval0
  refine (walk a0 len0 cap0 b0 m0 cb0 us0 ds0 a1 len1 cap1 b1 m1 cb1 us1 ds1 W hr0 hr1).mono fun e W' ⟨he, bel⟩ => ?_
  subst he
  exact ⟨_, rfl, _, _, _, [], _, [], hW', trodAll_mk1 (shut_bool Try.underlying4 _), (trodAll_mk2 (Below.trod laidOut (by kernel_rfl) (of_decide_eq_true (by kernel_rfl)) k0 bel lt0) (Below.trod laidOut (by kernel_rfl) (of_decide_eq_true (by kernel_rfl)) k1 bel lt1)), rfl, bel.frame _, fun h => by cases h⟩

theorem over : Rows.fnExactCounterJoinRow.holds Try.pinned (OpenSpec.ofChange Rows.fnExactCounterJoinSpec) :=
  OpenClaim.holds_of_wide 5 Try.f5 rfl rfl rfl rfl rfl rfl rfl ⟨rfl, rfl, rfl, rfl, rfl⟩ rfl rfl rfl rfl rfl (by kernel_rfl) Try.func5 (by kernel_rfl)
    (of_decide_eq_true (by kernel_rfl)) (by unfold Func.isWrapper; rw [if_neg (by decide +kernel)]; exact ⟨rfl, rfl⟩)
    (fun os started H enc _ => lifted os started H enc)

end Go.Proofs.Ythlkdlknkbigkaa.lawCounterJoin
namespace Go.Proofs.Ythlkdlknkbigkaa
theorem fnExactCounterJoin_holds : Rows.FnExactCounterJoinSaid := lawCounterJoin.over
#print axioms fnExactCounterJoin_holds
end Go.Proofs.Ythlkdlknkbigkaa
