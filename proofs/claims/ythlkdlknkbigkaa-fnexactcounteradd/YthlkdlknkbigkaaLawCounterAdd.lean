/- At every counter, site and number the law FnExactCounterAdd answers true: impl.CounterAdd answers as spec.CounterAdd, leaves its arguments as they were, and its answer owns its memory. No conditions. -/
import Derived.Test.YthlkdlknkbigkaaPack10
import Derived.Test.YthlkdlknkbigkaaRows
import Derived.Deep.DeepCutAuto
namespace Go.Proofs.Ythlkdlknkbigkaa.lawCounterAdd
open Go.ChangeShapes Go.WideShapes Go.ChangeAt Go.RowKit Go.Joins
attribute [local go_sem ↓] Go.wp_at_zero Go.wp_at_succ

set_option maxRecDepth 100000 in
set_option maxHeartbeats 1000000 in
theorem walk_big0 (a0 : Option Addr) (n0 cap0 : Nat) (b0 : Option Addr) (m0 cb0 : Nat) (x1 : Int) (x2 : Int) (w : World) (hn0 : n0 ≤ maxLen) (hm0 : m0 ≤ maxLen)  (h : 1048576 < n0 + m0) :
    Calls Try.prog 4 #[cntV a0 n0 cap0 b0 m0 cb0, .int .i64 x1, .int .i64 x2] w fun e w' => e = .returned (.bool true) ∧ Below w.heap.size w w' := by
  go_enter Try.func4, Try.ntmps4
  go_wp2_with fail
  have HB : Hid (Below w.heap.size w (w.alloc (.cells #[.slice a0 n0 cap0, .slice b0 m0 cb0] 24))) := (Below.refl _ _).alloc (Nat.le_refl _) _
  refine (szCounter_big _ _ _ _ _ _ _ _ (by omega) (by omega) (by omega) hn0 hm0).mono ?_
  rintro e w0 ⟨rfl, hb⟩
  replace HB := Lib.hid (below_step HB.out HB.out.size hb)
  clear hb
  go_wp2
  go_ret
  exact ⟨rfl, HB.out⟩

set_option maxRecDepth 100000 in
set_option maxHeartbeats 8000000 in
theorem walk_small (a0 : Option Addr) (n0 cap0 : Nat) (b0 : Option Addr) (m0 cb0 : Nat) (us0 ds0 : List Int) (x1 : Int) (x2 : Int) (w : World) (hl0 : us0.length = n0) (hk0 : ds0.length = m0) (hi0 : IsC w a0 b0 us0 ds0) (h : (n0 + m0) ≤ 1048576) :
    Calls Try.prog 4 #[cntV a0 n0 cap0 b0 m0 cb0, .int .i64 x1, .int .i64 x2] w fun e w' => e = .returned (.bool true) ∧ Below w.heap.size w w' := by
  have HI0 : Hid (IsC w a0 b0 us0 ds0) := hi0
  have HN0 : Hid (us0.length = n0) := hl0
  have HK0 : Hid (ds0.length = m0) := hk0
  have hnx0 : n0 ≤ maxLen := by unfold maxLen; omega
  have hmx0 : m0 ≤ maxLen := by unfold maxLen; omega
  have hn0 : n0 ≤ 1048576 := by omega
  have hm0 : m0 ≤ 1048576 := by omega
  obtain ⟨RU, hRU⟩ : ∃ R, R = caU us0 ds0 x1 x2 := ⟨_, rfl⟩
  obtain ⟨RD, hRD⟩ : ∃ R, R = caD us0 ds0 x1 x2 := ⟨_, rfl⟩
  have hru : RU.length ≤ 4 := by rw [hRU]; exact (ca_len us0 ds0 x1 x2).1
  have hrd : RD.length ≤ 4 := by rw [hRD]; exact (ca_len us0 ds0 x1 x2).2
  obtain ⟨ok, hok⟩ : ∃ ok, ok = addOk us0 ds0 x1 x2 := ⟨_, rfl⟩
  have HSP : Hid (∀ W g0 h0, IsC W (some ⟨g0, 0, none⟩) (some ⟨h0, 0, none⟩) us0 ds0 → Calls Try.prog 13 #[cntV (some ⟨g0, 0, none⟩) n0 n0 (some ⟨h0, 0, none⟩) m0 m0, .int .i64 x1, .int .i64 x2] W fun e w' => ∃ g cp g' cq, e = .returned (.tuple #[cntV g RU.length cp g' RD.length cq, .bool ok]) ∧ OwnC w' W.heap.size w'.heap.size g g' RU RD ∧ Below W.heap.size W w') := fun W g0 h0 q0 => by
    rw [hRU, hRD, hok]
    exact specCounterAdd_any _ _ _ _ _ _ us0 ds0 x1 x2 W HN0.out hnx0 HK0.out hmx0 q0
  have HIM : Hid (∀ W g0 h0, IsC W (some ⟨g0, 0, none⟩) (some ⟨h0, 0, none⟩) us0 ds0 → Calls Try.prog 14 #[cntV (some ⟨g0, 0, none⟩) n0 n0 (some ⟨h0, 0, none⟩) m0 m0, .int .i64 x1, .int .i64 x2] W fun e w' => ∃ g cp g' cq, e = .returned (.tuple #[cntV g RU.length cp g' RD.length cq, .bool ok]) ∧ OwnC w' W.heap.size w'.heap.size g g' RU RD ∧ Below W.heap.size W w') := fun W g0 h0 q0 => by
    rw [hRU, hRD, hok]
    exact implCounterAdd_any _ _ _ _ _ _ us0 ds0 x1 x2 W HN0.out hnx0 HK0.out hmx0 q0
  clear hRU hRD hok hl0 hk0 hi0
  go_enter Try.func4, Try.ntmps4
  go_wp2_with fail
  have HB : Hid (Below w.heap.size w (w.alloc (.cells #[.slice a0 n0 cap0, .slice b0 m0 cb0] 24))) := (Below.refl _ _).alloc (Nat.le_refl _) _
  have cb0_0 : (w.alloc (.cells #[.slice a0 n0 cap0, .slice b0 m0 cb0] 24)).cell? ⟨w.heap.size, 0, none⟩ = some (.slice a0 n0 cap0) := by go_simp
  have cb0_1 : (w.alloc (.cells #[.slice a0 n0 cap0, .slice b0 m0 cb0] 24)).cell? ⟨w.heap.size, 1, none⟩ = some (.slice b0 m0 cb0) := by go_simp
  have zb0 : w.heap.size < (w.alloc (.cells #[.slice a0 n0 cap0, .slice b0 m0 cb0] 24)).heap.size := by simp
  have hsV0 : w.heap.size < (w.alloc (.cells #[.slice a0 n0 cap0, .slice b0 m0 cb0] 24)).heap.size := zb0
  generalize (w.alloc (.cells #[.slice a0 n0 cap0, .slice b0 m0 cb0] 24)) = V0 at *
  refine (szCounter_small _ _ _ _ _ _ _ _ (by omega) (by omega) (by omega)).mono ?_
  rintro e u1 ⟨rfl, hb⟩
  have hsu1 : V0.heap.size ≤ u1.heap.size := hb.size
  replace cb0_0 := cells_of hb zb0 cb0_0
  replace cb0_1 := cells_of hb zb0 cb0_1
  replace zb0 := Nat.lt_of_lt_of_le zb0 hb.size
  replace HB := Lib.hid (below_step HB.out HB.out.size hb)
  clear hb
  go_wp2_with fail
  refine (toCounter_own a0 n0 cap0 b0 m0 cb0 us0 ds0 _ HN0.out hn0 HK0.out hm0 (HI0.out.below HB.out)).mono ?_
  rintro e u2 ⟨qw, rw, rfl, hq, hb⟩
  have hsu2 : u1.heap.size ≤ u2.heap.size := hb.size
  replace cb0_0 := cells_of hb zb0 cb0_0
  replace cb0_1 := cells_of hb zb0 cb0_1
  replace zb0 := Nat.lt_of_lt_of_le zb0 hb.size
  replace HB := Lib.hid (below_step HB.out HB.out.size hb)
  have hQ := Lib.hid hq.isC
  clear hq
  clear hb
  go_wp2_with fail
  refine (HSP.out _ _ _ hQ.out).mono ?_
  rintro e u3 ⟨aw, cpw, ew, cqw, rfl, ho, hb⟩
  have hsu3 : u2.heap.size ≤ u3.heap.size := hb.size
  replace cb0_0 := cells_of hb zb0 cb0_0
  replace cb0_1 := cells_of hb zb0 cb0_1
  replace zb0 := Nat.lt_of_lt_of_le zb0 hb.size
  replace HB := Lib.hid (below_step HB.out HB.out.size hb)
  have Ow := Lib.hid ho
  clear ho hQ
  clear hb
  go_wp2_with fail
  have hA : Below u3.heap.size u3 (u3.alloc (.cells #[.slice aw RU.length cpw, .slice ew RD.length cqw] 27)) := (Below.refl _ _).alloc (Nat.le_refl _) _
  replace cb0_0 := cells_of hA zb0 cb0_0
  replace cb0_1 := cells_of hA zb0 cb0_1
  replace zb0 := Nat.lt_of_lt_of_le zb0 hA.size
  replace Ow := Lib.hid (Ow.out.below hA)
  replace HB := Lib.hid (below_step HB.out HB.out.size hA)
  clear hA
  have cbw_0 : (u3.alloc (.cells #[.slice aw RU.length cpw, .slice ew RD.length cqw] 27)).cell? ⟨u3.heap.size, 0, none⟩ = some (.slice aw RU.length cpw) := by go_simp
  have cbw_1 : (u3.alloc (.cells #[.slice aw RU.length cpw, .slice ew RD.length cqw] 27)).cell? ⟨u3.heap.size, 1, none⟩ = some (.slice ew RD.length cqw) := by go_simp
  have zbw : u3.heap.size < (u3.alloc (.cells #[.slice aw RU.length cpw, .slice ew RD.length cqw] 27)).heap.size := by simp
  have hsVw : u3.heap.size < (u3.alloc (.cells #[.slice aw RU.length cpw, .slice ew RD.length cqw] 27)).heap.size := by simp
  generalize (u3.alloc (.cells #[.slice aw RU.length cpw, .slice ew RD.length cqw] 27)) = Vw at *
  refine (toCounter_own a0 n0 cap0 b0 m0 cb0 us0 ds0 _ HN0.out hn0 HK0.out hm0 (HI0.out.below HB.out)).mono ?_
  rintro e u4 ⟨gx0, hx0, rfl, ho, hb⟩
  have hsu4 : Vw.heap.size ≤ u4.heap.size := hb.size
  replace cb0_0 := cells_of hb zb0 cb0_0
  replace cb0_1 := cells_of hb zb0 cb0_1
  replace zb0 := Nat.lt_of_lt_of_le zb0 hb.size
  replace Ow := Lib.hid (Ow.out.below hb)
  replace cbw_0 := cells_of hb zbw cbw_0
  replace cbw_1 := cells_of hb zbw cbw_1
  replace zbw := Nat.lt_of_lt_of_le zbw hb.size
  replace HB := Lib.hid (below_step HB.out HB.out.size hb)
  have X0 := Lib.hid ho
  clear ho
  clear hb
  go_wp2_with fail
  have hA : Below u4.heap.size u4 (u4.alloc (.cells #[.slice (some ⟨gx0, 0, none⟩) n0 n0, .slice (some ⟨hx0, 0, none⟩) m0 m0] 27)) := (Below.refl _ _).alloc (Nat.le_refl _) _
  replace cb0_0 := cells_of hA zb0 cb0_0
  replace cb0_1 := cells_of hA zb0 cb0_1
  replace zb0 := Nat.lt_of_lt_of_le zb0 hA.size
  replace Ow := Lib.hid (Ow.out.below hA)
  replace cbw_0 := cells_of hA zbw cbw_0
  replace cbw_1 := cells_of hA zbw cbw_1
  replace zbw := Nat.lt_of_lt_of_le zbw hA.size
  replace X0 := Lib.hid (X0.out.below hA)
  replace HB := Lib.hid (below_step HB.out HB.out.size hA)
  clear hA
  have cx0_0 : (u4.alloc (.cells #[.slice (some ⟨gx0, 0, none⟩) n0 n0, .slice (some ⟨hx0, 0, none⟩) m0 m0] 27)).cell? ⟨u4.heap.size, 0, none⟩ = some (.slice (some ⟨gx0, 0, none⟩) n0 n0) := by go_simp
  have cx0_1 : (u4.alloc (.cells #[.slice (some ⟨gx0, 0, none⟩) n0 n0, .slice (some ⟨hx0, 0, none⟩) m0 m0] 27)).cell? ⟨u4.heap.size, 1, none⟩ = some (.slice (some ⟨hx0, 0, none⟩) m0 m0) := by go_simp
  have zx0 : u4.heap.size < (u4.alloc (.cells #[.slice (some ⟨gx0, 0, none⟩) n0 n0, .slice (some ⟨hx0, 0, none⟩) m0 m0] 27)).heap.size := by simp
  have hsVx0 : u4.heap.size < (u4.alloc (.cells #[.slice (some ⟨gx0, 0, none⟩) n0 n0, .slice (some ⟨hx0, 0, none⟩) m0 m0] 27)).heap.size := by simp
  generalize (u4.alloc (.cells #[.slice (some ⟨gx0, 0, none⟩) n0 n0, .slice (some ⟨hx0, 0, none⟩) m0 m0] 27)) = Vx0 at *
  refine (HIM.out _ _ _ X0.out.isC).mono ?_
  rintro e u5 ⟨ag, cpg, eg, cqg, rfl, ho, hb⟩
  have hsu5 : Vx0.heap.size ≤ u5.heap.size := hb.size
  replace cb0_0 := cells_of hb zb0 cb0_0
  replace cb0_1 := cells_of hb zb0 cb0_1
  replace zb0 := Nat.lt_of_lt_of_le zb0 hb.size
  replace Ow := Lib.hid (Ow.out.below hb)
  replace cbw_0 := cells_of hb zbw cbw_0
  replace cbw_1 := cells_of hb zbw cbw_1
  replace zbw := Nat.lt_of_lt_of_le zbw hb.size
  replace X0 := Lib.hid (X0.out.below hb)
  replace cx0_0 := cells_of hb zx0 cx0_0
  replace cx0_1 := cells_of hb zx0 cx0_1
  replace zx0 := Nat.lt_of_lt_of_le zx0 hb.size
  replace HB := Lib.hid (below_step HB.out HB.out.size hb)
  have OG := Lib.hid ho
  clear ho
  clear hb
  go_wp2_with fail
  have hA : Below u5.heap.size u5 (u5.alloc (.cells #[.slice ag RU.length cpg, .slice eg RD.length cqg] 27)) := (Below.refl _ _).alloc (Nat.le_refl _) _
  replace cb0_0 := cells_of hA zb0 cb0_0
  replace cb0_1 := cells_of hA zb0 cb0_1
  replace zb0 := Nat.lt_of_lt_of_le zb0 hA.size
  replace Ow := Lib.hid (Ow.out.below hA)
  replace cbw_0 := cells_of hA zbw cbw_0
  replace cbw_1 := cells_of hA zbw cbw_1
  replace zbw := Nat.lt_of_lt_of_le zbw hA.size
  replace X0 := Lib.hid (X0.out.below hA)
  replace cx0_0 := cells_of hA zx0 cx0_0
  replace cx0_1 := cells_of hA zx0 cx0_1
  replace zx0 := Nat.lt_of_lt_of_le zx0 hA.size
  replace OG := Lib.hid (OG.out.below hA)
  replace HB := Lib.hid (below_step HB.out HB.out.size hA)
  clear hA
  have cbg_0 : (u5.alloc (.cells #[.slice ag RU.length cpg, .slice eg RD.length cqg] 27)).cell? ⟨u5.heap.size, 0, none⟩ = some (.slice ag RU.length cpg) := by go_simp
  have cbg_1 : (u5.alloc (.cells #[.slice ag RU.length cpg, .slice eg RD.length cqg] 27)).cell? ⟨u5.heap.size, 1, none⟩ = some (.slice eg RD.length cqg) := by go_simp
  have zbg : u5.heap.size < (u5.alloc (.cells #[.slice ag RU.length cpg, .slice eg RD.length cqg] 27)).heap.size := by simp
  have hsVg : u5.heap.size < (u5.alloc (.cells #[.slice ag RU.length cpg, .slice eg RD.length cqg] 27)).heap.size := by simp
  generalize (u5.alloc (.cells #[.slice ag RU.length cpg, .slice eg RD.length cqg] 27)) = Vg at *
  refine (eqCounter_same ag RU.length cpg eg RD.length cqg aw cpw ew cqw RU RD _ rfl (by omega) rfl (by omega) OG.out.ints Ow.out.ints).mono ?_
  rintro e u6 ⟨rfl, hb⟩
  have hsu6 : Vg.heap.size ≤ u6.heap.size := hb.size
  replace cb0_0 := cells_of hb zb0 cb0_0
  replace cb0_1 := cells_of hb zb0 cb0_1
  replace zb0 := Nat.lt_of_lt_of_le zb0 hb.size
  replace Ow := Lib.hid (Ow.out.below hb)
  replace cbw_0 := cells_of hb zbw cbw_0
  replace cbw_1 := cells_of hb zbw cbw_1
  replace zbw := Nat.lt_of_lt_of_le zbw hb.size
  replace X0 := Lib.hid (X0.out.below hb)
  replace cx0_0 := cells_of hb zx0 cx0_0
  replace cx0_1 := cells_of hb zx0 cx0_1
  replace zx0 := Nat.lt_of_lt_of_le zx0 hb.size
  replace OG := Lib.hid (OG.out.below hb)
  replace cbg_0 := cells_of hb zbg cbg_0
  replace cbg_1 := cells_of hb zbg cbg_1
  replace zbg := Nat.lt_of_lt_of_le zbg hb.size
  replace HB := Lib.hid (below_step HB.out HB.out.size hb)
  clear hb
  go_wp2_with fail
  refine wp_region_slots 5 [[(10, false)], [(3, false)], [(50, true)], [(49, true), (51, true)], [(52, true)]] (fun w' => Below u6.heap.size u6 w') LowR (by kernel_rfl) (by kernel_rfl) (by rfl) (Below.refl _ _).drew (fun _ _ h hb => below_step h h.size hb) ?_
  apply slot_eq
  · intro ρ w' ⟨p1, p2, p3⟩ hS hn
    have d0 := cells_of hS zx0 cx0_0; have d1 := cells_of hS zx0 cx0_1
    simp at hn
    go_simp
    exact ⟨lowR_refl _, rfl⟩
  apply slot_eq
  · intro ρ w' ⟨p1, p2, p3⟩ hS hn
    have d0 := cells_of hS zb0 cb0_0; have d1 := cells_of hS zb0 cb0_1
    simp at hn
    go_simp
    exact ⟨lowR_refl _, rfl⟩
  refine slot_fact (CtrF u6.heap.size n0 m0 us0 ds0) (lasts_ctrF _ _ _ _ _) ?_ ?_
  · intro ρ w' ⟨p1, p2, p3⟩ hS hn
    simp at hn
    go_simp
    exact got_call (toCounter_own a0 n0 cap0 b0 m0 cb0 us0 ds0 w' HN0.out hn0 HK0.out hm0 (HI0.out.below (below_step HB.out HB.out.size hS))) fun e w'' ⟨g, h, he, ho, hb⟩ => ⟨_, he, hb, g, h, rfl, ho.wider hS.size (Nat.le_refl _)⟩
  apply slot_eq
  · intro ρ w' ⟨p1, p2, p3⟩ hS hn
    simp at hn
    obtain ⟨e1, g, h, e2, ho⟩ := hn
    go_simp
    exact got_call (eqCounter_same _ n0 n0 _ m0 m0 _ n0 _ m0 us0 ds0 w' HN0.out hn0 HK0.out hm0 (X0.out.below hS).ints ho.ints) fun e w'' ⟨he, hb⟩ => ⟨_, he, hb, rfl⟩
  apply slot_eq
  · intro ρ w' ⟨p1, p2, p3⟩ hS hn
    simp at hn
    go_simp
    exact ⟨lowR_refl _, rfl⟩
  refine slot_end ?_
  rintro vs u7 hS hF
  simp at hF
  obtain ⟨e5, e4, ⟨g, h, e3, -⟩, e2, e1⟩ := hF
  simp only [List.take_succ_cons, List.take_zero, List.drop_succ_cons, List.drop_zero, putAll, e5, e4, e3, e2, e1]
  clear e5 e4 e3 e2 e1
  simp only [Act.put, List.setIfInBounds_toArray, List.set_cons_succ, List.set_cons_zero]
  have hsu7 : u6.heap.size ≤ u7.heap.size := hS.size
  replace cb0_0 := cells_of hS zb0 cb0_0
  replace cb0_1 := cells_of hS zb0 cb0_1
  replace zb0 := Nat.lt_of_lt_of_le zb0 hS.size
  replace Ow := Lib.hid (Ow.out.below hS)
  replace cbw_0 := cells_of hS zbw cbw_0
  replace cbw_1 := cells_of hS zbw cbw_1
  replace zbw := Nat.lt_of_lt_of_le zbw hS.size
  replace X0 := Lib.hid (X0.out.below hS)
  replace cx0_0 := cells_of hS zx0 cx0_0
  replace cx0_1 := cells_of hS zx0 cx0_1
  replace zx0 := Nat.lt_of_lt_of_le zx0 hS.size
  replace OG := Lib.hid (OG.out.below hS)
  replace cbg_0 := cells_of hS zbg cbg_0
  replace cbg_1 := cells_of hS zbg cbg_1
  replace zbg := Nat.lt_of_lt_of_le zbg hS.size
  replace HB := Lib.hid (below_step HB.out HB.out.size hS)
  clear hS
  go_wp2_with fail
  refine (markCounter_any Vw.heap.size u4.heap.size n0 n0 _ m0 m0 _ (1) us0 ds0 _ HN0.out hn0 HK0.out hm0 (by omega) (by omega) (by omega) X0.out).mono ?_
  rintro e u8 ⟨rfl, -, ho⟩
  clear X0
  replace cb0_0 := cell_marked ho zb0 (fun h => by omega) cb0_0
  replace cb0_1 := cell_marked ho zb0 (fun h => by omega) cb0_1
  replace zb0 := Nat.lt_trans zb0 (lt_marked ho)
  replace Ow := Lib.hid (own_markedC ho Ow.out (fun x hx => by omega))
  replace cbw_0 := cell_marked ho zbw (fun h => by omega) cbw_0
  replace cbw_1 := cell_marked ho zbw (fun h => by omega) cbw_1
  replace zbw := Nat.lt_trans zbw (lt_marked ho)
  replace cx0_0 := cell_marked ho zx0 (fun h => by omega) cx0_0
  replace cx0_1 := cell_marked ho zx0 (fun h => by omega) cx0_1
  replace zx0 := Nat.lt_trans zx0 (lt_marked ho)
  replace OG := Lib.hid (own_markedC ho OG.out (fun x hx => by omega))
  replace cbg_0 := cell_marked ho zbg (fun h => by omega) cbg_0
  replace cbg_1 := cell_marked ho zbg (fun h => by omega) cbg_1
  replace zbg := Nat.lt_trans zbg (lt_marked ho)
  replace HB := Lib.hid (HB.out.trans (low_marked ho HB.out.size (fun x hx => by omega)))
  have hsu8 : u7.heap.size ≤ u8.heap.size := Nat.le_of_lt (lt_marked ho)
  clear ho
  go_wp2_with fail
  refine (eqCounter_same ag RU.length cpg eg RD.length cqg aw cpw ew cqw RU RD _ rfl (by omega) rfl (by omega) OG.out.ints Ow.out.ints).mono ?_
  rintro e u9 ⟨rfl, hb⟩
  have hsu9 : u8.heap.size ≤ u9.heap.size := hb.size
  replace cb0_0 := cells_of hb zb0 cb0_0
  replace cb0_1 := cells_of hb zb0 cb0_1
  replace zb0 := Nat.lt_of_lt_of_le zb0 hb.size
  replace Ow := Lib.hid (Ow.out.below hb)
  replace cbw_0 := cells_of hb zbw cbw_0
  replace cbw_1 := cells_of hb zbw cbw_1
  replace zbw := Nat.lt_of_lt_of_le zbw hb.size
  replace cx0_0 := cells_of hb zx0 cx0_0
  replace cx0_1 := cells_of hb zx0 cx0_1
  replace zx0 := Nat.lt_of_lt_of_le zx0 hb.size
  replace OG := Lib.hid (OG.out.below hb)
  replace cbg_0 := cells_of hb zbg cbg_0
  replace cbg_1 := cells_of hb zbg cbg_1
  replace zbg := Nat.lt_of_lt_of_le zbg hb.size
  replace HB := Lib.hid (below_step HB.out HB.out.size hb)
  clear hb
  go_wp2_with fail
  clear cx0_0 cx0_1 zx0
  refine (markCounter_any Vx0.heap.size u5.heap.size RU.length cpg ag RD.length cqg eg 1 RU RD _ rfl (by omega) rfl (by omega) (by omega) (by omega) (by omega) OG.out).mono ?_
  rintro e u10 ⟨rfl, hmk, ho⟩
  have MG := Lib.hid hmk
  clear OG
  replace cb0_0 := cell_marked ho zb0 (fun h => by omega) cb0_0
  replace cb0_1 := cell_marked ho zb0 (fun h => by omega) cb0_1
  replace zb0 := Nat.lt_trans zb0 (lt_marked ho)
  replace Ow := Lib.hid (own_markedC ho Ow.out (fun x hx => by omega))
  replace cbw_0 := cell_marked ho zbw (fun h => by omega) cbw_0
  replace cbw_1 := cell_marked ho zbw (fun h => by omega) cbw_1
  replace zbw := Nat.lt_trans zbw (lt_marked ho)
  replace cbg_0 := cell_marked ho zbg (fun h => by omega) cbg_0
  replace cbg_1 := cell_marked ho zbg (fun h => by omega) cbg_1
  replace zbg := Nat.lt_trans zbg (lt_marked ho)
  replace HB := Lib.hid (HB.out.trans (low_marked ho HB.out.size (fun x hx => by omega)))
  have hsu10 : u9.heap.size ≤ u10.heap.size := Nat.le_of_lt (lt_marked ho)
  clear ho hmk
  obtain ⟨kk, hkk⟩ : ∃ kk : Int, kk = 1 + (RU.length : Int) + (RD.length : Int) := ⟨_, rfl⟩
  have hk0 : 0 ≤ kk := by omega
  have hk1 : kk ≤ 1000000 := by omega
  have HH : Hid (∀ W, MarkedC W ag RU.length eg RD.length 1 → Calls Try.prog 16 #[cntV ag RU.length cpg eg RD.length cqg, .int .i64 1] W fun e w' => e = .returned (.int .i64 kk) ∧ Below W.heap.size W w') := fun W h => by
    rw [hkk]
    exact heldCounter_any _ _ _ _ _ _ _ _ (by omega) (by omega) (by omega) (by omega) h
  rw [← hkk]
  clear hkk
  go_wp2_with fail
  refine (HH.out _ MG.out).mono ?_
  rintro e u11 ⟨rfl, hb⟩
  have hsu11 : u10.heap.size ≤ u11.heap.size := hb.size
  replace cb0_0 := cells_of hb zb0 cb0_0
  replace cb0_1 := cells_of hb zb0 cb0_1
  replace zb0 := Nat.lt_of_lt_of_le zb0 hb.size
  replace Ow := Lib.hid (Ow.out.below hb)
  replace cbw_0 := cells_of hb zbw cbw_0
  replace cbw_1 := cells_of hb zbw cbw_1
  replace zbw := Nat.lt_of_lt_of_le zbw hb.size
  replace cbg_0 := cells_of hb zbg cbg_0
  replace cbg_1 := cells_of hb zbg cbg_1
  replace zbg := Nat.lt_of_lt_of_le zbg hb.size
  replace MG := Lib.hid (MG.out.below hb)
  replace HB := Lib.hid (below_step HB.out HB.out.size hb)
  clear hb
  go_wp2_with fail
  refine (toCounter_own a0 n0 cap0 b0 m0 cb0 us0 ds0 _ HN0.out hn0 HK0.out hm0 (HI0.out.below HB.out)).mono ?_
  rintro e u12 ⟨qh, rh, rfl, hq, hb⟩
  have hsu12 : u11.heap.size ≤ u12.heap.size := hb.size
  replace cb0_0 := cells_of hb zb0 cb0_0
  replace cb0_1 := cells_of hb zb0 cb0_1
  replace zb0 := Nat.lt_of_lt_of_le zb0 hb.size
  replace Ow := Lib.hid (Ow.out.below hb)
  replace cbw_0 := cells_of hb zbw cbw_0
  replace cbw_1 := cells_of hb zbw cbw_1
  replace zbw := Nat.lt_of_lt_of_le zbw hb.size
  replace cbg_0 := cells_of hb zbg cbg_0
  replace cbg_1 := cells_of hb zbg cbg_1
  replace zbg := Nat.lt_of_lt_of_le zbg hb.size
  replace MG := Lib.hid (MG.out.below hb)
  replace HB := Lib.hid (below_step HB.out HB.out.size hb)
  have hQ := Lib.hid hq.isC
  clear hq
  clear hb
  go_wp2_with fail
  refine (HIM.out _ _ _ hQ.out).mono ?_
  rintro e u13 ⟨ah, cph, eh, cqh, rfl, ho, hb⟩
  have hsu13 : u12.heap.size ≤ u13.heap.size := hb.size
  replace cb0_0 := cells_of hb zb0 cb0_0
  replace cb0_1 := cells_of hb zb0 cb0_1
  replace zb0 := Nat.lt_of_lt_of_le zb0 hb.size
  replace Ow := Lib.hid (Ow.out.below hb)
  replace cbw_0 := cells_of hb zbw cbw_0
  replace cbw_1 := cells_of hb zbw cbw_1
  replace zbw := Nat.lt_of_lt_of_le zbw hb.size
  replace cbg_0 := cells_of hb zbg cbg_0
  replace cbg_1 := cells_of hb zbg cbg_1
  replace zbg := Nat.lt_of_lt_of_le zbg hb.size
  replace MG := Lib.hid (MG.out.below hb)
  replace HB := Lib.hid (below_step HB.out HB.out.size hb)
  have Oh := Lib.hid ho
  clear ho hQ
  clear hb
  go_wp2_with fail
  have hA : Below u13.heap.size u13 (u13.alloc (.cells #[.slice ah RU.length cph, .slice eh RD.length cqh] 27)) := (Below.refl _ _).alloc (Nat.le_refl _) _
  replace cb0_0 := cells_of hA zb0 cb0_0
  replace cb0_1 := cells_of hA zb0 cb0_1
  replace zb0 := Nat.lt_of_lt_of_le zb0 hA.size
  replace Ow := Lib.hid (Ow.out.below hA)
  replace cbw_0 := cells_of hA zbw cbw_0
  replace cbw_1 := cells_of hA zbw cbw_1
  replace zbw := Nat.lt_of_lt_of_le zbw hA.size
  replace cbg_0 := cells_of hA zbg cbg_0
  replace cbg_1 := cells_of hA zbg cbg_1
  replace zbg := Nat.lt_of_lt_of_le zbg hA.size
  replace MG := Lib.hid (MG.out.below hA)
  replace Oh := Lib.hid (Oh.out.below hA)
  replace HB := Lib.hid (below_step HB.out HB.out.size hA)
  clear hA
  have cbh_0 : (u13.alloc (.cells #[.slice ah RU.length cph, .slice eh RD.length cqh] 27)).cell? ⟨u13.heap.size, 0, none⟩ = some (.slice ah RU.length cph) := by go_simp
  have cbh_1 : (u13.alloc (.cells #[.slice ah RU.length cph, .slice eh RD.length cqh] 27)).cell? ⟨u13.heap.size, 1, none⟩ = some (.slice eh RD.length cqh) := by go_simp
  have zbh : u13.heap.size < (u13.alloc (.cells #[.slice ah RU.length cph, .slice eh RD.length cqh] 27)).heap.size := by simp
  have hsVh : u13.heap.size < (u13.alloc (.cells #[.slice ah RU.length cph, .slice eh RD.length cqh] 27)).heap.size := by simp
  generalize (u13.alloc (.cells #[.slice ah RU.length cph, .slice eh RD.length cqh] 27)) = Vh at *
  refine (eqCounter_same ah RU.length cph eh RD.length cqh aw cpw ew cqw RU RD _ rfl (by omega) rfl (by omega) Oh.out.ints Ow.out.ints).mono ?_
  rintro e u14 ⟨rfl, hb⟩
  have hsu14 : Vh.heap.size ≤ u14.heap.size := hb.size
  replace cb0_0 := cells_of hb zb0 cb0_0
  replace cb0_1 := cells_of hb zb0 cb0_1
  replace zb0 := Nat.lt_of_lt_of_le zb0 hb.size
  replace Ow := Lib.hid (Ow.out.below hb)
  replace cbw_0 := cells_of hb zbw cbw_0
  replace cbw_1 := cells_of hb zbw cbw_1
  replace zbw := Nat.lt_of_lt_of_le zbw hb.size
  replace cbg_0 := cells_of hb zbg cbg_0
  replace cbg_1 := cells_of hb zbg cbg_1
  replace zbg := Nat.lt_of_lt_of_le zbg hb.size
  replace MG := Lib.hid (MG.out.below hb)
  replace Oh := Lib.hid (Oh.out.below hb)
  replace cbh_0 := cells_of hb zbh cbh_0
  replace cbh_1 := cells_of hb zbh cbh_1
  replace zbh := Nat.lt_of_lt_of_le zbh hb.size
  replace HB := Lib.hid (below_step HB.out HB.out.size hb)
  clear hb
  go_wp2_with fail
  refine (HH.out _ MG.out).mono ?_
  rintro e u15 ⟨rfl, hb⟩
  have hsu15 : u14.heap.size ≤ u15.heap.size := hb.size
  replace cb0_0 := cells_of hb zb0 cb0_0
  replace cb0_1 := cells_of hb zb0 cb0_1
  replace zb0 := Nat.lt_of_lt_of_le zb0 hb.size
  replace Ow := Lib.hid (Ow.out.below hb)
  replace cbw_0 := cells_of hb zbw cbw_0
  replace cbw_1 := cells_of hb zbw cbw_1
  replace zbw := Nat.lt_of_lt_of_le zbw hb.size
  replace cbg_0 := cells_of hb zbg cbg_0
  replace cbg_1 := cells_of hb zbg cbg_1
  replace zbg := Nat.lt_of_lt_of_le zbg hb.size
  replace MG := Lib.hid (MG.out.below hb)
  replace Oh := Lib.hid (Oh.out.below hb)
  replace cbh_0 := cells_of hb zbh cbh_0
  replace cbh_1 := cells_of hb zbh cbh_1
  replace zbh := Nat.lt_of_lt_of_le zbh hb.size
  replace HB := Lib.hid (below_step HB.out HB.out.size hb)
  clear hb
  go_wp2
  go_ret
  exact ⟨rfl, HB.out⟩

theorem walk (a0 : Option Addr) (n0 cap0 : Nat) (b0 : Option Addr) (m0 cb0 : Nat) (us0 ds0 : List Int) (x1 : Int) (x2 : Int) (w : World) (hr0 : CntIn w a0 n0 b0 m0 us0 ds0) (_ : -9223372036854775808 ≤ x1 ∧ x1 ≤ 9223372036854775807) (_ : -9223372036854775808 ≤ x2 ∧ x2 ≤ 9223372036854775807) :
    Calls Try.prog 4 #[cntV a0 n0 cap0 b0 m0 cb0, .int .i64 x1, .int .i64 x2] w fun e w' => e = .returned (.bool true) ∧ Below w.heap.size w w' := by
  obtain ⟨⟨h10, h20, h30, -⟩, h40, h50, h60, -⟩ := hr0
  by_cases h : n0 + m0 ≤ 1048576
  · exact walk_small a0 n0 cap0 b0 m0 cb0 us0 ds0 x1 x2 w h10 h40 ⟨h30, h60⟩ h
  · exact walk_big0 a0 n0 cap0 b0 m0 cb0 x1 x2 w h20 h50 (by omega)

set_option maxRecDepth 100000 in
theorem lifted (os : Os) (started : os.Started) (H : Type) (enc : TypeId × Value → H) :
    ReturnsInHanded {} Try.checked os 4 .any (Rows.fnExactCounterAddSpec.pre6 enc Try.prog Try.f4 Rows.fnExactCounterAddRow.domain false) (Rows.fnExactCounterAddSpec.post enc Try.prog Try.f4 false true false false) := by
  refine returnsInHanded_of_change (C := Try.checked) own started (by kernel_rfl) Try.func4
    (ChangeSpec.witness6 (enc := enc) (C := Try.checked) false ⟨#[], #[.agg #[.slice none 0 0, .slice none 0 0], .int .i64 0, .int .i64 0], []⟩ 8 (by kernel_rfl) (by kernel_rfl) (by kernel_rfl) (by kernel_rfl)) ?_
  intro W base args ds gs before hval0 hW hcnd _
  have hval : ∀ (j : Nat) t v, Try.f4.params[j]? = some t → args[j]? = some v → Value.okWide Try.prog W .any base t v := hval0
  have hW' := hW
  obtain ⟨p, q, hA0, hV, rfl, hfz, hnd⟩ := hW
  have hA : DataW.TrodAll enc Try.prog W 0 (fun _ => true) true Try.f4.params.toList args.toList ds p := hA0
  rw [Try.params4] at hA hval
  obtain ⟨v0, v1, v2, d0, d1, d2, p0, p1, p2, rfl, rfl, rfl, h0, h1, h2⟩ := trodAll_three hA
  have k0 := h0
  have lt0 : ∀ x ∈ p0, x.block < W.heap.size := by obtain ⟨m, hm⟩ := k0; exact DataW.trod_lt m _ _ _ hm
  have k1 := h1
  have lt1 : ∀ x ∈ p1, x.block < W.heap.size := by obtain ⟨m, hm⟩ := k1; exact DataW.trod_lt m _ _ _ hm
  have k2 := h2
  have lt2 : ∀ x ∈ p2, x.block < W.heap.size := by obtain ⟨m, hm⟩ := k2; exact DataW.trod_lt m _ _ _ hm
  obtain ⟨rfl, rfl⟩ := trodVars_none hV
  obtain ⟨a0, len0, cap0, b0, m0, cb0, us0, ds0, hv0, hr0⟩ := open_counter (hval 0 24 v0 rfl rfl) h0
  subst hv0
  obtain ⟨a1, hv1, _, _, wf1⟩ := open_int Try.underlying3 (hval 1 3 v1 rfl rfl) h1
  subst hv1
  have wa1 : -9223372036854775808 ≤ a1 ∧ a1 ≤ 9223372036854775807 := by
    simp only [Lit.wf, Bool.and_eq_true, decide_eq_true_eq] at wf1
    exact wf1
  obtain ⟨a2, hv2, _, _, wf2⟩ := open_int Try.underlying3 (hval 2 3 v2 rfl rfl) h2
  subst hv2
  have wa2 : -9223372036854775808 ≤ a2 ∧ a2 ≤ 9223372036854775807 := by
    simp only [Lit.wf, Bool.and_eq_true, decide_eq_true_eq] at wf2
    exact wf2
  clear hA0 hval0
  refine (walk a0 len0 cap0 b0 m0 cb0 us0 ds0 a1 a2 W hr0 wa1 wa2).mono fun e W' ⟨he, bel⟩ => ?_
  subst he
  exact ⟨_, rfl, _, _, _, [], _, [], hW', trodAll_mk1 (shut_bool Try.underlying4 _), (trodAll_mk3 (Below.trod laidOut (by kernel_rfl) (of_decide_eq_true (by kernel_rfl)) k0 bel lt0) (Below.trod laidOut (by kernel_rfl) (of_decide_eq_true (by kernel_rfl)) k1 bel lt1) (Below.trod laidOut (by kernel_rfl) (of_decide_eq_true (by kernel_rfl)) k2 bel lt2)), rfl, bel.frame _, fun h => by cases h⟩

theorem over : Rows.fnExactCounterAddRow.holds Try.pinned (OpenSpec.ofChange Rows.fnExactCounterAddSpec) :=
  OpenClaim.holds_of_wide 4 Try.f4 rfl rfl rfl rfl rfl rfl rfl ⟨rfl, rfl, rfl, rfl, rfl⟩ rfl rfl rfl rfl rfl (by kernel_rfl) Try.func4 (by kernel_rfl)
    (of_decide_eq_true (by kernel_rfl)) (by unfold Func.isWrapper; rw [if_neg (by decide +kernel)]; exact ⟨rfl, rfl⟩)
    (fun os started H enc _ => lifted os started H enc)

end Go.Proofs.Ythlkdlknkbigkaa.lawCounterAdd
namespace Go.Proofs.Ythlkdlknkbigkaa
theorem fnExactCounterAdd_holds : Rows.FnExactCounterAddSaid := lawCounterAdd.over
#print axioms fnExactCounterAdd_holds
end Go.Proofs.Ythlkdlknkbigkaa
