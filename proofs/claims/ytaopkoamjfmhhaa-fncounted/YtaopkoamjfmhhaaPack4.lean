import Derived.Test.YtaopkoamjfmhhaaPack3
/- Counters: the program's CounterOk, CounterAdd, CounterJoin, CounterValue, CounterLeq. -/
namespace Go.Proofs.Ytaopkoamjfmhhaa
open Go.ChangeShapes Go.WideShapes Go.ChangeAt Go.RowKit Go.Joins
attribute [local go_sem ↓] Go.wp_at_zero Go.wp_at_succ

set_option maxRecDepth 100000 in
set_option maxHeartbeats 4000000 in
theorem tValue_any (x0 x1 x2 x3 y0 y1 y2 y3 : Int) (w : World) (hx0 : 0 ≤ x0 ∧ x0 ≤ 1000000000) (hx1 : 0 ≤ x1 ∧ x1 ≤ 1000000000) (hx2 : 0 ≤ x2 ∧ x2 ≤ 1000000000) (hx3 : 0 ≤ x3 ∧ x3 ≤ 1000000000) (hy0 : 0 ≤ y0 ∧ y0 ≤ 1000000000) (hy1 : 0 ≤ y1 ∧ y1 ≤ 1000000000) (hy2 : 0 ≤ y2 ∧ y2 ≤ 1000000000) (hy3 : 0 ≤ y3 ∧ y3 ≤ 1000000000) :
    Calls Try.prog 33 #[taV x0 x1 x2 x3 y0 y1 y2 y3] w fun e w' => e = .returned (.int .i64 (sum4 x0 x1 x2 x3 - sum4 y0 y1 y2 y3)) ∧ Below w.heap.size w w' := by
  have HX : Hid (∀ W, Calls Try.prog 39 #[tkV x0 x1 x2 x3] W fun e w' => e = .returned (.int .i64 (sum4 x0 x1 x2 x3)) ∧ Below W.heap.size W w') := fun W => pSum_any x0 x1 x2 x3 W hx0 hx1 hx2 hx3
  have HY : Hid (∀ W, Calls Try.prog 39 #[tkV y0 y1 y2 y3] W fun e w' => e = .returned (.int .i64 (sum4 y0 y1 y2 y3)) ∧ Below W.heap.size W w') := fun W => pSum_any y0 y1 y2 y3 W hy0 hy1 hy2 hy3
  have hsx : 0 ≤ sum4 x0 x1 x2 x3 ∧ sum4 x0 x1 x2 x3 ≤ 4000000000 := by unfold sum4; omega
  have hsy : 0 ≤ sum4 y0 y1 y2 y3 ∧ sum4 y0 y1 y2 y3 ≤ 4000000000 := by unfold sum4; omega
  clear hx0 hx1 hx2 hx3 hy0 hy1 hy2 hy3
  generalize sum4 x0 x1 x2 x3 = sx at *
  generalize sum4 y0 y1 y2 y3 = sy at *
  obtain ⟨q1, q2⟩ := hsx
  obtain ⟨q3, q4⟩ := hsy
  have HB : Hid (Below w.heap.size w (w.alloc (.cells #[.int .i64 x0, .int .i64 x1, .int .i64 x2, .int .i64 x3, .int .i64 y0, .int .i64 y1, .int .i64 y2, .int .i64 y3] 45))) := (Below.refl _ _).alloc (Nat.le_refl _) _
  have hz : w.heap.size < (w.alloc (.cells #[.int .i64 x0, .int .i64 x1, .int .i64 x2, .int .i64 x3, .int .i64 y0, .int .i64 y1, .int .i64 y2, .int .i64 y3] 45)).heap.size := by simp
  have c0 : (w.alloc (.cells #[.int .i64 x0, .int .i64 x1, .int .i64 x2, .int .i64 x3, .int .i64 y0, .int .i64 y1, .int .i64 y2, .int .i64 y3] 45)).cell? ⟨w.heap.size, 0, none⟩ = some (.int .i64 x0) := by go_simp
  have c1 : (w.alloc (.cells #[.int .i64 x0, .int .i64 x1, .int .i64 x2, .int .i64 x3, .int .i64 y0, .int .i64 y1, .int .i64 y2, .int .i64 y3] 45)).cell? ⟨w.heap.size, 1, none⟩ = some (.int .i64 x1) := by go_simp
  have c2 : (w.alloc (.cells #[.int .i64 x0, .int .i64 x1, .int .i64 x2, .int .i64 x3, .int .i64 y0, .int .i64 y1, .int .i64 y2, .int .i64 y3] 45)).cell? ⟨w.heap.size, 2, none⟩ = some (.int .i64 x2) := by go_simp
  have c3 : (w.alloc (.cells #[.int .i64 x0, .int .i64 x1, .int .i64 x2, .int .i64 x3, .int .i64 y0, .int .i64 y1, .int .i64 y2, .int .i64 y3] 45)).cell? ⟨w.heap.size, 3, none⟩ = some (.int .i64 x3) := by go_simp
  have c4 : (w.alloc (.cells #[.int .i64 x0, .int .i64 x1, .int .i64 x2, .int .i64 x3, .int .i64 y0, .int .i64 y1, .int .i64 y2, .int .i64 y3] 45)).cell? ⟨w.heap.size, 4, none⟩ = some (.int .i64 y0) := by go_simp
  have c5 : (w.alloc (.cells #[.int .i64 x0, .int .i64 x1, .int .i64 x2, .int .i64 x3, .int .i64 y0, .int .i64 y1, .int .i64 y2, .int .i64 y3] 45)).cell? ⟨w.heap.size, 5, none⟩ = some (.int .i64 y1) := by go_simp
  have c6 : (w.alloc (.cells #[.int .i64 x0, .int .i64 x1, .int .i64 x2, .int .i64 x3, .int .i64 y0, .int .i64 y1, .int .i64 y2, .int .i64 y3] 45)).cell? ⟨w.heap.size, 6, none⟩ = some (.int .i64 y2) := by go_simp
  have c7 : (w.alloc (.cells #[.int .i64 x0, .int .i64 x1, .int .i64 x2, .int .i64 x3, .int .i64 y0, .int .i64 y1, .int .i64 y2, .int .i64 y3] 45)).cell? ⟨w.heap.size, 7, none⟩ = some (.int .i64 y3) := by go_simp
  go_enter Try.func33, Try.ntmps33
  go_wp2_with fail
  generalize (w.alloc (.cells #[.int .i64 x0, .int .i64 x1, .int .i64 x2, .int .i64 x3, .int .i64 y0, .int .i64 y1, .int .i64 y2, .int .i64 y3] 45)) = W at *
  have hsub : IntKind.i64.wrap (sx - sy) = sx - sy := IntWalk.i64_in _ ⟨by omega, by omega⟩
  refine wp_region_slots 7 [[(1, false)], [(3, true)], [(4, true)], [(1, false)], [(6, true)], [(7, true)], [(5, true), (8, true)]] (fun w' => Below W.heap.size W w') (fun w w' => Below w.heap.size w w') (by kernel_rfl) (by kernel_rfl) (by rfl) (Below.refl _ _).drew (fun _ _ h hb => below_step h h.size hb) ?_
  apply slot_eq
  · intro ρ w' ⟨p1, p2, p3⟩ hS hn
    have d0 := cells_of hS hz c0
    have d1 := cells_of hS hz c1
    have d2 := cells_of hS hz c2
    have d3 := cells_of hS hz c3
    have d4 := cells_of hS hz c4
    have d5 := cells_of hS hz c5
    have d6 := cells_of hS hz c6
    have d7 := cells_of hS hz c7
    simp at hn
    go_simp
    exact ⟨Below.refl _ _, rfl⟩
  apply slot_eq
  · intro ρ w' ⟨p1, p2, p3⟩ hS hn
    have d0 := cells_of hS hz c0
    have d1 := cells_of hS hz c1
    have d2 := cells_of hS hz c2
    have d3 := cells_of hS hz c3
    have d4 := cells_of hS hz c4
    have d5 := cells_of hS hz c5
    have d6 := cells_of hS hz c6
    have d7 := cells_of hS hz c7
    simp at hn
    go_simp
    exact ⟨Below.refl _ _, rfl⟩
  apply slot_eq
  · intro ρ w' ⟨p1, p2, p3⟩ hS hn
    simp at hn
    go_simp
    exact got_call (HX.out w') fun e w'' ⟨he, hb⟩ => ⟨_, he, hb, rfl⟩
  apply slot_eq
  · intro ρ w' ⟨p1, p2, p3⟩ hS hn
    have d0 := cells_of hS hz c0
    have d1 := cells_of hS hz c1
    have d2 := cells_of hS hz c2
    have d3 := cells_of hS hz c3
    have d4 := cells_of hS hz c4
    have d5 := cells_of hS hz c5
    have d6 := cells_of hS hz c6
    have d7 := cells_of hS hz c7
    simp at hn
    go_simp
    exact ⟨Below.refl _ _, rfl⟩
  apply slot_eq
  · intro ρ w' ⟨p1, p2, p3⟩ hS hn
    have d0 := cells_of hS hz c0
    have d1 := cells_of hS hz c1
    have d2 := cells_of hS hz c2
    have d3 := cells_of hS hz c3
    have d4 := cells_of hS hz c4
    have d5 := cells_of hS hz c5
    have d6 := cells_of hS hz c6
    have d7 := cells_of hS hz c7
    simp at hn
    go_simp
    exact ⟨Below.refl _ _, rfl⟩
  apply slot_eq
  · intro ρ w' ⟨p1, p2, p3⟩ hS hn
    simp at hn
    go_simp
    exact got_call (HY.out w') fun e w'' ⟨he, hb⟩ => ⟨_, he, hb, rfl⟩
  apply slot_eq
  · intro ρ w' ⟨p1, p2, p3⟩ hS hn
    simp at hn
    go_simp
    exact ⟨Below.refl _ _, rfl⟩
  refine slot_end ?_
  rintro vs u hS hF
  simp at hF
  obtain ⟨e6, e5, e4, e3, e2, e1, e0⟩ := hF
  simp only [List.take_succ_cons, List.take_zero, List.drop_succ_cons, List.drop_zero, putAll, e0, e1, e2, e3, e4, e5, e6]
  clear e0 e1 e2 e3 e4 e5 e6
  simp only [Act.put, List.setIfInBounds_toArray, List.set_cons_succ, List.set_cons_zero]
  have HBU := Lib.hid (below_step HB.out HB.out.size hS)
  clear hS
  go_wp2
  go_ret
  exact ⟨rfl, HBU.out⟩

set_option maxRecDepth 100000 in
set_option maxHeartbeats 4000000 in
theorem tAdd_up (x0 x1 x2 x3 y0 y1 y2 y3 n : Int) (q : Nat) (hq : q < 4) (w : World) (hx0 : 0 ≤ x0 ∧ x0 ≤ 1000000000) (hx1 : 0 ≤ x1 ∧ x1 ≤ 1000000000) (hx2 : 0 ≤ x2 ∧ x2 ≤ 1000000000) (hx3 : 0 ≤ x3 ∧ x3 ≤ 1000000000) (h0 : 0 ≤ n) (h1 : n ≤ 1000000000) :
    Calls Try.prog 30 #[taV x0 x1 x2 x3 y0 y1 y2 y3, .int .i64 (q : Int), .int .i64 n] w fun e w' => e = .returned (taV (tkP x0 n 0 q) (tkP x1 n 1 q) (tkP x2 n 2 q) (tkP x3 n 3 q) y0 y1 y2 y3) ∧ Below w.heap.size w w' := by
  have hres : Try.f30.results = #[.cell 6 45] := by kernel_rfl
  have HP : Hid (∀ W, Calls Try.prog 38 #[tkV x0 x1 x2 x3, .int .i64 (q : Int), .int .i64 n] W fun e w' => e = .returned (tkV (tkP x0 n 0 q) (tkP x1 n 1 q) (tkP x2 n 2 q) (tkP x3 n 3 q)) ∧ Below W.heap.size W w') := fun W => tkPlus_any x0 x1 x2 x3 n q hq hx0 hx1 hx2 hx3 (by omega) W
  have HB0 : Hid (Below w.heap.size w ((w.alloc (.cells #[.int .i64 x0, .int .i64 x1, .int .i64 x2, .int .i64 x3, .int .i64 y0, .int .i64 y1, .int .i64 y2, .int .i64 y3] 45)).alloc (.cells #[.int .i64 0, .int .i64 0, .int .i64 0, .int .i64 0, .int .i64 0, .int .i64 0, .int .i64 0, .int .i64 0] 45))) := ((Below.refl _ _).alloc (Nat.le_refl _) _).alloc (by simp) _
  clear hx0 hx1 hx2 hx3
  generalize tkP x0 n 0 q = p0 at *
  generalize tkP x1 n 1 q = p1 at *
  generalize tkP x2 n 2 q = p2 at *
  generalize tkP x3 n 3 q = p3 at *
  go_enter Try.func30, Try.ntmps30
  go_wp2_with fail
  refine (HP.out _).mono ?_
  rintro e w1 ⟨rfl, hb⟩
  have HB1 := Lib.hid (below_step HB0.out HB0.out.size hb)
  obtain ⟨hc, hf⟩ := bcell hb
  have hz : w.heap.size + 1 < w1.heap.size := by have := hb.size; simp at this; omega
  have hz1 : w.heap.size < w1.heap.size := by omega
  clear hb
  have d0 : w1.cell? ⟨w.heap.size, 0, none⟩ = some (.int .i64 x0) := (hc _ _ (by simp <;> omega)).trans (by go_simp)
  have d1 : w1.cell? ⟨w.heap.size, 1, none⟩ = some (.int .i64 x1) := (hc _ _ (by simp <;> omega)).trans (by go_simp)
  have d2 : w1.cell? ⟨w.heap.size, 2, none⟩ = some (.int .i64 x2) := (hc _ _ (by simp <;> omega)).trans (by go_simp)
  have d3 : w1.cell? ⟨w.heap.size, 3, none⟩ = some (.int .i64 x3) := (hc _ _ (by simp <;> omega)).trans (by go_simp)
  have d4 : w1.cell? ⟨w.heap.size, 4, none⟩ = some (.int .i64 y0) := (hc _ _ (by simp <;> omega)).trans (by go_simp)
  have d5 : w1.cell? ⟨w.heap.size, 5, none⟩ = some (.int .i64 y1) := (hc _ _ (by simp <;> omega)).trans (by go_simp)
  have d6 : w1.cell? ⟨w.heap.size, 6, none⟩ = some (.int .i64 y2) := (hc _ _ (by simp <;> omega)).trans (by go_simp)
  have d7 : w1.cell? ⟨w.heap.size, 7, none⟩ = some (.int .i64 y3) := (hc _ _ (by simp <;> omega)).trans (by go_simp)
  have r0 : w1.cell? ⟨w.heap.size + 1, 0, none⟩ = some (.int .i64 0) := (hc _ _ (by simp <;> omega)).trans (by go_simp)
  have r1 : w1.cell? ⟨w.heap.size + 1, 1, none⟩ = some (.int .i64 0) := (hc _ _ (by simp <;> omega)).trans (by go_simp)
  have r2 : w1.cell? ⟨w.heap.size + 1, 2, none⟩ = some (.int .i64 0) := (hc _ _ (by simp <;> omega)).trans (by go_simp)
  have r3 : w1.cell? ⟨w.heap.size + 1, 3, none⟩ = some (.int .i64 0) := (hc _ _ (by simp <;> omega)).trans (by go_simp)
  have r4 : w1.cell? ⟨w.heap.size + 1, 4, none⟩ = some (.int .i64 0) := (hc _ _ (by simp <;> omega)).trans (by go_simp)
  have r5 : w1.cell? ⟨w.heap.size + 1, 5, none⟩ = some (.int .i64 0) := (hc _ _ (by simp <;> omega)).trans (by go_simp)
  have r6 : w1.cell? ⟨w.heap.size + 1, 6, none⟩ = some (.int .i64 0) := (hc _ _ (by simp <;> omega)).trans (by go_simp)
  have r7 : w1.cell? ⟨w.heap.size + 1, 7, none⟩ = some (.int .i64 0) := (hc _ _ (by simp <;> omega)).trans (by go_simp)
  have f0 : ∀ o, w1.frozen? ⟨w.heap.size, o, none⟩ = false := fun o => (hf _ _ (by simp <;> omega)).trans (by go_simp)
  have f1 : ∀ o, w1.frozen? ⟨w.heap.size + 1, o, none⟩ = false := fun o => (hf _ _ (by simp <;> omega)).trans (by go_simp)
  clear hc hf
  go_wp2
  refine bodyPost_ret (v := taV p0 p1 p2 p3 y0 y1 y2 y3) ?_ rfl ?_
  · simp only [results, hres]
    go_simp
  · exact ⟨rfl, low8 (low4 HB1.out (b := w.heap.size) (Nat.le_refl _) (.int .i64 p0) (.int .i64 p1) (.int .i64 p2) (.int .i64 p3)) (b := w.heap.size + 1) (Nat.le_add_right _ 1) (.int .i64 p0) (.int .i64 p1) (.int .i64 p2) (.int .i64 p3) (.int .i64 y0) (.int .i64 y1) (.int .i64 y2) (.int .i64 y3)⟩

set_option maxRecDepth 100000 in
set_option maxHeartbeats 4000000 in
theorem tAdd_down (x0 x1 x2 x3 y0 y1 y2 y3 n : Int) (q : Nat) (hq : q < 4) (w : World) (hy0 : 0 ≤ y0 ∧ y0 ≤ 1000000000) (hy1 : 0 ≤ y1 ∧ y1 ≤ 1000000000) (hy2 : 0 ≤ y2 ∧ y2 ≤ 1000000000) (hy3 : 0 ≤ y3 ∧ y3 ≤ 1000000000) (h0 : n < 0) (h1 : -1000000000 ≤ n) :
    Calls Try.prog 30 #[taV x0 x1 x2 x3 y0 y1 y2 y3, .int .i64 (q : Int), .int .i64 n] w fun e w' => e = .returned (taV x0 x1 x2 x3 (tkP y0 (-n) 0 q) (tkP y1 (-n) 1 q) (tkP y2 (-n) 2 q) (tkP y3 (-n) 3 q)) ∧ Below w.heap.size w w' := by
  have hres : Try.f30.results = #[.cell 6 45] := by kernel_rfl
  have HP : Hid (∀ W, Calls Try.prog 38 #[tkV y0 y1 y2 y3, .int .i64 (q : Int), .int .i64 (-n)] W fun e w' => e = .returned (tkV (tkP y0 (-n) 0 q) (tkP y1 (-n) 1 q) (tkP y2 (-n) 2 q) (tkP y3 (-n) 3 q)) ∧ Below W.heap.size W w') := fun W => tkPlus_any y0 y1 y2 y3 (-n) q hq hy0 hy1 hy2 hy3 (by omega) W
  have HB0 : Hid (Below w.heap.size w ((w.alloc (.cells #[.int .i64 x0, .int .i64 x1, .int .i64 x2, .int .i64 x3, .int .i64 y0, .int .i64 y1, .int .i64 y2, .int .i64 y3] 45)).alloc (.cells #[.int .i64 0, .int .i64 0, .int .i64 0, .int .i64 0, .int .i64 0, .int .i64 0, .int .i64 0, .int .i64 0] 45))) := ((Below.refl _ _).alloc (Nat.le_refl _) _).alloc (by simp) _
  clear hy0 hy1 hy2 hy3
  generalize tkP y0 (-n) 0 q = p0 at *
  generalize tkP y1 (-n) 1 q = p1 at *
  generalize tkP y2 (-n) 2 q = p2 at *
  generalize tkP y3 (-n) 3 q = p3 at *
  go_enter Try.func30, Try.ntmps30
  go_wp2_with fail
  refine (HP.out _).mono ?_
  rintro e w1 ⟨rfl, hb⟩
  have HB1 := Lib.hid (below_step HB0.out HB0.out.size hb)
  obtain ⟨hc, hf⟩ := bcell hb
  have hz : w.heap.size + 1 < w1.heap.size := by have := hb.size; simp at this; omega
  have hz1 : w.heap.size < w1.heap.size := by omega
  clear hb
  have d0 : w1.cell? ⟨w.heap.size, 0, none⟩ = some (.int .i64 x0) := (hc _ _ (by simp <;> omega)).trans (by go_simp)
  have d1 : w1.cell? ⟨w.heap.size, 1, none⟩ = some (.int .i64 x1) := (hc _ _ (by simp <;> omega)).trans (by go_simp)
  have d2 : w1.cell? ⟨w.heap.size, 2, none⟩ = some (.int .i64 x2) := (hc _ _ (by simp <;> omega)).trans (by go_simp)
  have d3 : w1.cell? ⟨w.heap.size, 3, none⟩ = some (.int .i64 x3) := (hc _ _ (by simp <;> omega)).trans (by go_simp)
  have d4 : w1.cell? ⟨w.heap.size, 4, none⟩ = some (.int .i64 y0) := (hc _ _ (by simp <;> omega)).trans (by go_simp)
  have d5 : w1.cell? ⟨w.heap.size, 5, none⟩ = some (.int .i64 y1) := (hc _ _ (by simp <;> omega)).trans (by go_simp)
  have d6 : w1.cell? ⟨w.heap.size, 6, none⟩ = some (.int .i64 y2) := (hc _ _ (by simp <;> omega)).trans (by go_simp)
  have d7 : w1.cell? ⟨w.heap.size, 7, none⟩ = some (.int .i64 y3) := (hc _ _ (by simp <;> omega)).trans (by go_simp)
  have r0 : w1.cell? ⟨w.heap.size + 1, 0, none⟩ = some (.int .i64 0) := (hc _ _ (by simp <;> omega)).trans (by go_simp)
  have r1 : w1.cell? ⟨w.heap.size + 1, 1, none⟩ = some (.int .i64 0) := (hc _ _ (by simp <;> omega)).trans (by go_simp)
  have r2 : w1.cell? ⟨w.heap.size + 1, 2, none⟩ = some (.int .i64 0) := (hc _ _ (by simp <;> omega)).trans (by go_simp)
  have r3 : w1.cell? ⟨w.heap.size + 1, 3, none⟩ = some (.int .i64 0) := (hc _ _ (by simp <;> omega)).trans (by go_simp)
  have r4 : w1.cell? ⟨w.heap.size + 1, 4, none⟩ = some (.int .i64 0) := (hc _ _ (by simp <;> omega)).trans (by go_simp)
  have r5 : w1.cell? ⟨w.heap.size + 1, 5, none⟩ = some (.int .i64 0) := (hc _ _ (by simp <;> omega)).trans (by go_simp)
  have r6 : w1.cell? ⟨w.heap.size + 1, 6, none⟩ = some (.int .i64 0) := (hc _ _ (by simp <;> omega)).trans (by go_simp)
  have r7 : w1.cell? ⟨w.heap.size + 1, 7, none⟩ = some (.int .i64 0) := (hc _ _ (by simp <;> omega)).trans (by go_simp)
  have f0 : ∀ o, w1.frozen? ⟨w.heap.size, o, none⟩ = false := fun o => (hf _ _ (by simp <;> omega)).trans (by go_simp)
  have f1 : ∀ o, w1.frozen? ⟨w.heap.size + 1, o, none⟩ = false := fun o => (hf _ _ (by simp <;> omega)).trans (by go_simp)
  clear hc hf
  go_wp2
  refine bodyPost_ret (v := taV x0 x1 x2 x3 p0 p1 p2 p3) ?_ rfl ?_
  · simp only [results, hres]
    go_simp
  · exact ⟨rfl, low8 ((((HB1.out.setCell (p := ⟨w.heap.size, 4, none⟩) (Nat.le_refl _) (.int .i64 p0)).setCell (p := ⟨w.heap.size, 5, none⟩) (Nat.le_refl _) (.int .i64 p1)).setCell (p := ⟨w.heap.size, 6, none⟩) (Nat.le_refl _) (.int .i64 p2)).setCell (p := ⟨w.heap.size, 7, none⟩) (Nat.le_refl _) (.int .i64 p3)) (b := w.heap.size + 1) (Nat.le_add_right _ 1) (.int .i64 x0) (.int .i64 x1) (.int .i64 x2) (.int .i64 x3) (.int .i64 p0) (.int .i64 p1) (.int .i64 p2) (.int .i64 p3)⟩

/-- Whatever comes beside 'false'. -/
theorem tallyOf_bad (a : Option Addr) (n cap : Nat) (b : Option Addr) (m cb : Nat) (us ds : List Int) (w : World) (hl : us.length = n) (hn : n ≤ maxLen) (hl' : ds.length = m) (hm : m ≤ maxLen) (hh : IsC w a b us ds) (hv : cntB us ds = false) :
    Calls Try.prog 21 #[cntV a n cap b m cb] w fun e w' => (∃ x0 x1 x2 x3 y0 y1 y2 y3, e = .returned (.tuple #[taV x0 x1 x2 x3 y0 y1 y2 y3, .bool false])) ∧ Below w.heap.size w w' :=
  (tallyOf_any a n cap b m cb us ds w hl hn hl' hm hh).mono fun _ _ ⟨⟨x0, x1, x2, x3, y0, y1, y2, y3, he, _⟩, hb⟩ => ⟨⟨x0, x1, x2, x3, y0, y1, y2, y3, by rw [he, hv]⟩, hb⟩

theorem tallyOf_good (a : Option Addr) (cap : Nat) (b : Option Addr) (cb : Nat) (x0 x1 x2 x3 y0 y1 y2 y3 : Int) (w : World) (hh : IsC w a b [x0, x1, x2, x3] [y0, y1, y2, y3]) (hv : cntB [x0, x1, x2, x3] [y0, y1, y2, y3] = true) :
    Calls Try.prog 21 #[cntV a 4 cap b 4 cb] w fun e w' => e = .returned (.tuple #[taV x0 x1 x2 x3 y0 y1 y2 y3, .bool true]) ∧ Below w.heap.size w w' :=
  (tallyOf_any a 4 cap b 4 cb _ _ w rfl (by unfold maxLen; omega) rfl (by unfold maxLen; omega) hh).mono fun _ _ ⟨⟨z0, z1, z2, z3, v0, v1, v2, v3, he, hz⟩, hb⟩ => by
    obtain ⟨h1, h2⟩ := hz hv
    simp only [List.cons.injEq, and_true] at h1 h2
    obtain ⟨rfl, rfl, rfl, rfl⟩ := h1
    obtain ⟨rfl, rfl, rfl, rfl⟩ := h2
    exact ⟨by rw [he, hv], hb⟩

set_option maxRecDepth 100000 in
theorem implCounterOk_any (a : Option Addr) (n cap : Nat) (b : Option Addr) (m cb : Nat) (us ds : List Int) (w : World) (hl : us.length = n) (hn : n ≤ maxLen) (hl' : ds.length = m) (hm : m ≤ maxLen) (hh : IsC w a b us ds) :
    Calls Try.prog 11 #[cntV a n cap b m cb] w fun e w' => e = .returned (.bool (cntB us ds)) ∧ Below w.heap.size w w' := by
  have HB : Hid (Below w.heap.size w (w.alloc (.cells #[.slice a n cap, .slice b m cb] 26))) := (Below.refl _ _).alloc (Nat.le_refl _) _
  have HC := Lib.hid (hh.below HB.out)
  have HL := Lib.hid hl
  have HL' := Lib.hid hl'
  clear hh hl hl'
  go_enter Try.func11, Try.ntmps11
  go_wp2_with fail
  refine (tallyOf_any a n cap b m cb us ds _ HL.out hn HL'.out hm HC.out).mono ?_
  rintro e w1 ⟨⟨x0, x1, x2, x3, y0, y1, y2, y3, rfl, -⟩, hb⟩
  have HB1 := Lib.hid (below_step HB.out HB.out.size hb)
  clear hb
  go_wp2
  go_ret
  exact ⟨rfl, HB1.out.alloc HB1.out.size _⟩

def valC (us ds : List Int) : Int := if cntB us ds then us.sum - ds.sum else 0

theorem valC_four {x0 x1 x2 x3 y0 y1 y2 y3 : Int} (h : cntB [x0, x1, x2, x3] [y0, y1, y2, y3] = true) : valC [x0, x1, x2, x3] [y0, y1, y2, y3] = sum4 x0 x1 x2 x3 - sum4 y0 y1 y2 y3 := by
  unfold valC
  rw [if_pos h]
  simp [sum4]
  omega

theorem valC_bad {us ds : List Int} (h : cntB us ds = false) : valC us ds = 0 := by
  unfold valC
  rw [h]
  rfl

set_option maxRecDepth 100000 in
set_option maxHeartbeats 4000000 in
theorem implCounterValue_any (a : Option Addr) (n cap : Nat) (b : Option Addr) (m cb : Nat) (us ds : List Int) (w : World) (hl : us.length = n) (hn : n ≤ maxLen) (hl' : ds.length = m) (hm : m ≤ maxLen) (hh : IsC w a b us ds) :
    Calls Try.prog 16 #[cntV a n cap b m cb] w fun e w' => e = .returned (.int .i64 (valC us ds)) ∧ Below w.heap.size w w' := by
  have HB : Hid (Below w.heap.size w (w.alloc (.cells #[.slice a n cap, .slice b m cb] 26))) := (Below.refl _ _).alloc (Nat.le_refl _) _
  have HC := Lib.hid (hh.below HB.out)
  have HL := Lib.hid hl
  have HL' := Lib.hid hl'
  clear hh hl hl'
  cases hv : cntB us ds
  · have HV := Lib.hid hv
    have HJ : Hid (valC us ds = 0) := valC_bad hv
    clear hv
    go_enter Try.func16, Try.ntmps16
    go_wp2_with fail
    refine (tallyOf_bad a n cap b m cb us ds _ HL.out hn HL'.out hm HC.out HV.out).mono ?_
    rintro e w1 ⟨⟨x0, x1, x2, x3, y0, y1, y2, y3, rfl⟩, hb⟩
    have HB1 := Lib.hid (below_step HB.out HB.out.size hb)
    clear hb
    go_wp2
    go_ret
    exact ⟨ret_int HJ.out.symm, HB1.out.alloc HB1.out.size _⟩
  · obtain ⟨x0, x1, x2, x3, y0, y1, y2, y3, rfl, rfl, ⟨hx0, hx1, hx2, hx3⟩, hy0, hy1, hy2, hy3⟩ := cntB_four hv
    have hn4 : n = 4 := HL.out.symm
    subst hn4
    have hm4 : m = 4 := HL'.out.symm
    subst hm4
    have HV := Lib.hid hv
    have HJ : Hid (valC [x0, x1, x2, x3] [y0, y1, y2, y3] = sum4 x0 x1 x2 x3 - sum4 y0 y1 y2 y3) := valC_four hv
    clear hv
    have HT : Hid (∀ W, Calls Try.prog 33 #[taV x0 x1 x2 x3 y0 y1 y2 y3] W fun e w' => e = .returned (.int .i64 (sum4 x0 x1 x2 x3 - sum4 y0 y1 y2 y3)) ∧ Below W.heap.size W w') := fun W => tValue_any x0 x1 x2 x3 y0 y1 y2 y3 W hx0 hx1 hx2 hx3 hy0 hy1 hy2 hy3
    clear hx0 hx1 hx2 hx3 hy0 hy1 hy2 hy3
    generalize sum4 x0 x1 x2 x3 - sum4 y0 y1 y2 y3 = s at *
    go_enter Try.func16, Try.ntmps16
    go_wp2_with fail
    refine (tallyOf_good a cap b cb x0 x1 x2 x3 y0 y1 y2 y3 _ HC.out HV.out).mono ?_
    rintro e w1 ⟨rfl, hb⟩
    have HB1 := Lib.hid (below_step HB.out HB.out.size hb)
    clear hb
    go_wp2_with fail
    refine (HT.out _).mono ?_
    rintro e w2 ⟨rfl, hb⟩
    have HB2 := Lib.hid (below_step (HB1.out.alloc HB1.out.size _) (HB1.out.alloc HB1.out.size _).size hb)
    clear hb
    go_wp2
    go_ret
    exact ⟨ret_int HJ.out.symm, HB2.out⟩

end Go.Proofs.Ytaopkoamjfmhhaa

/- Counters: the program's CounterJoin. -/
namespace Go.Proofs.Ytaopkoamjfmhhaa
open Go.ChangeShapes Go.WideShapes Go.ChangeAt Go.RowKit Go.Joins
attribute [local go_sem ↓] Go.wp_at_zero Go.wp_at_succ

def cjU (us ds us' ds' : List Int) : List Int := if cntB us ds && cntB us' ds' then List.zipWith max us us' else []

def cjD (us ds us' ds' : List Int) : List Int := if cntB us ds && cntB us' ds' then List.zipWith max ds ds' else []

theorem cj_bad {us ds us' ds' : List Int} (h : (cntB us ds && cntB us' ds') = false) : cjU us ds us' ds' = [] ∧ cjD us ds us' ds' = [] := by
  unfold cjU cjD
  rw [h]
  exact ⟨rfl, rfl⟩

theorem cj_good {us ds us' ds' : List Int} (h : cntB us ds = true) (h' : cntB us' ds' = true) : cjU us ds us' ds' = List.zipWith max us us' ∧ cjD us ds us' ds' = List.zipWith max ds ds' := by
  unfold cjU cjD
  rw [h, h']
  exact ⟨rfl, rfl⟩

theorem OwnC.aside {w : World} {lo hi : Nat} {a b : Option Addr} {us ds : List Int} {p : Addr} (h : OwnC w lo hi a b us ds) (hp : p.block < lo) (v : Value) : OwnC (w.setCell p v) lo hi a b us ds := by
  obtain ⟨l1, h1, l2, h2, k1, k2, k3, k4, k5, o1, o2⟩ := h
  exact ⟨l1, h1, l2, h2, k1, k2, k3, k4, k5, o1.aside (by omega) v, o2.aside (by omega) v⟩

set_option maxRecDepth 100000 in
set_option maxHeartbeats 4000000 in
theorem implCounterJoin_any (a : Option Addr) (n cap : Nat) (b : Option Addr) (m cb : Nat) (a' : Option Addr) (n' cap' : Nat) (b' : Option Addr) (m' cb' : Nat) (us ds us' ds' : List Int) (w : World) (hl : us.length = n) (hn : n ≤ maxLen) (hl' : ds.length = m) (hm : m ≤ maxLen) (hh : IsC w a b us ds) (gl : us'.length = n') (gn : n' ≤ maxLen) (gl' : ds'.length = m') (gm : m' ≤ maxLen) (gg : IsC w a' b' us' ds') :
    Calls Try.prog 7 #[cntV a n cap b m cb, cntV a' n' cap' b' m' cb'] w fun e w' => ∃ g cp g' cp', e = .returned (cntV g (cjU us ds us' ds').length cp g' (cjD us ds us' ds').length cp') ∧ OwnC w' w.heap.size w'.heap.size g g' (cjU us ds us' ds') (cjD us ds us' ds') ∧ Below w.heap.size w w' := by
  have hres : Try.f7.results = #[.cell 4 26] := by kernel_rfl
  have HC := Lib.hid hh
  have HL := Lib.hid hl
  have HL' := Lib.hid hl'
  have GC := Lib.hid gg
  have GL := Lib.hid gl
  have GL' := Lib.hid gl'
  clear hh hl hl' gg gl gl'
  cases hv : cntB us ds
  · have HV := Lib.hid hv
    have HJ := Lib.hid (cj_bad (us := us) (ds := ds) (us' := us') (ds' := ds') (by rw [hv]; rfl))
    clear hv
    go_enter Try.func7, Try.ntmps7
    go_wp2_with fail
    have HB : Hid (Below w.heap.size w (((w.alloc (.cells #[.slice a n cap, .slice b m cb] 26)).alloc (.cells #[.slice a' n' cap', .slice b' m' cb'] 26)).alloc (.cells #[.slice none 0 0, .slice none 0 0] 26))) := ((((Below.refl _ _).alloc (Nat.le_refl _) _).alloc (by simp) _).alloc (by simp <;> omega) _)
    have cb1_0 : (((w.alloc (.cells #[.slice a n cap, .slice b m cb] 26)).alloc (.cells #[.slice a' n' cap', .slice b' m' cb'] 26)).alloc (.cells #[.slice none 0 0, .slice none 0 0] 26)).cell? ⟨w.heap.size, 0, none⟩ = some (.slice a n cap) := by go_simp
    have cb1_1 : (((w.alloc (.cells #[.slice a n cap, .slice b m cb] 26)).alloc (.cells #[.slice a' n' cap', .slice b' m' cb'] 26)).alloc (.cells #[.slice none 0 0, .slice none 0 0] 26)).cell? ⟨w.heap.size, 1, none⟩ = some (.slice b m cb) := by go_simp
    have zb1 : w.heap.size < (((w.alloc (.cells #[.slice a n cap, .slice b m cb] 26)).alloc (.cells #[.slice a' n' cap', .slice b' m' cb'] 26)).alloc (.cells #[.slice none 0 0, .slice none 0 0] 26)).heap.size := by simp <;> omega
    have cb2_0 : (((w.alloc (.cells #[.slice a n cap, .slice b m cb] 26)).alloc (.cells #[.slice a' n' cap', .slice b' m' cb'] 26)).alloc (.cells #[.slice none 0 0, .slice none 0 0] 26)).cell? ⟨w.heap.size + 1, 0, none⟩ = some (.slice a' n' cap') := by go_simp
    have cb2_1 : (((w.alloc (.cells #[.slice a n cap, .slice b m cb] 26)).alloc (.cells #[.slice a' n' cap', .slice b' m' cb'] 26)).alloc (.cells #[.slice none 0 0, .slice none 0 0] 26)).cell? ⟨w.heap.size + 1, 1, none⟩ = some (.slice b' m' cb') := by go_simp
    have zb2 : w.heap.size + 1 < (((w.alloc (.cells #[.slice a n cap, .slice b m cb] 26)).alloc (.cells #[.slice a' n' cap', .slice b' m' cb'] 26)).alloc (.cells #[.slice none 0 0, .slice none 0 0] 26)).heap.size := by simp <;> omega
    have cr_0 : (((w.alloc (.cells #[.slice a n cap, .slice b m cb] 26)).alloc (.cells #[.slice a' n' cap', .slice b' m' cb'] 26)).alloc (.cells #[.slice none 0 0, .slice none 0 0] 26)).cell? ⟨w.heap.size + 1 + 1, 0, none⟩ = some (.slice none 0 0) := by go_simp
    have cr_1 : (((w.alloc (.cells #[.slice a n cap, .slice b m cb] 26)).alloc (.cells #[.slice a' n' cap', .slice b' m' cb'] 26)).alloc (.cells #[.slice none 0 0, .slice none 0 0] 26)).cell? ⟨w.heap.size + 1 + 1, 1, none⟩ = some (.slice none 0 0) := by go_simp
    have zr : w.heap.size + 1 + 1 < (((w.alloc (.cells #[.slice a n cap, .slice b m cb] 26)).alloc (.cells #[.slice a' n' cap', .slice b' m' cb'] 26)).alloc (.cells #[.slice none 0 0, .slice none 0 0] 26)).heap.size := by simp
    have fr : Hid (∀ o, (((w.alloc (.cells #[.slice a n cap, .slice b m cb] 26)).alloc (.cells #[.slice a' n' cap', .slice b' m' cb'] 26)).alloc (.cells #[.slice none 0 0, .slice none 0 0] 26)).frozen? ⟨w.heap.size + 1 + 1, o, none⟩ = false) := fun o => by go_simp
    have hsV0 : w.heap.size + 1 + 1 < (((w.alloc (.cells #[.slice a n cap, .slice b m cb] 26)).alloc (.cells #[.slice a' n' cap', .slice b' m' cb'] 26)).alloc (.cells #[.slice none 0 0, .slice none 0 0] 26)).heap.size := by simp
    generalize (((w.alloc (.cells #[.slice a n cap, .slice b m cb] 26)).alloc (.cells #[.slice a' n' cap', .slice b' m' cb'] 26)).alloc (.cells #[.slice none 0 0, .slice none 0 0] 26)) = V0 at *
    refine (tallyOf_bad a n cap b m cb us ds _ HL.out hn HL'.out hm (HC.out.below HB.out) HV.out).mono ?_
    rintro e w1 ⟨⟨p0, p1, p2, p3, p4, p5, p6, p7, rfl⟩, hb⟩
    have hsw1 : V0.heap.size ≤ w1.heap.size := hb.size
    replace cb1_0 := cells_of hb zb1 cb1_0
    replace cb1_1 := cells_of hb zb1 cb1_1
    replace zb1 := Nat.lt_of_lt_of_le zb1 hb.size
    replace cb2_0 := cells_of hb zb2 cb2_0
    replace cb2_1 := cells_of hb zb2 cb2_1
    replace zb2 := Nat.lt_of_lt_of_le zb2 hb.size
    replace fr := Lib.hid (fun o => (hb.frozen (p := ⟨w.heap.size + 1 + 1, o, none⟩) zr).trans (fr.out o))
    replace cr_0 := cells_of hb zr cr_0
    replace cr_1 := cells_of hb zr cr_1
    replace zr := Nat.lt_of_lt_of_le zr hb.size
    replace HB := Lib.hid (below_step HB.out HB.out.size hb)
    clear hb
    go_wp2_with fail
    have hA : Below w1.heap.size w1 (w1.alloc (.cells #[.int .i64 p0, .int .i64 p1, .int .i64 p2, .int .i64 p3, .int .i64 p4, .int .i64 p5, .int .i64 p6, .int .i64 p7] 45)) := (Below.refl _ _).alloc (Nat.le_refl _) _
    replace cb1_0 := cells_of hA zb1 cb1_0
    replace cb1_1 := cells_of hA zb1 cb1_1
    replace zb1 := Nat.lt_of_lt_of_le zb1 hA.size
    replace cb2_0 := cells_of hA zb2 cb2_0
    replace cb2_1 := cells_of hA zb2 cb2_1
    replace zb2 := Nat.lt_of_lt_of_le zb2 hA.size
    replace fr := Lib.hid (fun o => (hA.frozen (p := ⟨w.heap.size + 1 + 1, o, none⟩) zr).trans (fr.out o))
    replace cr_0 := cells_of hA zr cr_0
    replace cr_1 := cells_of hA zr cr_1
    replace zr := Nat.lt_of_lt_of_le zr hA.size
    replace HB := Lib.hid (below_step HB.out HB.out.size hA)
    clear hA
    have ct1_0 : (w1.alloc (.cells #[.int .i64 p0, .int .i64 p1, .int .i64 p2, .int .i64 p3, .int .i64 p4, .int .i64 p5, .int .i64 p6, .int .i64 p7] 45)).cell? ⟨w1.heap.size, 0, none⟩ = some (.int .i64 p0) := by go_simp
    have ct1_1 : (w1.alloc (.cells #[.int .i64 p0, .int .i64 p1, .int .i64 p2, .int .i64 p3, .int .i64 p4, .int .i64 p5, .int .i64 p6, .int .i64 p7] 45)).cell? ⟨w1.heap.size, 1, none⟩ = some (.int .i64 p1) := by go_simp
    have ct1_2 : (w1.alloc (.cells #[.int .i64 p0, .int .i64 p1, .int .i64 p2, .int .i64 p3, .int .i64 p4, .int .i64 p5, .int .i64 p6, .int .i64 p7] 45)).cell? ⟨w1.heap.size, 2, none⟩ = some (.int .i64 p2) := by go_simp
    have ct1_3 : (w1.alloc (.cells #[.int .i64 p0, .int .i64 p1, .int .i64 p2, .int .i64 p3, .int .i64 p4, .int .i64 p5, .int .i64 p6, .int .i64 p7] 45)).cell? ⟨w1.heap.size, 3, none⟩ = some (.int .i64 p3) := by go_simp
    have ct1_4 : (w1.alloc (.cells #[.int .i64 p0, .int .i64 p1, .int .i64 p2, .int .i64 p3, .int .i64 p4, .int .i64 p5, .int .i64 p6, .int .i64 p7] 45)).cell? ⟨w1.heap.size, 4, none⟩ = some (.int .i64 p4) := by go_simp
    have ct1_5 : (w1.alloc (.cells #[.int .i64 p0, .int .i64 p1, .int .i64 p2, .int .i64 p3, .int .i64 p4, .int .i64 p5, .int .i64 p6, .int .i64 p7] 45)).cell? ⟨w1.heap.size, 5, none⟩ = some (.int .i64 p5) := by go_simp
    have ct1_6 : (w1.alloc (.cells #[.int .i64 p0, .int .i64 p1, .int .i64 p2, .int .i64 p3, .int .i64 p4, .int .i64 p5, .int .i64 p6, .int .i64 p7] 45)).cell? ⟨w1.heap.size, 6, none⟩ = some (.int .i64 p6) := by go_simp
    have ct1_7 : (w1.alloc (.cells #[.int .i64 p0, .int .i64 p1, .int .i64 p2, .int .i64 p3, .int .i64 p4, .int .i64 p5, .int .i64 p6, .int .i64 p7] 45)).cell? ⟨w1.heap.size, 7, none⟩ = some (.int .i64 p7) := by go_simp
    have zt1 : w1.heap.size < (w1.alloc (.cells #[.int .i64 p0, .int .i64 p1, .int .i64 p2, .int .i64 p3, .int .i64 p4, .int .i64 p5, .int .i64 p6, .int .i64 p7] 45)).heap.size := by simp
    have hsV1 : w1.heap.size < (w1.alloc (.cells #[.int .i64 p0, .int .i64 p1, .int .i64 p2, .int .i64 p3, .int .i64 p4, .int .i64 p5, .int .i64 p6, .int .i64 p7] 45)).heap.size := by simp
    generalize (w1.alloc (.cells #[.int .i64 p0, .int .i64 p1, .int .i64 p2, .int .i64 p3, .int .i64 p4, .int .i64 p5, .int .i64 p6, .int .i64 p7] 45)) = V1 at *
    refine (tallyOf_any a' n' cap' b' m' cb' us' ds' _ GL.out gn GL'.out gm (GC.out.below HB.out)).mono ?_
    rintro e w2 ⟨⟨q0, q1, q2, q3, q4, q5, q6, q7, rfl, -⟩, hb⟩
    have hsw2 : V1.heap.size ≤ w2.heap.size := hb.size
    replace cb1_0 := cells_of hb zb1 cb1_0
    replace cb1_1 := cells_of hb zb1 cb1_1
    replace zb1 := Nat.lt_of_lt_of_le zb1 hb.size
    replace cb2_0 := cells_of hb zb2 cb2_0
    replace cb2_1 := cells_of hb zb2 cb2_1
    replace zb2 := Nat.lt_of_lt_of_le zb2 hb.size
    replace fr := Lib.hid (fun o => (hb.frozen (p := ⟨w.heap.size + 1 + 1, o, none⟩) zr).trans (fr.out o))
    replace cr_0 := cells_of hb zr cr_0
    replace cr_1 := cells_of hb zr cr_1
    replace zr := Nat.lt_of_lt_of_le zr hb.size
    replace ct1_0 := cells_of hb zt1 ct1_0
    replace ct1_1 := cells_of hb zt1 ct1_1
    replace ct1_2 := cells_of hb zt1 ct1_2
    replace ct1_3 := cells_of hb zt1 ct1_3
    replace ct1_4 := cells_of hb zt1 ct1_4
    replace ct1_5 := cells_of hb zt1 ct1_5
    replace ct1_6 := cells_of hb zt1 ct1_6
    replace ct1_7 := cells_of hb zt1 ct1_7
    replace zt1 := Nat.lt_of_lt_of_le zt1 hb.size
    replace HB := Lib.hid (below_step HB.out HB.out.size hb)
    clear hb
    have hrr := fr.out
    go_wp2
    refine bodyPost_ret (v := cntV none 0 0 none 0 0) ?_ rfl ?_
    · simp only [results, hres]
      go_simp
    · rw [HJ.out.1, HJ.out.2]
      refine ⟨none, 0, none, 0, rfl, OwnC.nil ?_, ?_⟩
      · simp
        omega
      · exact ((HB.out.setCell (p := ⟨w.heap.size + 1 + 1, 0, none⟩) (Nat.le_add_right _ 2) _).setCell (p := ⟨w.heap.size + 1 + 1, 1, none⟩) (Nat.le_add_right _ 2) _).alloc (by simpa using HB.out.size) _
  · cases gv : cntB us' ds'
    · have GV := Lib.hid gv
      have HJ := Lib.hid (cj_bad (us := us) (ds := ds) (us' := us') (ds' := ds') (by rw [gv, Bool.and_false]))
      obtain ⟨x0, x1, x2, x3, y0, y1, y2, y3, rfl, rfl, -⟩ := cntB_four hv
      have hn4 : n = 4 := HL.out.symm
      subst hn4
      have hm4 : m = 4 := HL'.out.symm
      subst hm4
      have HV := Lib.hid hv
      clear hv gv
      go_enter Try.func7, Try.ntmps7
      go_wp2_with fail
      have HB : Hid (Below w.heap.size w (((w.alloc (.cells #[.slice a 4 cap, .slice b 4 cb] 26)).alloc (.cells #[.slice a' n' cap', .slice b' m' cb'] 26)).alloc (.cells #[.slice none 0 0, .slice none 0 0] 26))) := ((((Below.refl _ _).alloc (Nat.le_refl _) _).alloc (by simp) _).alloc (by simp <;> omega) _)
      have cb1_0 : (((w.alloc (.cells #[.slice a 4 cap, .slice b 4 cb] 26)).alloc (.cells #[.slice a' n' cap', .slice b' m' cb'] 26)).alloc (.cells #[.slice none 0 0, .slice none 0 0] 26)).cell? ⟨w.heap.size, 0, none⟩ = some (.slice a 4 cap) := by go_simp
      have cb1_1 : (((w.alloc (.cells #[.slice a 4 cap, .slice b 4 cb] 26)).alloc (.cells #[.slice a' n' cap', .slice b' m' cb'] 26)).alloc (.cells #[.slice none 0 0, .slice none 0 0] 26)).cell? ⟨w.heap.size, 1, none⟩ = some (.slice b 4 cb) := by go_simp
      have zb1 : w.heap.size < (((w.alloc (.cells #[.slice a 4 cap, .slice b 4 cb] 26)).alloc (.cells #[.slice a' n' cap', .slice b' m' cb'] 26)).alloc (.cells #[.slice none 0 0, .slice none 0 0] 26)).heap.size := by simp <;> omega
      have cb2_0 : (((w.alloc (.cells #[.slice a 4 cap, .slice b 4 cb] 26)).alloc (.cells #[.slice a' n' cap', .slice b' m' cb'] 26)).alloc (.cells #[.slice none 0 0, .slice none 0 0] 26)).cell? ⟨w.heap.size + 1, 0, none⟩ = some (.slice a' n' cap') := by go_simp
      have cb2_1 : (((w.alloc (.cells #[.slice a 4 cap, .slice b 4 cb] 26)).alloc (.cells #[.slice a' n' cap', .slice b' m' cb'] 26)).alloc (.cells #[.slice none 0 0, .slice none 0 0] 26)).cell? ⟨w.heap.size + 1, 1, none⟩ = some (.slice b' m' cb') := by go_simp
      have zb2 : w.heap.size + 1 < (((w.alloc (.cells #[.slice a 4 cap, .slice b 4 cb] 26)).alloc (.cells #[.slice a' n' cap', .slice b' m' cb'] 26)).alloc (.cells #[.slice none 0 0, .slice none 0 0] 26)).heap.size := by simp <;> omega
      have cr_0 : (((w.alloc (.cells #[.slice a 4 cap, .slice b 4 cb] 26)).alloc (.cells #[.slice a' n' cap', .slice b' m' cb'] 26)).alloc (.cells #[.slice none 0 0, .slice none 0 0] 26)).cell? ⟨w.heap.size + 1 + 1, 0, none⟩ = some (.slice none 0 0) := by go_simp
      have cr_1 : (((w.alloc (.cells #[.slice a 4 cap, .slice b 4 cb] 26)).alloc (.cells #[.slice a' n' cap', .slice b' m' cb'] 26)).alloc (.cells #[.slice none 0 0, .slice none 0 0] 26)).cell? ⟨w.heap.size + 1 + 1, 1, none⟩ = some (.slice none 0 0) := by go_simp
      have zr : w.heap.size + 1 + 1 < (((w.alloc (.cells #[.slice a 4 cap, .slice b 4 cb] 26)).alloc (.cells #[.slice a' n' cap', .slice b' m' cb'] 26)).alloc (.cells #[.slice none 0 0, .slice none 0 0] 26)).heap.size := by simp
      have fr : Hid (∀ o, (((w.alloc (.cells #[.slice a 4 cap, .slice b 4 cb] 26)).alloc (.cells #[.slice a' n' cap', .slice b' m' cb'] 26)).alloc (.cells #[.slice none 0 0, .slice none 0 0] 26)).frozen? ⟨w.heap.size + 1 + 1, o, none⟩ = false) := fun o => by go_simp
      have hsV0 : w.heap.size + 1 + 1 < (((w.alloc (.cells #[.slice a 4 cap, .slice b 4 cb] 26)).alloc (.cells #[.slice a' n' cap', .slice b' m' cb'] 26)).alloc (.cells #[.slice none 0 0, .slice none 0 0] 26)).heap.size := by simp
      generalize (((w.alloc (.cells #[.slice a 4 cap, .slice b 4 cb] 26)).alloc (.cells #[.slice a' n' cap', .slice b' m' cb'] 26)).alloc (.cells #[.slice none 0 0, .slice none 0 0] 26)) = V0 at *
      refine (tallyOf_good a cap b cb x0 x1 x2 x3 y0 y1 y2 y3 _ (HC.out.below HB.out) HV.out).mono ?_
      rintro e w1 ⟨rfl, hb⟩
      have hsw1 : V0.heap.size ≤ w1.heap.size := hb.size
      replace cb1_0 := cells_of hb zb1 cb1_0
      replace cb1_1 := cells_of hb zb1 cb1_1
      replace zb1 := Nat.lt_of_lt_of_le zb1 hb.size
      replace cb2_0 := cells_of hb zb2 cb2_0
      replace cb2_1 := cells_of hb zb2 cb2_1
      replace zb2 := Nat.lt_of_lt_of_le zb2 hb.size
      replace fr := Lib.hid (fun o => (hb.frozen (p := ⟨w.heap.size + 1 + 1, o, none⟩) zr).trans (fr.out o))
      replace cr_0 := cells_of hb zr cr_0
      replace cr_1 := cells_of hb zr cr_1
      replace zr := Nat.lt_of_lt_of_le zr hb.size
      replace HB := Lib.hid (below_step HB.out HB.out.size hb)
      clear hb
      go_wp2_with fail
      have hA : Below w1.heap.size w1 (w1.alloc (.cells #[.int .i64 x0, .int .i64 x1, .int .i64 x2, .int .i64 x3, .int .i64 y0, .int .i64 y1, .int .i64 y2, .int .i64 y3] 45)) := (Below.refl _ _).alloc (Nat.le_refl _) _
      replace cb1_0 := cells_of hA zb1 cb1_0
      replace cb1_1 := cells_of hA zb1 cb1_1
      replace zb1 := Nat.lt_of_lt_of_le zb1 hA.size
      replace cb2_0 := cells_of hA zb2 cb2_0
      replace cb2_1 := cells_of hA zb2 cb2_1
      replace zb2 := Nat.lt_of_lt_of_le zb2 hA.size
      replace fr := Lib.hid (fun o => (hA.frozen (p := ⟨w.heap.size + 1 + 1, o, none⟩) zr).trans (fr.out o))
      replace cr_0 := cells_of hA zr cr_0
      replace cr_1 := cells_of hA zr cr_1
      replace zr := Nat.lt_of_lt_of_le zr hA.size
      replace HB := Lib.hid (below_step HB.out HB.out.size hA)
      clear hA
      have ct1_0 : (w1.alloc (.cells #[.int .i64 x0, .int .i64 x1, .int .i64 x2, .int .i64 x3, .int .i64 y0, .int .i64 y1, .int .i64 y2, .int .i64 y3] 45)).cell? ⟨w1.heap.size, 0, none⟩ = some (.int .i64 x0) := by go_simp
      have ct1_1 : (w1.alloc (.cells #[.int .i64 x0, .int .i64 x1, .int .i64 x2, .int .i64 x3, .int .i64 y0, .int .i64 y1, .int .i64 y2, .int .i64 y3] 45)).cell? ⟨w1.heap.size, 1, none⟩ = some (.int .i64 x1) := by go_simp
      have ct1_2 : (w1.alloc (.cells #[.int .i64 x0, .int .i64 x1, .int .i64 x2, .int .i64 x3, .int .i64 y0, .int .i64 y1, .int .i64 y2, .int .i64 y3] 45)).cell? ⟨w1.heap.size, 2, none⟩ = some (.int .i64 x2) := by go_simp
      have ct1_3 : (w1.alloc (.cells #[.int .i64 x0, .int .i64 x1, .int .i64 x2, .int .i64 x3, .int .i64 y0, .int .i64 y1, .int .i64 y2, .int .i64 y3] 45)).cell? ⟨w1.heap.size, 3, none⟩ = some (.int .i64 x3) := by go_simp
      have ct1_4 : (w1.alloc (.cells #[.int .i64 x0, .int .i64 x1, .int .i64 x2, .int .i64 x3, .int .i64 y0, .int .i64 y1, .int .i64 y2, .int .i64 y3] 45)).cell? ⟨w1.heap.size, 4, none⟩ = some (.int .i64 y0) := by go_simp
      have ct1_5 : (w1.alloc (.cells #[.int .i64 x0, .int .i64 x1, .int .i64 x2, .int .i64 x3, .int .i64 y0, .int .i64 y1, .int .i64 y2, .int .i64 y3] 45)).cell? ⟨w1.heap.size, 5, none⟩ = some (.int .i64 y1) := by go_simp
      have ct1_6 : (w1.alloc (.cells #[.int .i64 x0, .int .i64 x1, .int .i64 x2, .int .i64 x3, .int .i64 y0, .int .i64 y1, .int .i64 y2, .int .i64 y3] 45)).cell? ⟨w1.heap.size, 6, none⟩ = some (.int .i64 y2) := by go_simp
      have ct1_7 : (w1.alloc (.cells #[.int .i64 x0, .int .i64 x1, .int .i64 x2, .int .i64 x3, .int .i64 y0, .int .i64 y1, .int .i64 y2, .int .i64 y3] 45)).cell? ⟨w1.heap.size, 7, none⟩ = some (.int .i64 y3) := by go_simp
      have zt1 : w1.heap.size < (w1.alloc (.cells #[.int .i64 x0, .int .i64 x1, .int .i64 x2, .int .i64 x3, .int .i64 y0, .int .i64 y1, .int .i64 y2, .int .i64 y3] 45)).heap.size := by simp
      have hsV1 : w1.heap.size < (w1.alloc (.cells #[.int .i64 x0, .int .i64 x1, .int .i64 x2, .int .i64 x3, .int .i64 y0, .int .i64 y1, .int .i64 y2, .int .i64 y3] 45)).heap.size := by simp
      generalize (w1.alloc (.cells #[.int .i64 x0, .int .i64 x1, .int .i64 x2, .int .i64 x3, .int .i64 y0, .int .i64 y1, .int .i64 y2, .int .i64 y3] 45)) = V1 at *
      refine (tallyOf_bad a' n' cap' b' m' cb' us' ds' _ GL.out gn GL'.out gm (GC.out.below HB.out) GV.out).mono ?_
      rintro e w2 ⟨⟨q0, q1, q2, q3, q4, q5, q6, q7, rfl⟩, hb⟩
      have hsw2 : V1.heap.size ≤ w2.heap.size := hb.size
      replace cb1_0 := cells_of hb zb1 cb1_0
      replace cb1_1 := cells_of hb zb1 cb1_1
      replace zb1 := Nat.lt_of_lt_of_le zb1 hb.size
      replace cb2_0 := cells_of hb zb2 cb2_0
      replace cb2_1 := cells_of hb zb2 cb2_1
      replace zb2 := Nat.lt_of_lt_of_le zb2 hb.size
      replace fr := Lib.hid (fun o => (hb.frozen (p := ⟨w.heap.size + 1 + 1, o, none⟩) zr).trans (fr.out o))
      replace cr_0 := cells_of hb zr cr_0
      replace cr_1 := cells_of hb zr cr_1
      replace zr := Nat.lt_of_lt_of_le zr hb.size
      replace ct1_0 := cells_of hb zt1 ct1_0
      replace ct1_1 := cells_of hb zt1 ct1_1
      replace ct1_2 := cells_of hb zt1 ct1_2
      replace ct1_3 := cells_of hb zt1 ct1_3
      replace ct1_4 := cells_of hb zt1 ct1_4
      replace ct1_5 := cells_of hb zt1 ct1_5
      replace ct1_6 := cells_of hb zt1 ct1_6
      replace ct1_7 := cells_of hb zt1 ct1_7
      replace zt1 := Nat.lt_of_lt_of_le zt1 hb.size
      replace HB := Lib.hid (below_step HB.out HB.out.size hb)
      clear hb
      have hrr := fr.out
      go_wp2
      refine bodyPost_ret (v := cntV none 0 0 none 0 0) ?_ rfl ?_
      · simp only [results, hres]
        go_simp
      · rw [HJ.out.1, HJ.out.2]
        refine ⟨none, 0, none, 0, rfl, OwnC.nil ?_, ?_⟩
        · simp
          omega
        · exact ((HB.out.setCell (p := ⟨w.heap.size + 1 + 1, 0, none⟩) (Nat.le_add_right _ 2) _).setCell (p := ⟨w.heap.size + 1 + 1, 1, none⟩) (Nat.le_add_right _ 2) _).alloc (by simpa using HB.out.size) _
    · have HJ := Lib.hid (cj_good hv gv)
      obtain ⟨x0, x1, x2, x3, y0, y1, y2, y3, rfl, rfl, -⟩ := cntB_four hv
      have hn4 : n = 4 := HL.out.symm
      subst hn4
      have hm4 : m = 4 := HL'.out.symm
      subst hm4
      obtain ⟨z0, z1, z2, z3, v0, v1, v2, v3, rfl, rfl, -⟩ := cntB_four gv
      have gn4 : n' = 4 := GL.out.symm
      subst gn4
      have gm4 : m' = 4 := GL'.out.symm
      subst gm4
      have HV := Lib.hid hv
      have GV := Lib.hid gv
      clear hv gv
      simp only [List.zipWith_cons_cons, List.zipWith_nil_left] at HJ
      go_enter Try.func7, Try.ntmps7
      go_wp2_with fail
      have HB : Hid (Below w.heap.size w (((w.alloc (.cells #[.slice a 4 cap, .slice b 4 cb] 26)).alloc (.cells #[.slice a' 4 cap', .slice b' 4 cb'] 26)).alloc (.cells #[.slice none 0 0, .slice none 0 0] 26))) := ((((Below.refl _ _).alloc (Nat.le_refl _) _).alloc (by simp) _).alloc (by simp <;> omega) _)
      have cb1_0 : (((w.alloc (.cells #[.slice a 4 cap, .slice b 4 cb] 26)).alloc (.cells #[.slice a' 4 cap', .slice b' 4 cb'] 26)).alloc (.cells #[.slice none 0 0, .slice none 0 0] 26)).cell? ⟨w.heap.size, 0, none⟩ = some (.slice a 4 cap) := by go_simp
      have cb1_1 : (((w.alloc (.cells #[.slice a 4 cap, .slice b 4 cb] 26)).alloc (.cells #[.slice a' 4 cap', .slice b' 4 cb'] 26)).alloc (.cells #[.slice none 0 0, .slice none 0 0] 26)).cell? ⟨w.heap.size, 1, none⟩ = some (.slice b 4 cb) := by go_simp
      have zb1 : w.heap.size < (((w.alloc (.cells #[.slice a 4 cap, .slice b 4 cb] 26)).alloc (.cells #[.slice a' 4 cap', .slice b' 4 cb'] 26)).alloc (.cells #[.slice none 0 0, .slice none 0 0] 26)).heap.size := by simp <;> omega
      have cb2_0 : (((w.alloc (.cells #[.slice a 4 cap, .slice b 4 cb] 26)).alloc (.cells #[.slice a' 4 cap', .slice b' 4 cb'] 26)).alloc (.cells #[.slice none 0 0, .slice none 0 0] 26)).cell? ⟨w.heap.size + 1, 0, none⟩ = some (.slice a' 4 cap') := by go_simp
      have cb2_1 : (((w.alloc (.cells #[.slice a 4 cap, .slice b 4 cb] 26)).alloc (.cells #[.slice a' 4 cap', .slice b' 4 cb'] 26)).alloc (.cells #[.slice none 0 0, .slice none 0 0] 26)).cell? ⟨w.heap.size + 1, 1, none⟩ = some (.slice b' 4 cb') := by go_simp
      have zb2 : w.heap.size + 1 < (((w.alloc (.cells #[.slice a 4 cap, .slice b 4 cb] 26)).alloc (.cells #[.slice a' 4 cap', .slice b' 4 cb'] 26)).alloc (.cells #[.slice none 0 0, .slice none 0 0] 26)).heap.size := by simp <;> omega
      have cr_0 : (((w.alloc (.cells #[.slice a 4 cap, .slice b 4 cb] 26)).alloc (.cells #[.slice a' 4 cap', .slice b' 4 cb'] 26)).alloc (.cells #[.slice none 0 0, .slice none 0 0] 26)).cell? ⟨w.heap.size + 1 + 1, 0, none⟩ = some (.slice none 0 0) := by go_simp
      have cr_1 : (((w.alloc (.cells #[.slice a 4 cap, .slice b 4 cb] 26)).alloc (.cells #[.slice a' 4 cap', .slice b' 4 cb'] 26)).alloc (.cells #[.slice none 0 0, .slice none 0 0] 26)).cell? ⟨w.heap.size + 1 + 1, 1, none⟩ = some (.slice none 0 0) := by go_simp
      have zr : w.heap.size + 1 + 1 < (((w.alloc (.cells #[.slice a 4 cap, .slice b 4 cb] 26)).alloc (.cells #[.slice a' 4 cap', .slice b' 4 cb'] 26)).alloc (.cells #[.slice none 0 0, .slice none 0 0] 26)).heap.size := by simp
      have fr : Hid (∀ o, (((w.alloc (.cells #[.slice a 4 cap, .slice b 4 cb] 26)).alloc (.cells #[.slice a' 4 cap', .slice b' 4 cb'] 26)).alloc (.cells #[.slice none 0 0, .slice none 0 0] 26)).frozen? ⟨w.heap.size + 1 + 1, o, none⟩ = false) := fun o => by go_simp
      have hsV0 : w.heap.size + 1 + 1 < (((w.alloc (.cells #[.slice a 4 cap, .slice b 4 cb] 26)).alloc (.cells #[.slice a' 4 cap', .slice b' 4 cb'] 26)).alloc (.cells #[.slice none 0 0, .slice none 0 0] 26)).heap.size := by simp
      generalize (((w.alloc (.cells #[.slice a 4 cap, .slice b 4 cb] 26)).alloc (.cells #[.slice a' 4 cap', .slice b' 4 cb'] 26)).alloc (.cells #[.slice none 0 0, .slice none 0 0] 26)) = V0 at *
      refine (tallyOf_good a cap b cb x0 x1 x2 x3 y0 y1 y2 y3 _ (HC.out.below HB.out) HV.out).mono ?_
      rintro e w1 ⟨rfl, hb⟩
      have hsw1 : V0.heap.size ≤ w1.heap.size := hb.size
      replace cb1_0 := cells_of hb zb1 cb1_0
      replace cb1_1 := cells_of hb zb1 cb1_1
      replace zb1 := Nat.lt_of_lt_of_le zb1 hb.size
      replace cb2_0 := cells_of hb zb2 cb2_0
      replace cb2_1 := cells_of hb zb2 cb2_1
      replace zb2 := Nat.lt_of_lt_of_le zb2 hb.size
      replace fr := Lib.hid (fun o => (hb.frozen (p := ⟨w.heap.size + 1 + 1, o, none⟩) zr).trans (fr.out o))
      replace cr_0 := cells_of hb zr cr_0
      replace cr_1 := cells_of hb zr cr_1
      replace zr := Nat.lt_of_lt_of_le zr hb.size
      replace HB := Lib.hid (below_step HB.out HB.out.size hb)
      clear hb
      go_wp2_with fail
      have hA : Below w1.heap.size w1 (w1.alloc (.cells #[.int .i64 x0, .int .i64 x1, .int .i64 x2, .int .i64 x3, .int .i64 y0, .int .i64 y1, .int .i64 y2, .int .i64 y3] 45)) := (Below.refl _ _).alloc (Nat.le_refl _) _
      replace cb1_0 := cells_of hA zb1 cb1_0
      replace cb1_1 := cells_of hA zb1 cb1_1
      replace zb1 := Nat.lt_of_lt_of_le zb1 hA.size
      replace cb2_0 := cells_of hA zb2 cb2_0
      replace cb2_1 := cells_of hA zb2 cb2_1
      replace zb2 := Nat.lt_of_lt_of_le zb2 hA.size
      replace fr := Lib.hid (fun o => (hA.frozen (p := ⟨w.heap.size + 1 + 1, o, none⟩) zr).trans (fr.out o))
      replace cr_0 := cells_of hA zr cr_0
      replace cr_1 := cells_of hA zr cr_1
      replace zr := Nat.lt_of_lt_of_le zr hA.size
      replace HB := Lib.hid (below_step HB.out HB.out.size hA)
      clear hA
      have ct1_0 : (w1.alloc (.cells #[.int .i64 x0, .int .i64 x1, .int .i64 x2, .int .i64 x3, .int .i64 y0, .int .i64 y1, .int .i64 y2, .int .i64 y3] 45)).cell? ⟨w1.heap.size, 0, none⟩ = some (.int .i64 x0) := by go_simp
      have ct1_1 : (w1.alloc (.cells #[.int .i64 x0, .int .i64 x1, .int .i64 x2, .int .i64 x3, .int .i64 y0, .int .i64 y1, .int .i64 y2, .int .i64 y3] 45)).cell? ⟨w1.heap.size, 1, none⟩ = some (.int .i64 x1) := by go_simp
      have ct1_2 : (w1.alloc (.cells #[.int .i64 x0, .int .i64 x1, .int .i64 x2, .int .i64 x3, .int .i64 y0, .int .i64 y1, .int .i64 y2, .int .i64 y3] 45)).cell? ⟨w1.heap.size, 2, none⟩ = some (.int .i64 x2) := by go_simp
      have ct1_3 : (w1.alloc (.cells #[.int .i64 x0, .int .i64 x1, .int .i64 x2, .int .i64 x3, .int .i64 y0, .int .i64 y1, .int .i64 y2, .int .i64 y3] 45)).cell? ⟨w1.heap.size, 3, none⟩ = some (.int .i64 x3) := by go_simp
      have ct1_4 : (w1.alloc (.cells #[.int .i64 x0, .int .i64 x1, .int .i64 x2, .int .i64 x3, .int .i64 y0, .int .i64 y1, .int .i64 y2, .int .i64 y3] 45)).cell? ⟨w1.heap.size, 4, none⟩ = some (.int .i64 y0) := by go_simp
      have ct1_5 : (w1.alloc (.cells #[.int .i64 x0, .int .i64 x1, .int .i64 x2, .int .i64 x3, .int .i64 y0, .int .i64 y1, .int .i64 y2, .int .i64 y3] 45)).cell? ⟨w1.heap.size, 5, none⟩ = some (.int .i64 y1) := by go_simp
      have ct1_6 : (w1.alloc (.cells #[.int .i64 x0, .int .i64 x1, .int .i64 x2, .int .i64 x3, .int .i64 y0, .int .i64 y1, .int .i64 y2, .int .i64 y3] 45)).cell? ⟨w1.heap.size, 6, none⟩ = some (.int .i64 y2) := by go_simp
      have ct1_7 : (w1.alloc (.cells #[.int .i64 x0, .int .i64 x1, .int .i64 x2, .int .i64 x3, .int .i64 y0, .int .i64 y1, .int .i64 y2, .int .i64 y3] 45)).cell? ⟨w1.heap.size, 7, none⟩ = some (.int .i64 y3) := by go_simp
      have zt1 : w1.heap.size < (w1.alloc (.cells #[.int .i64 x0, .int .i64 x1, .int .i64 x2, .int .i64 x3, .int .i64 y0, .int .i64 y1, .int .i64 y2, .int .i64 y3] 45)).heap.size := by simp
      have hsV1 : w1.heap.size < (w1.alloc (.cells #[.int .i64 x0, .int .i64 x1, .int .i64 x2, .int .i64 x3, .int .i64 y0, .int .i64 y1, .int .i64 y2, .int .i64 y3] 45)).heap.size := by simp
      generalize (w1.alloc (.cells #[.int .i64 x0, .int .i64 x1, .int .i64 x2, .int .i64 x3, .int .i64 y0, .int .i64 y1, .int .i64 y2, .int .i64 y3] 45)) = V1 at *
      refine (tallyOf_good a' cap' b' cb' z0 z1 z2 z3 v0 v1 v2 v3 _ (GC.out.below HB.out) GV.out).mono ?_
      rintro e w2 ⟨rfl, hb⟩
      have hsw2 : V1.heap.size ≤ w2.heap.size := hb.size
      replace cb1_0 := cells_of hb zb1 cb1_0
      replace cb1_1 := cells_of hb zb1 cb1_1
      replace zb1 := Nat.lt_of_lt_of_le zb1 hb.size
      replace cb2_0 := cells_of hb zb2 cb2_0
      replace cb2_1 := cells_of hb zb2 cb2_1
      replace zb2 := Nat.lt_of_lt_of_le zb2 hb.size
      replace fr := Lib.hid (fun o => (hb.frozen (p := ⟨w.heap.size + 1 + 1, o, none⟩) zr).trans (fr.out o))
      replace cr_0 := cells_of hb zr cr_0
      replace cr_1 := cells_of hb zr cr_1
      replace zr := Nat.lt_of_lt_of_le zr hb.size
      replace ct1_0 := cells_of hb zt1 ct1_0
      replace ct1_1 := cells_of hb zt1 ct1_1
      replace ct1_2 := cells_of hb zt1 ct1_2
      replace ct1_3 := cells_of hb zt1 ct1_3
      replace ct1_4 := cells_of hb zt1 ct1_4
      replace ct1_5 := cells_of hb zt1 ct1_5
      replace ct1_6 := cells_of hb zt1 ct1_6
      replace ct1_7 := cells_of hb zt1 ct1_7
      replace zt1 := Nat.lt_of_lt_of_le zt1 hb.size
      replace HB := Lib.hid (below_step HB.out HB.out.size hb)
      clear hb
      go_wp2_with fail
      have hA : Below w2.heap.size w2 (w2.alloc (.cells #[.int .i64 z0, .int .i64 z1, .int .i64 z2, .int .i64 z3, .int .i64 v0, .int .i64 v1, .int .i64 v2, .int .i64 v3] 45)) := (Below.refl _ _).alloc (Nat.le_refl _) _
      replace cb1_0 := cells_of hA zb1 cb1_0
      replace cb1_1 := cells_of hA zb1 cb1_1
      replace zb1 := Nat.lt_of_lt_of_le zb1 hA.size
      replace cb2_0 := cells_of hA zb2 cb2_0
      replace cb2_1 := cells_of hA zb2 cb2_1
      replace zb2 := Nat.lt_of_lt_of_le zb2 hA.size
      replace fr := Lib.hid (fun o => (hA.frozen (p := ⟨w.heap.size + 1 + 1, o, none⟩) zr).trans (fr.out o))
      replace cr_0 := cells_of hA zr cr_0
      replace cr_1 := cells_of hA zr cr_1
      replace zr := Nat.lt_of_lt_of_le zr hA.size
      replace ct1_0 := cells_of hA zt1 ct1_0
      replace ct1_1 := cells_of hA zt1 ct1_1
      replace ct1_2 := cells_of hA zt1 ct1_2
      replace ct1_3 := cells_of hA zt1 ct1_3
      replace ct1_4 := cells_of hA zt1 ct1_4
      replace ct1_5 := cells_of hA zt1 ct1_5
      replace ct1_6 := cells_of hA zt1 ct1_6
      replace ct1_7 := cells_of hA zt1 ct1_7
      replace zt1 := Nat.lt_of_lt_of_le zt1 hA.size
      replace HB := Lib.hid (below_step HB.out HB.out.size hA)
      clear hA
      have ct2_0 : (w2.alloc (.cells #[.int .i64 z0, .int .i64 z1, .int .i64 z2, .int .i64 z3, .int .i64 v0, .int .i64 v1, .int .i64 v2, .int .i64 v3] 45)).cell? ⟨w2.heap.size, 0, none⟩ = some (.int .i64 z0) := by go_simp
      have ct2_1 : (w2.alloc (.cells #[.int .i64 z0, .int .i64 z1, .int .i64 z2, .int .i64 z3, .int .i64 v0, .int .i64 v1, .int .i64 v2, .int .i64 v3] 45)).cell? ⟨w2.heap.size, 1, none⟩ = some (.int .i64 z1) := by go_simp
      have ct2_2 : (w2.alloc (.cells #[.int .i64 z0, .int .i64 z1, .int .i64 z2, .int .i64 z3, .int .i64 v0, .int .i64 v1, .int .i64 v2, .int .i64 v3] 45)).cell? ⟨w2.heap.size, 2, none⟩ = some (.int .i64 z2) := by go_simp
      have ct2_3 : (w2.alloc (.cells #[.int .i64 z0, .int .i64 z1, .int .i64 z2, .int .i64 z3, .int .i64 v0, .int .i64 v1, .int .i64 v2, .int .i64 v3] 45)).cell? ⟨w2.heap.size, 3, none⟩ = some (.int .i64 z3) := by go_simp
      have ct2_4 : (w2.alloc (.cells #[.int .i64 z0, .int .i64 z1, .int .i64 z2, .int .i64 z3, .int .i64 v0, .int .i64 v1, .int .i64 v2, .int .i64 v3] 45)).cell? ⟨w2.heap.size, 4, none⟩ = some (.int .i64 v0) := by go_simp
      have ct2_5 : (w2.alloc (.cells #[.int .i64 z0, .int .i64 z1, .int .i64 z2, .int .i64 z3, .int .i64 v0, .int .i64 v1, .int .i64 v2, .int .i64 v3] 45)).cell? ⟨w2.heap.size, 5, none⟩ = some (.int .i64 v1) := by go_simp
      have ct2_6 : (w2.alloc (.cells #[.int .i64 z0, .int .i64 z1, .int .i64 z2, .int .i64 z3, .int .i64 v0, .int .i64 v1, .int .i64 v2, .int .i64 v3] 45)).cell? ⟨w2.heap.size, 6, none⟩ = some (.int .i64 v2) := by go_simp
      have ct2_7 : (w2.alloc (.cells #[.int .i64 z0, .int .i64 z1, .int .i64 z2, .int .i64 z3, .int .i64 v0, .int .i64 v1, .int .i64 v2, .int .i64 v3] 45)).cell? ⟨w2.heap.size, 7, none⟩ = some (.int .i64 v3) := by go_simp
      have zt2 : w2.heap.size < (w2.alloc (.cells #[.int .i64 z0, .int .i64 z1, .int .i64 z2, .int .i64 z3, .int .i64 v0, .int .i64 v1, .int .i64 v2, .int .i64 v3] 45)).heap.size := by simp
      have hsV2 : w2.heap.size < (w2.alloc (.cells #[.int .i64 z0, .int .i64 z1, .int .i64 z2, .int .i64 z3, .int .i64 v0, .int .i64 v1, .int .i64 v2, .int .i64 v3] 45)).heap.size := by simp
      generalize (w2.alloc (.cells #[.int .i64 z0, .int .i64 z1, .int .i64 z2, .int .i64 z3, .int .i64 v0, .int .i64 v1, .int .i64 v2, .int .i64 v3] 45)) = V2 at *
      refine (tJoin_any x0 x1 x2 x3 y0 y1 y2 y3 z0 z1 z2 z3 v0 v1 v2 v3 _).mono ?_
      rintro e w3 ⟨rfl, hb⟩
      have hsw3 : V2.heap.size ≤ w3.heap.size := hb.size
      replace cb1_0 := cells_of hb zb1 cb1_0
      replace cb1_1 := cells_of hb zb1 cb1_1
      replace zb1 := Nat.lt_of_lt_of_le zb1 hb.size
      replace cb2_0 := cells_of hb zb2 cb2_0
      replace cb2_1 := cells_of hb zb2 cb2_1
      replace zb2 := Nat.lt_of_lt_of_le zb2 hb.size
      replace fr := Lib.hid (fun o => (hb.frozen (p := ⟨w.heap.size + 1 + 1, o, none⟩) zr).trans (fr.out o))
      replace cr_0 := cells_of hb zr cr_0
      replace cr_1 := cells_of hb zr cr_1
      replace zr := Nat.lt_of_lt_of_le zr hb.size
      replace ct1_0 := cells_of hb zt1 ct1_0
      replace ct1_1 := cells_of hb zt1 ct1_1
      replace ct1_2 := cells_of hb zt1 ct1_2
      replace ct1_3 := cells_of hb zt1 ct1_3
      replace ct1_4 := cells_of hb zt1 ct1_4
      replace ct1_5 := cells_of hb zt1 ct1_5
      replace ct1_6 := cells_of hb zt1 ct1_6
      replace ct1_7 := cells_of hb zt1 ct1_7
      replace zt1 := Nat.lt_of_lt_of_le zt1 hb.size
      replace ct2_0 := cells_of hb zt2 ct2_0
      replace ct2_1 := cells_of hb zt2 ct2_1
      replace ct2_2 := cells_of hb zt2 ct2_2
      replace ct2_3 := cells_of hb zt2 ct2_3
      replace ct2_4 := cells_of hb zt2 ct2_4
      replace ct2_5 := cells_of hb zt2 ct2_5
      replace ct2_6 := cells_of hb zt2 ct2_6
      replace ct2_7 := cells_of hb zt2 ct2_7
      replace zt2 := Nat.lt_of_lt_of_le zt2 hb.size
      replace HB := Lib.hid (below_step HB.out HB.out.size hb)
      clear hb
      go_wp2_with fail
      refine (tCounter_any (max x0 z0) (max x1 z1) (max x2 z2) (max x3 z3) (max y0 v0) (max y1 v1) (max y2 v2) (max y3 v3) _).mono ?_
      rintro e w4 ⟨g, g', rfl, ho, hb⟩
      have hsw4 : w3.heap.size ≤ w4.heap.size := hb.size
      replace cb1_0 := cells_of hb zb1 cb1_0
      replace cb1_1 := cells_of hb zb1 cb1_1
      replace zb1 := Nat.lt_of_lt_of_le zb1 hb.size
      replace cb2_0 := cells_of hb zb2 cb2_0
      replace cb2_1 := cells_of hb zb2 cb2_1
      replace zb2 := Nat.lt_of_lt_of_le zb2 hb.size
      replace fr := Lib.hid (fun o => (hb.frozen (p := ⟨w.heap.size + 1 + 1, o, none⟩) zr).trans (fr.out o))
      replace cr_0 := cells_of hb zr cr_0
      replace cr_1 := cells_of hb zr cr_1
      replace zr := Nat.lt_of_lt_of_le zr hb.size
      replace ct1_0 := cells_of hb zt1 ct1_0
      replace ct1_1 := cells_of hb zt1 ct1_1
      replace ct1_2 := cells_of hb zt1 ct1_2
      replace ct1_3 := cells_of hb zt1 ct1_3
      replace ct1_4 := cells_of hb zt1 ct1_4
      replace ct1_5 := cells_of hb zt1 ct1_5
      replace ct1_6 := cells_of hb zt1 ct1_6
      replace ct1_7 := cells_of hb zt1 ct1_7
      replace zt1 := Nat.lt_of_lt_of_le zt1 hb.size
      replace ct2_0 := cells_of hb zt2 ct2_0
      replace ct2_1 := cells_of hb zt2 ct2_1
      replace ct2_2 := cells_of hb zt2 ct2_2
      replace ct2_3 := cells_of hb zt2 ct2_3
      replace ct2_4 := cells_of hb zt2 ct2_4
      replace ct2_5 := cells_of hb zt2 ct2_5
      replace ct2_6 := cells_of hb zt2 ct2_6
      replace ct2_7 := cells_of hb zt2 ct2_7
      replace zt2 := Nat.lt_of_lt_of_le zt2 hb.size
      replace HB := Lib.hid (below_step HB.out HB.out.size hb)
      have HO := Lib.hid ho
      clear ho
      clear hb
      have hrr := fr.out
      have hlw : w.heap.size + 1 + 1 < w3.heap.size := by omega
      go_wp2
      refine bodyPost_ret (v := cntV (some ⟨g, 0, none⟩) 4 4 (some ⟨g', 0, none⟩) 4 4) ?_ rfl ?_
      · simp only [results, hres]
        go_simp
      · rw [HJ.out.1, HJ.out.2]
        refine ⟨some ⟨g, 0, none⟩, 4, some ⟨g', 0, none⟩, 4, rfl, ?_, ?_⟩
        · exact ((HO.out.aside (p := ⟨w.heap.size + 1 + 1, 0, none⟩) hlw _).aside (p := ⟨w.heap.size + 1 + 1, 1, none⟩) hlw _).wider (by omega) (by simp)
        · exact (HB.out.setCell (p := ⟨w.heap.size + 1 + 1, 0, none⟩) (Nat.le_add_right _ 2) _).setCell (p := ⟨w.heap.size + 1 + 1, 1, none⟩) (Nat.le_add_right _ 2) _

end Go.Proofs.Ytaopkoamjfmhhaa
