import Derived.Test.YtaopkoamjfmhhaaPack5
import Derived.Test.YtaopkoamjfmhhaaPack1
import Derived.Test.YtaopkoamjfmhhaaPack2
/- Counters: the program's CounterAdd. -/
namespace Go.Proofs.Ytaopkoamjfmhhaa
open Go.ChangeShapes Go.WideShapes Go.ChangeAt Go.RowKit Go.Joins
attribute [local go_sem ↓] Go.wp_at_zero Go.wp_at_succ

def addU (us : List Int) (si n : Int) : List Int := if 0 ≤ n then us.set si.toNat (us.getD si.toNat 0 + n) else us

def addD (ds : List Int) (si n : Int) : List Int := if 0 ≤ n then ds else ds.set si.toNat (ds.getD si.toNat 0 - n)

def addOk (us ds : List Int) (si n : Int) : Bool := cntB us ds && (btw si 0 3 && (btw n (-1000000000) 1000000000 && cntB (addU us si n) (addD ds si n)))

def caU (us ds : List Int) (si n : Int) : List Int := if addOk us ds si n then addU us si n else []

def caD (us ds : List Int) (si n : Int) : List Int := if addOk us ds si n then addD ds si n else []

theorem ca_bad {us ds : List Int} {si n : Int} (h : addOk us ds si n = false) : caU us ds si n = [] ∧ caD us ds si n = [] := by
  unfold caU caD
  rw [h]
  exact ⟨rfl, rfl⟩

theorem ca_good {us ds : List Int} {si n : Int} (h : addOk us ds si n = true) : caU us ds si n = addU us si n ∧ caD us ds si n = addD ds si n := by
  unfold caU caD
  rw [h]
  exact ⟨rfl, rfl⟩

theorem addOk_bad {us ds : List Int} {si n : Int} (h : cntB us ds = false) : addOk us ds si n = false := by
  unfold addOk
  rw [h]
  rfl

theorem addOk_off {us ds : List Int} {si n : Int} (h : btw si 0 3 = false) : addOk us ds si n = false := by
  unfold addOk
  rw [h]
  simp

theorem addOk_far {us ds : List Int} {si n : Int} (h : btw n (-1000000000) 1000000000 = false) : addOk us ds si n = false := by
  unfold addOk
  rw [h]
  simp

theorem addOk_at {us ds : List Int} {si n : Int} (h : cntB us ds = true) (h1 : btw si 0 3 = true) (h2 : btw n (-1000000000) 1000000000 = true) : addOk us ds si n = cntB (addU us si n) (addD ds si n) := by
  unfold addOk
  rw [h, h1, h2]
  simp

theorem addU_up (x0 x1 x2 x3 n : Int) (q : Nat) (hq : q < 4) (h : 0 ≤ n) : addU [x0, x1, x2, x3] (q : Int) n = [tkP x0 n 0 q, tkP x1 n 1 q, tkP x2 n 2 q, tkP x3 n 3 q] := by
  unfold addU tkP
  rw [if_pos h]
  match q, hq with
  | 0, _ | 1, _ | 2, _ | 3, _ => simp

theorem addD_down (x0 x1 x2 x3 n : Int) (q : Nat) (hq : q < 4) (h : ¬ 0 ≤ n) : addD [x0, x1, x2, x3] (q : Int) n = [tkP x0 (-n) 0 q, tkP x1 (-n) 1 q, tkP x2 (-n) 2 q, tkP x3 (-n) 3 q] := by
  unfold addD tkP
  rw [if_neg h]
  match q, hq with
  | 0, _ | 1, _ | 2, _ | 3, _ => simp <;> omega

theorem tAdd_any (x0 x1 x2 x3 y0 y1 y2 y3 n : Int) (q : Nat) (hq : q < 4) (hv : cntB [x0, x1, x2, x3] [y0, y1, y2, y3] = true) (hn : btw n (-1000000000) 1000000000 = true) (w : World) :
    Calls Try.prog 30 #[taV x0 x1 x2 x3 y0 y1 y2 y3, .int .i64 (q : Int), .int .i64 n] w fun e w' => (∃ r0 r1 r2 r3 s0 s1 s2 s3, e = .returned (taV r0 r1 r2 r3 s0 s1 s2 s3) ∧ addU [x0, x1, x2, x3] (q : Int) n = [r0, r1, r2, r3] ∧ addD [y0, y1, y2, y3] (q : Int) n = [s0, s1, s2, s3]) ∧ Below w.heap.size w w' := by
  unfold cntB at hv
  rw [Bool.and_eq_true] at hv
  obtain ⟨hx0, hx1, hx2, hx3⟩ := (perB_is _ _ _ _ _).1 hv.1
  obtain ⟨hy0, hy1, hy2, hy3⟩ := (perB_is _ _ _ _ _).1 hv.2
  unfold btw at hn
  simp only [decide_eq_true_eq] at hn
  by_cases h : 0 ≤ n
  · exact (tAdd_up x0 x1 x2 x3 y0 y1 y2 y3 n q hq w hx0 hx1 hx2 hx3 h hn.2).mono fun e w' ⟨he, hb⟩ => ⟨⟨_, _, _, _, _, _, _, _, he, addU_up _ _ _ _ _ q hq h, by unfold addD; rw [if_pos h]⟩, hb⟩
  · exact (tAdd_down x0 x1 x2 x3 y0 y1 y2 y3 n q hq w hy0 hy1 hy2 hy3 (by omega) hn.1).mono fun e w' ⟨he, hb⟩ => ⟨⟨_, _, _, _, _, _, _, _, he, by unfold addU; rw [if_neg h], addD_down _ _ _ _ _ q hq h⟩, hb⟩

theorem inRangeN (n : Int) (v : Bool) (h : btw n (-1000000000) 1000000000 = v) (w : World) :
    Calls Try.prog 29 #[.int .i64 n, .int .i64 (-1000000000), .int .i64 1000000000] w fun e w' => e = .returned (.bool v) ∧ w' = w := by
  rw [← h]
  exact inRange_any n _ _ w

set_option maxRecDepth 100000 in
set_option maxHeartbeats 4000000 in
theorem implCounterAdd_any (a : Option Addr) (n cap : Nat) (b : Option Addr) (m cb : Nat) (us ds : List Int) (si nn : Int) (w : World) (hl : us.length = n) (hn : n ≤ maxLen) (hl' : ds.length = m) (hm : m ≤ maxLen) (hh : IsC w a b us ds) :
    Calls Try.prog 14 #[cntV a n cap b m cb, .int .i64 si, .int .i64 nn] w fun e w' => ∃ g cp g' cp', e = .returned (.tuple #[cntV g (caU us ds si nn).length cp g' (caD us ds si nn).length cp', .bool (addOk us ds si nn)]) ∧ OwnC w' w.heap.size w'.heap.size g g' (caU us ds si nn) (caD us ds si nn) ∧ Below w.heap.size w w' := by
  have hres : Try.f14.results = #[.cell 6 26, .tmp 7] := by kernel_rfl
  have HC := Lib.hid hh
  have HL := Lib.hid hl
  have HL' := Lib.hid hl'
  clear hh hl hl'
  cases hv : cntB us ds
  · have HV := Lib.hid hv
    have HJ := Lib.hid (addOk_bad (si := si) (n := nn) hv)
    clear hv
    go_enter Try.func14, Try.ntmps14
    go_wp2_with fail
    have HB : Hid (Below w.heap.size w ((w.alloc (.cells #[.slice a n cap, .slice b m cb] 26)).alloc (.cells #[.slice none 0 0, .slice none 0 0] 26))) := (((Below.refl _ _).alloc (Nat.le_refl _) _).alloc (by simp) _)
    have cb1_0 : ((w.alloc (.cells #[.slice a n cap, .slice b m cb] 26)).alloc (.cells #[.slice none 0 0, .slice none 0 0] 26)).cell? ⟨w.heap.size, 0, none⟩ = some (.slice a n cap) := by go_simp
    have cb1_1 : ((w.alloc (.cells #[.slice a n cap, .slice b m cb] 26)).alloc (.cells #[.slice none 0 0, .slice none 0 0] 26)).cell? ⟨w.heap.size, 1, none⟩ = some (.slice b m cb) := by go_simp
    have zb1 : w.heap.size < ((w.alloc (.cells #[.slice a n cap, .slice b m cb] 26)).alloc (.cells #[.slice none 0 0, .slice none 0 0] 26)).heap.size := by simp <;> omega
    have cr_0 : ((w.alloc (.cells #[.slice a n cap, .slice b m cb] 26)).alloc (.cells #[.slice none 0 0, .slice none 0 0] 26)).cell? ⟨w.heap.size + 1, 0, none⟩ = some (.slice none 0 0) := by go_simp
    have cr_1 : ((w.alloc (.cells #[.slice a n cap, .slice b m cb] 26)).alloc (.cells #[.slice none 0 0, .slice none 0 0] 26)).cell? ⟨w.heap.size + 1, 1, none⟩ = some (.slice none 0 0) := by go_simp
    have zr : w.heap.size + 1 < ((w.alloc (.cells #[.slice a n cap, .slice b m cb] 26)).alloc (.cells #[.slice none 0 0, .slice none 0 0] 26)).heap.size := by simp
    have fr : Hid (∀ o, ((w.alloc (.cells #[.slice a n cap, .slice b m cb] 26)).alloc (.cells #[.slice none 0 0, .slice none 0 0] 26)).frozen? ⟨w.heap.size + 1, o, none⟩ = false) := fun o => by go_simp
    have hsV0 : w.heap.size + 1 < ((w.alloc (.cells #[.slice a n cap, .slice b m cb] 26)).alloc (.cells #[.slice none 0 0, .slice none 0 0] 26)).heap.size := by simp
    generalize ((w.alloc (.cells #[.slice a n cap, .slice b m cb] 26)).alloc (.cells #[.slice none 0 0, .slice none 0 0] 26)) = V0 at *
    refine (tallyOf_bad a n cap b m cb us ds _ HL.out hn HL'.out hm (HC.out.below HB.out) HV.out).mono ?_
    rintro e w1 ⟨⟨p0, p1, p2, p3, p4, p5, p6, p7, rfl⟩, hb⟩
    have hsw1 : V0.heap.size ≤ w1.heap.size := hb.size
    replace cb1_0 := cells_of hb zb1 cb1_0
    replace cb1_1 := cells_of hb zb1 cb1_1
    replace zb1 := Nat.lt_of_lt_of_le zb1 hb.size
    replace fr := Lib.hid (fun o => (hb.frozen (p := ⟨w.heap.size + 1, o, none⟩) zr).trans (fr.out o))
    replace cr_0 := cells_of hb zr cr_0
    replace cr_1 := cells_of hb zr cr_1
    replace zr := Nat.lt_of_lt_of_le zr hb.size
    replace HB := Lib.hid (below_step HB.out HB.out.size hb)
    clear hb
    have hrr := fr.out
    go_wp2
    refine bodyPost_ret (v := .tuple #[cntV none 0 0 none 0 0, .bool false]) ?_ rfl ?_
    · simp only [results, hres]
      go_simp
    · rw [(ca_bad HJ.out).1, (ca_bad HJ.out).2, HJ.out]
      refine ⟨none, 0, none, 0, rfl, OwnC.nil ?_, ?_⟩
      · simp
        omega
      · exact ((HB.out.setCell (p := ⟨w.heap.size + 1, 0, none⟩) (Nat.le_add_right _ 1) _).setCell (p := ⟨w.heap.size + 1, 1, none⟩) (Nat.le_add_right _ 1) _).alloc (by simpa using HB.out.size) _
  · obtain ⟨x0, x1, x2, x3, y0, y1, y2, y3, rfl, rfl, -⟩ := cntB_four hv
    have hn4 : n = 4 := HL.out.symm
    subst hn4
    have hm4 : m = 4 := HL'.out.symm
    subst hm4
    have HV := Lib.hid hv
    cases hs : btw si 0 3
    · have HJ := Lib.hid (addOk_off (us := [x0, x1, x2, x3]) (ds := [y0, y1, y2, y3]) (n := nn) hs)
      have HS : Hid (∀ W, Calls Try.prog 28 #[.int .i64 si] W fun e w' => e = .returned (.bool false) ∧ w' = W) := fun W => by
        rw [← hs]
        exact isSite_any si W
      clear hv hs
      go_enter Try.func14, Try.ntmps14
      go_wp2_with fail
      have HB : Hid (Below w.heap.size w ((w.alloc (.cells #[.slice a 4 cap, .slice b 4 cb] 26)).alloc (.cells #[.slice none 0 0, .slice none 0 0] 26))) := (((Below.refl _ _).alloc (Nat.le_refl _) _).alloc (by simp) _)
      have cb1_0 : ((w.alloc (.cells #[.slice a 4 cap, .slice b 4 cb] 26)).alloc (.cells #[.slice none 0 0, .slice none 0 0] 26)).cell? ⟨w.heap.size, 0, none⟩ = some (.slice a 4 cap) := by go_simp
      have cb1_1 : ((w.alloc (.cells #[.slice a 4 cap, .slice b 4 cb] 26)).alloc (.cells #[.slice none 0 0, .slice none 0 0] 26)).cell? ⟨w.heap.size, 1, none⟩ = some (.slice b 4 cb) := by go_simp
      have zb1 : w.heap.size < ((w.alloc (.cells #[.slice a 4 cap, .slice b 4 cb] 26)).alloc (.cells #[.slice none 0 0, .slice none 0 0] 26)).heap.size := by simp <;> omega
      have cr_0 : ((w.alloc (.cells #[.slice a 4 cap, .slice b 4 cb] 26)).alloc (.cells #[.slice none 0 0, .slice none 0 0] 26)).cell? ⟨w.heap.size + 1, 0, none⟩ = some (.slice none 0 0) := by go_simp
      have cr_1 : ((w.alloc (.cells #[.slice a 4 cap, .slice b 4 cb] 26)).alloc (.cells #[.slice none 0 0, .slice none 0 0] 26)).cell? ⟨w.heap.size + 1, 1, none⟩ = some (.slice none 0 0) := by go_simp
      have zr : w.heap.size + 1 < ((w.alloc (.cells #[.slice a 4 cap, .slice b 4 cb] 26)).alloc (.cells #[.slice none 0 0, .slice none 0 0] 26)).heap.size := by simp
      have fr : Hid (∀ o, ((w.alloc (.cells #[.slice a 4 cap, .slice b 4 cb] 26)).alloc (.cells #[.slice none 0 0, .slice none 0 0] 26)).frozen? ⟨w.heap.size + 1, o, none⟩ = false) := fun o => by go_simp
      have hsV0 : w.heap.size + 1 < ((w.alloc (.cells #[.slice a 4 cap, .slice b 4 cb] 26)).alloc (.cells #[.slice none 0 0, .slice none 0 0] 26)).heap.size := by simp
      generalize ((w.alloc (.cells #[.slice a 4 cap, .slice b 4 cb] 26)).alloc (.cells #[.slice none 0 0, .slice none 0 0] 26)) = V0 at *
      refine (tallyOf_good a cap b cb x0 x1 x2 x3 y0 y1 y2 y3 _ (HC.out.below HB.out) HV.out).mono ?_
      rintro e w1 ⟨rfl, hb⟩
      have hsw1 : V0.heap.size ≤ w1.heap.size := hb.size
      replace cb1_0 := cells_of hb zb1 cb1_0
      replace cb1_1 := cells_of hb zb1 cb1_1
      replace zb1 := Nat.lt_of_lt_of_le zb1 hb.size
      replace fr := Lib.hid (fun o => (hb.frozen (p := ⟨w.heap.size + 1, o, none⟩) zr).trans (fr.out o))
      replace cr_0 := cells_of hb zr cr_0
      replace cr_1 := cells_of hb zr cr_1
      replace zr := Nat.lt_of_lt_of_le zr hb.size
      replace HB := Lib.hid (below_step HB.out HB.out.size hb)
      clear hb
      go_wp2_with fail
      have hA : Below w1.heap.size w1 (w1.alloc (.cells #[.int .i64 x0, .int .i64 x1, .int .i64 x2, .int .i64 x3, .int .i64 y0, .int .i64 y1, .int .i64 y2, .int .i64 y3] 45)) := (Below.refl _ _).alloc (Nat.le_refl _) _
      replace cb1_0 := cells_of hA zb1 cb1_0
      replace cb1_1 := cells_of hA zb1 cb1_1
      replace zb1 := Nat.lt_of_lt_of_le zb1 hA.size
      replace fr := Lib.hid (fun o => (hA.frozen (p := ⟨w.heap.size + 1, o, none⟩) zr).trans (fr.out o))
      replace cr_0 := cells_of hA zr cr_0
      replace cr_1 := cells_of hA zr cr_1
      replace zr := Nat.lt_of_lt_of_le zr hA.size
      replace HB := Lib.hid (below_step HB.out HB.out.size hA)
      clear hA
      have ct1_0 : (w1.alloc (.cells #[.int .i64 x0, .int .i64 x1, .int .i64 x2, .int .i64 x3, .int .i64 y0, .int .i64 y1, .int .i64 y2, .int .i64 y3] 45)).cell? ⟨w1.heap.size, 0, none⟩ = some (.int .i64 x0) := by go_simp
      have ct1_1 : (w1.alloc (.cells #[.int .i64 x0, .int .i64 x1, .int .i64 x2, .int .i64 x3, .int .i64 y0, .int .i64 y1, .int .i64 y2, .int .i64 y3] 45)).cell? ⟨w1.heap.size, 1, none⟩ = some (.int .i64 x1) := by go_simp
      have ct1_2 : (w1.alloc (.cells #[.int .i64 x0, .int .i64 x1, .int .i64 x2, .int .i64 x3, .int .i64 y0, .int .i64 y1, .int .i64 y2, .int .i64 y3] 45)).cell? ⟨w1.heap.size, 2, none⟩ = some (.int .i64 x2) := by go_simp
      have ct1_3 : (w1.alloc (.cells #[.int .i64 x0, .int .i64 x1, .int .i64 x2, .int .i64 x3, .int .i64 y0, .int .i64 y1, .int .i64 y2, .int .i64 y3] 45)).cell? ⟨w1.heap.size, 3, none⟩ = some (.int .i64 x3) := by go_simp
      have ct1_4 : (w1.alloc (.cells #[.int .i64 x0, .int .i64 x1, .int .i64 x2, .int .i64 x3, .int .i64 y0, .int .i64 y1, .int .i64 y2, .int .i64 y3] 45)).cell? ⟨w1.heap.size, 4, none⟩ = some (.int .i64 y0) := by go_simp
      have ct1_5 : (w1.alloc (.cells #[.int .i64 x0, .int .i64 x1, .int .i64 x2, .int .i64 x3, .int .i64 y0, .int .i64 y1, .int .i64 y2, .int .i64 y3] 45)).cell? ⟨w1.heap.size, 5, none⟩ = some (.int .i64 y1) := by go_simp
      have ct1_6 : (w1.alloc (.cells #[.int .i64 x0, .int .i64 x1, .int .i64 x2, .int .i64 x3, .int .i64 y0, .int .i64 y1, .int .i64 y2, .int .i64 y3] 45)).cell? ⟨w1.heap.size, 6, none⟩ = some (.int .i64 y2) := by go_simp
      have ct1_7 : (w1.alloc (.cells #[.int .i64 x0, .int .i64 x1, .int .i64 x2, .int .i64 x3, .int .i64 y0, .int .i64 y1, .int .i64 y2, .int .i64 y3] 45)).cell? ⟨w1.heap.size, 7, none⟩ = some (.int .i64 y3) := by go_simp
      have zt1 : w1.heap.size < (w1.alloc (.cells #[.int .i64 x0, .int .i64 x1, .int .i64 x2, .int .i64 x3, .int .i64 y0, .int .i64 y1, .int .i64 y2, .int .i64 y3] 45)).heap.size := by simp
      have hsV1 : w1.heap.size < (w1.alloc (.cells #[.int .i64 x0, .int .i64 x1, .int .i64 x2, .int .i64 x3, .int .i64 y0, .int .i64 y1, .int .i64 y2, .int .i64 y3] 45)).heap.size := by simp
      generalize (w1.alloc (.cells #[.int .i64 x0, .int .i64 x1, .int .i64 x2, .int .i64 x3, .int .i64 y0, .int .i64 y1, .int .i64 y2, .int .i64 y3] 45)) = V1 at *
      refine (HS.out _).mono ?_
      rintro e wz ⟨rfl, hwz⟩
      subst wz
      have hrr := fr.out
      go_wp2
      refine bodyPost_ret (v := .tuple #[cntV none 0 0 none 0 0, .bool false]) ?_ rfl ?_
      · simp only [results, hres]
        go_simp
      · rw [(ca_bad HJ.out).1, (ca_bad HJ.out).2, HJ.out]
        refine ⟨none, 0, none, 0, rfl, OwnC.nil ?_, ?_⟩
        · simp
          omega
        · exact (HB.out.setCell (p := ⟨w.heap.size + 1, 0, none⟩) (Nat.le_add_right _ 1) _).setCell (p := ⟨w.heap.size + 1, 1, none⟩) (Nat.le_add_right _ 1) _
    · obtain ⟨q, hq, rfl⟩ : ∃ q : Nat, q < 4 ∧ si = (q : Int) := ⟨si.toNat, by have := btw_site hs; omega, by have := btw_site hs; omega⟩
      have HS : Hid (∀ W, Calls Try.prog 28 #[.int .i64 (q : Int)] W fun e w' => e = .returned (.bool true) ∧ w' = W) := fun W => by
        rw [← hs]
        exact isSite_any (q : Int) W
      cases hr : btw nn (-1000000000) 1000000000
      · have HJ := Lib.hid (addOk_far (us := [x0, x1, x2, x3]) (ds := [y0, y1, y2, y3]) (si := (q : Int)) hr)
        have HN := Lib.hid (inRangeN nn _ hr)
        clear hv hs hr
        go_enter Try.func14, Try.ntmps14
        go_wp2_with fail
        have HB : Hid (Below w.heap.size w ((w.alloc (.cells #[.slice a 4 cap, .slice b 4 cb] 26)).alloc (.cells #[.slice none 0 0, .slice none 0 0] 26))) := (((Below.refl _ _).alloc (Nat.le_refl _) _).alloc (by simp) _)
        have cb1_0 : ((w.alloc (.cells #[.slice a 4 cap, .slice b 4 cb] 26)).alloc (.cells #[.slice none 0 0, .slice none 0 0] 26)).cell? ⟨w.heap.size, 0, none⟩ = some (.slice a 4 cap) := by go_simp
        have cb1_1 : ((w.alloc (.cells #[.slice a 4 cap, .slice b 4 cb] 26)).alloc (.cells #[.slice none 0 0, .slice none 0 0] 26)).cell? ⟨w.heap.size, 1, none⟩ = some (.slice b 4 cb) := by go_simp
        have zb1 : w.heap.size < ((w.alloc (.cells #[.slice a 4 cap, .slice b 4 cb] 26)).alloc (.cells #[.slice none 0 0, .slice none 0 0] 26)).heap.size := by simp <;> omega
        have cr_0 : ((w.alloc (.cells #[.slice a 4 cap, .slice b 4 cb] 26)).alloc (.cells #[.slice none 0 0, .slice none 0 0] 26)).cell? ⟨w.heap.size + 1, 0, none⟩ = some (.slice none 0 0) := by go_simp
        have cr_1 : ((w.alloc (.cells #[.slice a 4 cap, .slice b 4 cb] 26)).alloc (.cells #[.slice none 0 0, .slice none 0 0] 26)).cell? ⟨w.heap.size + 1, 1, none⟩ = some (.slice none 0 0) := by go_simp
        have zr : w.heap.size + 1 < ((w.alloc (.cells #[.slice a 4 cap, .slice b 4 cb] 26)).alloc (.cells #[.slice none 0 0, .slice none 0 0] 26)).heap.size := by simp
        have fr : Hid (∀ o, ((w.alloc (.cells #[.slice a 4 cap, .slice b 4 cb] 26)).alloc (.cells #[.slice none 0 0, .slice none 0 0] 26)).frozen? ⟨w.heap.size + 1, o, none⟩ = false) := fun o => by go_simp
        have hsV0 : w.heap.size + 1 < ((w.alloc (.cells #[.slice a 4 cap, .slice b 4 cb] 26)).alloc (.cells #[.slice none 0 0, .slice none 0 0] 26)).heap.size := by simp
        generalize ((w.alloc (.cells #[.slice a 4 cap, .slice b 4 cb] 26)).alloc (.cells #[.slice none 0 0, .slice none 0 0] 26)) = V0 at *
        refine (tallyOf_good a cap b cb x0 x1 x2 x3 y0 y1 y2 y3 _ (HC.out.below HB.out) HV.out).mono ?_
        rintro e w1 ⟨rfl, hb⟩
        have hsw1 : V0.heap.size ≤ w1.heap.size := hb.size
        replace cb1_0 := cells_of hb zb1 cb1_0
        replace cb1_1 := cells_of hb zb1 cb1_1
        replace zb1 := Nat.lt_of_lt_of_le zb1 hb.size
        replace fr := Lib.hid (fun o => (hb.frozen (p := ⟨w.heap.size + 1, o, none⟩) zr).trans (fr.out o))
        replace cr_0 := cells_of hb zr cr_0
        replace cr_1 := cells_of hb zr cr_1
        replace zr := Nat.lt_of_lt_of_le zr hb.size
        replace HB := Lib.hid (below_step HB.out HB.out.size hb)
        clear hb
        go_wp2_with fail
        have hA : Below w1.heap.size w1 (w1.alloc (.cells #[.int .i64 x0, .int .i64 x1, .int .i64 x2, .int .i64 x3, .int .i64 y0, .int .i64 y1, .int .i64 y2, .int .i64 y3] 45)) := (Below.refl _ _).alloc (Nat.le_refl _) _
        replace cb1_0 := cells_of hA zb1 cb1_0
        replace cb1_1 := cells_of hA zb1 cb1_1
        replace zb1 := Nat.lt_of_lt_of_le zb1 hA.size
        replace fr := Lib.hid (fun o => (hA.frozen (p := ⟨w.heap.size + 1, o, none⟩) zr).trans (fr.out o))
        replace cr_0 := cells_of hA zr cr_0
        replace cr_1 := cells_of hA zr cr_1
        replace zr := Nat.lt_of_lt_of_le zr hA.size
        replace HB := Lib.hid (below_step HB.out HB.out.size hA)
        clear hA
        have ct1_0 : (w1.alloc (.cells #[.int .i64 x0, .int .i64 x1, .int .i64 x2, .int .i64 x3, .int .i64 y0, .int .i64 y1, .int .i64 y2, .int .i64 y3] 45)).cell? ⟨w1.heap.size, 0, none⟩ = some (.int .i64 x0) := by go_simp
        have ct1_1 : (w1.alloc (.cells #[.int .i64 x0, .int .i64 x1, .int .i64 x2, .int .i64 x3, .int .i64 y0, .int .i64 y1, .int .i64 y2, .int .i64 y3] 45)).cell? ⟨w1.heap.size, 1, none⟩ = some (.int .i64 x1) := by go_simp
        have ct1_2 : (w1.alloc (.cells #[.int .i64 x0, .int .i64 x1, .int .i64 x2, .int .i64 x3, .int .i64 y0, .int .i64 y1, .int .i64 y2, .int .i64 y3] 45)).cell? ⟨w1.heap.size, 2, none⟩ = some (.int .i64 x2) := by go_simp
        have ct1_3 : (w1.alloc (.cells #[.int .i64 x0, .int .i64 x1, .int .i64 x2, .int .i64 x3, .int .i64 y0, .int .i64 y1, .int .i64 y2, .int .i64 y3] 45)).cell? ⟨w1.heap.size, 3, none⟩ = some (.int .i64 x3) := by go_simp
        have ct1_4 : (w1.alloc (.cells #[.int .i64 x0, .int .i64 x1, .int .i64 x2, .int .i64 x3, .int .i64 y0, .int .i64 y1, .int .i64 y2, .int .i64 y3] 45)).cell? ⟨w1.heap.size, 4, none⟩ = some (.int .i64 y0) := by go_simp
        have ct1_5 : (w1.alloc (.cells #[.int .i64 x0, .int .i64 x1, .int .i64 x2, .int .i64 x3, .int .i64 y0, .int .i64 y1, .int .i64 y2, .int .i64 y3] 45)).cell? ⟨w1.heap.size, 5, none⟩ = some (.int .i64 y1) := by go_simp
        have ct1_6 : (w1.alloc (.cells #[.int .i64 x0, .int .i64 x1, .int .i64 x2, .int .i64 x3, .int .i64 y0, .int .i64 y1, .int .i64 y2, .int .i64 y3] 45)).cell? ⟨w1.heap.size, 6, none⟩ = some (.int .i64 y2) := by go_simp
        have ct1_7 : (w1.alloc (.cells #[.int .i64 x0, .int .i64 x1, .int .i64 x2, .int .i64 x3, .int .i64 y0, .int .i64 y1, .int .i64 y2, .int .i64 y3] 45)).cell? ⟨w1.heap.size, 7, none⟩ = some (.int .i64 y3) := by go_simp
        have zt1 : w1.heap.size < (w1.alloc (.cells #[.int .i64 x0, .int .i64 x1, .int .i64 x2, .int .i64 x3, .int .i64 y0, .int .i64 y1, .int .i64 y2, .int .i64 y3] 45)).heap.size := by simp
        have hsV1 : w1.heap.size < (w1.alloc (.cells #[.int .i64 x0, .int .i64 x1, .int .i64 x2, .int .i64 x3, .int .i64 y0, .int .i64 y1, .int .i64 y2, .int .i64 y3] 45)).heap.size := by simp
        generalize (w1.alloc (.cells #[.int .i64 x0, .int .i64 x1, .int .i64 x2, .int .i64 x3, .int .i64 y0, .int .i64 y1, .int .i64 y2, .int .i64 y3] 45)) = V1 at *
        refine (HS.out _).mono ?_
        rintro e wz ⟨rfl, hwz⟩
        subst wz
        go_wp2_with fail
        refine (HN.out _).mono ?_
        rintro e wz ⟨rfl, hwz⟩
        subst wz
        have hrr := fr.out
        go_wp2
        refine bodyPost_ret (v := .tuple #[cntV none 0 0 none 0 0, .bool false]) ?_ rfl ?_
        · simp only [results, hres]
          go_simp
        · rw [(ca_bad HJ.out).1, (ca_bad HJ.out).2, HJ.out]
          refine ⟨none, 0, none, 0, rfl, OwnC.nil ?_, ?_⟩
          · simp
            omega
          · exact (HB.out.setCell (p := ⟨w.heap.size + 1, 0, none⟩) (Nat.le_add_right _ 1) _).setCell (p := ⟨w.heap.size + 1, 1, none⟩) (Nat.le_add_right _ 1) _
      · have HJ := Lib.hid (addOk_at hv hs hr)
        have HN := Lib.hid (inRangeN nn _ hr)
        have HT := Lib.hid (tAdd_any x0 x1 x2 x3 y0 y1 y2 y3 nn q hq hv hr)
        clear hv hs hr
        go_enter Try.func14, Try.ntmps14
        go_wp2_with fail
        have HB : Hid (Below w.heap.size w ((w.alloc (.cells #[.slice a 4 cap, .slice b 4 cb] 26)).alloc (.cells #[.slice none 0 0, .slice none 0 0] 26))) := (((Below.refl _ _).alloc (Nat.le_refl _) _).alloc (by simp) _)
        have cb1_0 : ((w.alloc (.cells #[.slice a 4 cap, .slice b 4 cb] 26)).alloc (.cells #[.slice none 0 0, .slice none 0 0] 26)).cell? ⟨w.heap.size, 0, none⟩ = some (.slice a 4 cap) := by go_simp
        have cb1_1 : ((w.alloc (.cells #[.slice a 4 cap, .slice b 4 cb] 26)).alloc (.cells #[.slice none 0 0, .slice none 0 0] 26)).cell? ⟨w.heap.size, 1, none⟩ = some (.slice b 4 cb) := by go_simp
        have zb1 : w.heap.size < ((w.alloc (.cells #[.slice a 4 cap, .slice b 4 cb] 26)).alloc (.cells #[.slice none 0 0, .slice none 0 0] 26)).heap.size := by simp <;> omega
        have cr_0 : ((w.alloc (.cells #[.slice a 4 cap, .slice b 4 cb] 26)).alloc (.cells #[.slice none 0 0, .slice none 0 0] 26)).cell? ⟨w.heap.size + 1, 0, none⟩ = some (.slice none 0 0) := by go_simp
        have cr_1 : ((w.alloc (.cells #[.slice a 4 cap, .slice b 4 cb] 26)).alloc (.cells #[.slice none 0 0, .slice none 0 0] 26)).cell? ⟨w.heap.size + 1, 1, none⟩ = some (.slice none 0 0) := by go_simp
        have zr : w.heap.size + 1 < ((w.alloc (.cells #[.slice a 4 cap, .slice b 4 cb] 26)).alloc (.cells #[.slice none 0 0, .slice none 0 0] 26)).heap.size := by simp
        have fr : Hid (∀ o, ((w.alloc (.cells #[.slice a 4 cap, .slice b 4 cb] 26)).alloc (.cells #[.slice none 0 0, .slice none 0 0] 26)).frozen? ⟨w.heap.size + 1, o, none⟩ = false) := fun o => by go_simp
        have hsV0 : w.heap.size + 1 < ((w.alloc (.cells #[.slice a 4 cap, .slice b 4 cb] 26)).alloc (.cells #[.slice none 0 0, .slice none 0 0] 26)).heap.size := by simp
        generalize ((w.alloc (.cells #[.slice a 4 cap, .slice b 4 cb] 26)).alloc (.cells #[.slice none 0 0, .slice none 0 0] 26)) = V0 at *
        refine (tallyOf_good a cap b cb x0 x1 x2 x3 y0 y1 y2 y3 _ (HC.out.below HB.out) HV.out).mono ?_
        rintro e w1 ⟨rfl, hb⟩
        have hsw1 : V0.heap.size ≤ w1.heap.size := hb.size
        replace cb1_0 := cells_of hb zb1 cb1_0
        replace cb1_1 := cells_of hb zb1 cb1_1
        replace zb1 := Nat.lt_of_lt_of_le zb1 hb.size
        replace fr := Lib.hid (fun o => (hb.frozen (p := ⟨w.heap.size + 1, o, none⟩) zr).trans (fr.out o))
        replace cr_0 := cells_of hb zr cr_0
        replace cr_1 := cells_of hb zr cr_1
        replace zr := Nat.lt_of_lt_of_le zr hb.size
        replace HB := Lib.hid (below_step HB.out HB.out.size hb)
        clear hb
        go_wp2_with fail
        have hA : Below w1.heap.size w1 (w1.alloc (.cells #[.int .i64 x0, .int .i64 x1, .int .i64 x2, .int .i64 x3, .int .i64 y0, .int .i64 y1, .int .i64 y2, .int .i64 y3] 45)) := (Below.refl _ _).alloc (Nat.le_refl _) _
        replace cb1_0 := cells_of hA zb1 cb1_0
        replace cb1_1 := cells_of hA zb1 cb1_1
        replace zb1 := Nat.lt_of_lt_of_le zb1 hA.size
        replace fr := Lib.hid (fun o => (hA.frozen (p := ⟨w.heap.size + 1, o, none⟩) zr).trans (fr.out o))
        replace cr_0 := cells_of hA zr cr_0
        replace cr_1 := cells_of hA zr cr_1
        replace zr := Nat.lt_of_lt_of_le zr hA.size
        replace HB := Lib.hid (below_step HB.out HB.out.size hA)
        clear hA
        have ct1_0 : (w1.alloc (.cells #[.int .i64 x0, .int .i64 x1, .int .i64 x2, .int .i64 x3, .int .i64 y0, .int .i64 y1, .int .i64 y2, .int .i64 y3] 45)).cell? ⟨w1.heap.size, 0, none⟩ = some (.int .i64 x0) := by go_simp
        have ct1_1 : (w1.alloc (.cells #[.int .i64 x0, .int .i64 x1, .int .i64 x2, .int .i64 x3, .int .i64 y0, .int .i64 y1, .int .i64 y2, .int .i64 y3] 45)).cell? ⟨w1.heap.size, 1, none⟩ = some (.int .i64 x1) := by go_simp
        have ct1_2 : (w1.alloc (.cells #[.int .i64 x0, .int .i64 x1, .int .i64 x2, .int .i64 x3, .int .i64 y0, .int .i64 y1, .int .i64 y2, .int .i64 y3] 45)).cell? ⟨w1.heap.size, 2, none⟩ = some (.int .i64 x2) := by go_simp
        have ct1_3 : (w1.alloc (.cells #[.int .i64 x0, .int .i64 x1, .int .i64 x2, .int .i64 x3, .int .i64 y0, .int .i64 y1, .int .i64 y2, .int .i64 y3] 45)).cell? ⟨w1.heap.size, 3, none⟩ = some (.int .i64 x3) := by go_simp
        have ct1_4 : (w1.alloc (.cells #[.int .i64 x0, .int .i64 x1, .int .i64 x2, .int .i64 x3, .int .i64 y0, .int .i64 y1, .int .i64 y2, .int .i64 y3] 45)).cell? ⟨w1.heap.size, 4, none⟩ = some (.int .i64 y0) := by go_simp
        have ct1_5 : (w1.alloc (.cells #[.int .i64 x0, .int .i64 x1, .int .i64 x2, .int .i64 x3, .int .i64 y0, .int .i64 y1, .int .i64 y2, .int .i64 y3] 45)).cell? ⟨w1.heap.size, 5, none⟩ = some (.int .i64 y1) := by go_simp
        have ct1_6 : (w1.alloc (.cells #[.int .i64 x0, .int .i64 x1, .int .i64 x2, .int .i64 x3, .int .i64 y0, .int .i64 y1, .int .i64 y2, .int .i64 y3] 45)).cell? ⟨w1.heap.size, 6, none⟩ = some (.int .i64 y2) := by go_simp
        have ct1_7 : (w1.alloc (.cells #[.int .i64 x0, .int .i64 x1, .int .i64 x2, .int .i64 x3, .int .i64 y0, .int .i64 y1, .int .i64 y2, .int .i64 y3] 45)).cell? ⟨w1.heap.size, 7, none⟩ = some (.int .i64 y3) := by go_simp
        have zt1 : w1.heap.size < (w1.alloc (.cells #[.int .i64 x0, .int .i64 x1, .int .i64 x2, .int .i64 x3, .int .i64 y0, .int .i64 y1, .int .i64 y2, .int .i64 y3] 45)).heap.size := by simp
        have hsV1 : w1.heap.size < (w1.alloc (.cells #[.int .i64 x0, .int .i64 x1, .int .i64 x2, .int .i64 x3, .int .i64 y0, .int .i64 y1, .int .i64 y2, .int .i64 y3] 45)).heap.size := by simp
        generalize (w1.alloc (.cells #[.int .i64 x0, .int .i64 x1, .int .i64 x2, .int .i64 x3, .int .i64 y0, .int .i64 y1, .int .i64 y2, .int .i64 y3] 45)) = V1 at *
        refine (HS.out _).mono ?_
        rintro e wz ⟨rfl, hwz⟩
        subst wz
        go_wp2_with fail
        refine (HN.out _).mono ?_
        rintro e wz ⟨rfl, hwz⟩
        subst wz
        go_wp2_with fail
        refine (HT.out _).mono ?_
        rintro e w2 ⟨⟨r0, r1, r2, r3, s0, s1, s2, s3, rfl, hu, hd⟩, hb⟩
        have hsw2 : V1.heap.size ≤ w2.heap.size := hb.size
        replace cb1_0 := cells_of hb zb1 cb1_0
        replace cb1_1 := cells_of hb zb1 cb1_1
        replace zb1 := Nat.lt_of_lt_of_le zb1 hb.size
        replace fr := Lib.hid (fun o => (hb.frozen (p := ⟨w.heap.size + 1, o, none⟩) zr).trans (fr.out o))
        replace cr_0 := cells_of hb zr cr_0
        replace cr_1 := cells_of hb zr cr_1
        replace zr := Nat.lt_of_lt_of_le zr hb.size
        replace ct1_0 := cells_of hb zt1 ct1_0
        replace ct1_1 := cells_of hb zt1 ct1_1
        replace ct1_2 := cells_of hb zt1 ct1_2
        replace ct1_3 := cells_of hb zt1 ct1_3
        replace ct1_4 := cells_of hb zt1 ct1_4
        replace ct1_5 := cells_of hb zt1 ct1_5
        replace ct1_6 := cells_of hb zt1 ct1_6
        replace ct1_7 := cells_of hb zt1 ct1_7
        replace zt1 := Nat.lt_of_lt_of_le zt1 hb.size
        replace HB := Lib.hid (below_step HB.out HB.out.size hb)
        have HU := Lib.hid hu
        have HD := Lib.hid hd
        clear hu hd
        clear hb
        go_wp2_with fail
        refine (tCounter_any r0 r1 r2 r3 s0 s1 s2 s3 _).mono ?_
        rintro e w3 ⟨g, g', rfl, ho, hb⟩
        have hsw3 : w2.heap.size ≤ w3.heap.size := hb.size
        replace cb1_0 := cells_of hb zb1 cb1_0
        replace cb1_1 := cells_of hb zb1 cb1_1
        replace zb1 := Nat.lt_of_lt_of_le zb1 hb.size
        replace fr := Lib.hid (fun o => (hb.frozen (p := ⟨w.heap.size + 1, o, none⟩) zr).trans (fr.out o))
        replace cr_0 := cells_of hb zr cr_0
        replace cr_1 := cells_of hb zr cr_1
        replace zr := Nat.lt_of_lt_of_le zr hb.size
        replace ct1_0 := cells_of hb zt1 ct1_0
        replace ct1_1 := cells_of hb zt1 ct1_1
        replace ct1_2 := cells_of hb zt1 ct1_2
        replace ct1_3 := cells_of hb zt1 ct1_3
        replace ct1_4 := cells_of hb zt1 ct1_4
        replace ct1_5 := cells_of hb zt1 ct1_5
        replace ct1_6 := cells_of hb zt1 ct1_6
        replace ct1_7 := cells_of hb zt1 ct1_7
        replace zt1 := Nat.lt_of_lt_of_le zt1 hb.size
        replace HB := Lib.hid (below_step HB.out HB.out.size hb)
        have HO := Lib.hid ho
        clear ho
        clear hb
        go_wp2_with fail
        have hA : Below w3.heap.size w3 (w3.alloc (.cells #[.slice (some ⟨g, 0, none⟩) 4 4, .slice (some ⟨g', 0, none⟩) 4 4] 26)) := (Below.refl _ _).alloc (Nat.le_refl _) _
        replace cb1_0 := cells_of hA zb1 cb1_0
        replace cb1_1 := cells_of hA zb1 cb1_1
        replace zb1 := Nat.lt_of_lt_of_le zb1 hA.size
        replace fr := Lib.hid (fun o => (hA.frozen (p := ⟨w.heap.size + 1, o, none⟩) zr).trans (fr.out o))
        replace cr_0 := cells_of hA zr cr_0
        replace cr_1 := cells_of hA zr cr_1
        replace zr := Nat.lt_of_lt_of_le zr hA.size
        replace ct1_0 := cells_of hA zt1 ct1_0
        replace ct1_1 := cells_of hA zt1 ct1_1
        replace ct1_2 := cells_of hA zt1 ct1_2
        replace ct1_3 := cells_of hA zt1 ct1_3
        replace ct1_4 := cells_of hA zt1 ct1_4
        replace ct1_5 := cells_of hA zt1 ct1_5
        replace ct1_6 := cells_of hA zt1 ct1_6
        replace ct1_7 := cells_of hA zt1 ct1_7
        replace zt1 := Nat.lt_of_lt_of_le zt1 hA.size
        replace HO := Lib.hid (HO.out.below hA)
        replace HB := Lib.hid (below_step HB.out HB.out.size hA)
        clear hA
        have cbx_0 : (w3.alloc (.cells #[.slice (some ⟨g, 0, none⟩) 4 4, .slice (some ⟨g', 0, none⟩) 4 4] 26)).cell? ⟨w3.heap.size, 0, none⟩ = some (.slice (some ⟨g, 0, none⟩) 4 4) := by go_simp
        have cbx_1 : (w3.alloc (.cells #[.slice (some ⟨g, 0, none⟩) 4 4, .slice (some ⟨g', 0, none⟩) 4 4] 26)).cell? ⟨w3.heap.size, 1, none⟩ = some (.slice (some ⟨g', 0, none⟩) 4 4) := by go_simp
        have zbx : w3.heap.size < (w3.alloc (.cells #[.slice (some ⟨g, 0, none⟩) 4 4, .slice (some ⟨g', 0, none⟩) 4 4] 26)).heap.size := by simp
        have hsV3 : w3.heap.size < (w3.alloc (.cells #[.slice (some ⟨g, 0, none⟩) 4 4, .slice (some ⟨g', 0, none⟩) 4 4] 26)).heap.size := by simp
        generalize (w3.alloc (.cells #[.slice (some ⟨g, 0, none⟩) 4 4, .slice (some ⟨g', 0, none⟩) 4 4] 26)) = V3 at *
        refine (implCounterOk_any _ 4 4 _ 4 4 [r0, r1, r2, r3] [s0, s1, s2, s3] _ rfl (by unfold maxLen; omega) rfl (by unfold maxLen; omega) HO.out.isC).mono ?_
        rintro e w4 ⟨rfl, hb⟩
        have hsw4 : V3.heap.size ≤ w4.heap.size := hb.size
        replace cb1_0 := cells_of hb zb1 cb1_0
        replace cb1_1 := cells_of hb zb1 cb1_1
        replace zb1 := Nat.lt_of_lt_of_le zb1 hb.size
        replace fr := Lib.hid (fun o => (hb.frozen (p := ⟨w.heap.size + 1, o, none⟩) zr).trans (fr.out o))
        replace cr_0 := cells_of hb zr cr_0
        replace cr_1 := cells_of hb zr cr_1
        replace zr := Nat.lt_of_lt_of_le zr hb.size
        replace ct1_0 := cells_of hb zt1 ct1_0
        replace ct1_1 := cells_of hb zt1 ct1_1
        replace ct1_2 := cells_of hb zt1 ct1_2
        replace ct1_3 := cells_of hb zt1 ct1_3
        replace ct1_4 := cells_of hb zt1 ct1_4
        replace ct1_5 := cells_of hb zt1 ct1_5
        replace ct1_6 := cells_of hb zt1 ct1_6
        replace ct1_7 := cells_of hb zt1 ct1_7
        replace zt1 := Nat.lt_of_lt_of_le zt1 hb.size
        replace HO := Lib.hid (HO.out.below hb)
        replace cbx_0 := cells_of hb zbx cbx_0
        replace cbx_1 := cells_of hb zbx cbx_1
        replace zbx := Nat.lt_of_lt_of_le zbx hb.size
        replace HB := Lib.hid (below_step HB.out HB.out.size hb)
        clear hb
        have hlw : w.heap.size + 1 < w2.heap.size := by omega
        rw [HU.out, HD.out] at HJ
        rw [← HJ.out]
        have hrr := fr.out
        cases hz : addOk [x0, x1, x2, x3] [y0, y1, y2, y3] (q : Int) nn
        · replace HJ := Lib.hid hz
          go_wp2
          refine bodyPost_ret (v := .tuple #[cntV none 0 0 none 0 0, .bool false]) ?_ rfl ?_
          · simp only [results, hres]
            go_simp
          · rw [(ca_bad HJ.out).1, (ca_bad HJ.out).2, HJ.out]
            refine ⟨none, 0, none, 0, rfl, OwnC.nil ?_, ?_⟩
            · simp
              omega
            · exact (HB.out.setCell (p := ⟨w.heap.size + 1, 0, none⟩) (Nat.le_add_right _ 1) _).setCell (p := ⟨w.heap.size + 1, 1, none⟩) (Nat.le_add_right _ 1) _
        · have HG := Lib.hid (ca_good hz)
          replace HJ := Lib.hid hz
          go_wp2
          refine bodyPost_ret (v := .tuple #[cntV (some ⟨g, 0, none⟩) 4 4 (some ⟨g', 0, none⟩) 4 4, .bool true]) ?_ rfl ?_
          · simp only [results, hres]
            go_simp
          · rw [HG.out.1, HG.out.2, HJ.out, HU.out, HD.out]
            refine ⟨some ⟨g, 0, none⟩, 4, some ⟨g', 0, none⟩, 4, rfl, ?_, ?_⟩
            · exact ((HO.out.aside (p := ⟨w.heap.size + 1, 0, none⟩) hlw _).aside (p := ⟨w.heap.size + 1, 1, none⟩) hlw _).wider (by omega) (by simp; omega)
            · exact (HB.out.setCell (p := ⟨w.heap.size + 1, 0, none⟩) (Nat.le_add_right _ 1) _).setCell (p := ⟨w.heap.size + 1, 1, none⟩) (Nat.le_add_right _ 1) _

end Go.Proofs.Ytaopkoamjfmhhaa

/- As Slots, where each operation has a reach of its own ('R', by the slot that it fills), and where a fact may last only till one operation has come ('U'): for regions in which an append lies. No Go text in sight. -/
namespace Go.Proofs.Ytaopkoamjfmhhaa

abbrev ReachU := Option Tmp → World → World → Prop

def oblU (P : Program) (a0 : Act) (S : World → Prop) (E : Option Tmp → World → Prop) (R : ReachU) (n : List (Tmp × Bool)) (o : Oper) (Ts : Facts) (T : Fact) : Prop :=
  ∀ ρ w, Plain ρ → S w → E o.dst w → needs Ts a0 ρ w n → got P (fun v w' => R o.dst w w' ∧ T v w') ((execOp ρ o).run P w)

/-- A fact of slot dst lasts, whichever other operation comes, but for the one at which it ends. -/
def lastsU (U : Tmp → Option Tmp) (R : ReachU) (dst : Option Tmp) (T : Fact) : Prop := ∀ d', d' ≠ dst → (∀ d u, dst = some d → U d = some u → d' ≠ some u) → lasts (R d') T

theorem lastsU_eq (U : Tmp → Option Tmp) (R : ReachU) (dst : Option Tmp) (e : Value) : lastsU U R dst (fun v _ => v = e) := fun _ _ _ _ _ _ h _ => h

def wpSlotsU (P : Program) (a0 : Act) (S : World → Prop) (E : Option Tmp → World → Prop) (U : Tmp → Option Tmp) (R : ReachU) (Fin : Facts → Prop) : List (List (Tmp × Bool)) → List Oper → Facts → Prop
  | n :: N, o :: l, Ts => ∃ T : Fact, lastsU U R o.dst T ∧ oblU P a0 S E R n o Ts T ∧ wpSlotsU P a0 S E U R Fin N l (addFact o T Ts)
  | [], [], Ts => Fin Ts
  | _, _, _ => False

theorem collectU {P : Program} {a0 : Act} {S : World → Prop} {E : Option Tmp → World → Prop} {U : Tmp → Option Tmp} {R : ReachU} {Fin : Facts → Prop} : ∀ (N : List (List (Tmp × Bool))) (l : List Oper) (Ts : Facts), wpSlotsU P a0 S E U R Fin N l Ts → distB l (Ts.map (·.1)) = true →
    ∃ Tf, Fin Tf ∧ (∀ x p, Ts.lookup x = some p → Tf.lookup x = some p) ∧ (∀ d p, (d, p) ∈ Tf → (d, p) ∈ Ts ∨ (Tf.lookup d = some p ∧ ∃ (k : Nat) (o : Oper), l[k]? = some o ∧ o.dst = some d)) ∧ ∀ (k : Nat) (n : List (Tmp × Bool)) (o : Oper), N[k]? = some n → l[k]? = some o → ∃ T : Fact, lastsU U R o.dst T ∧ oblU P a0 S E R n o Tf T ∧ ∀ d, o.dst = some d → Tf.lookup d = some T
  | [], [], Ts, h, _ => ⟨Ts, h, fun _ _ h => h, fun _ _ h => .inl h, fun k n o hn _ => by simp at hn⟩
  | [], _ :: _, _, h, _ => h.elim
  | _ :: _, [], _, h, _ => h.elim
  | n :: N, o :: l, Ts, h, hd => by
    obtain ⟨T, hl, ho, hrest⟩ := h
    have hsub : ∀ x p, Ts.lookup x = some p → (addFact o T Ts).lookup x = some p := by
      intro x p hx
      unfold addFact
      cases hod : o.dst with
      | none => exact hx
      | some d =>
        simp only [distB, hod, Bool.and_eq_true, Bool.not_eq_true'] at hd
        have hne : x ≠ d := fun e => by rw [e, lookup_none_of hd.1] at hx; cases hx
        rw [List.lookup_cons, beq_eq_false_iff_ne.2 hne]
        exact hx
    have hd' : distB l ((addFact o T Ts).map (·.1)) = true := by
      unfold addFact
      cases hod : o.dst with
      | none => simpa [distB, hod] using hd
      | some d =>
        simp only [distB, hod, Bool.and_eq_true] at hd
        simpa using hd.2
    obtain ⟨Tf, hfin, hmono, hmem, hall⟩ := collectU N l (addFact o T Ts) hrest hd'
    have hhead : ∀ d, o.dst = some d → Tf.lookup d = some T := fun d hod => hmono d T (by unfold addFact; rw [hod]; simp)
    refine ⟨Tf, hfin, fun x p hx => hmono x p (hsub x p hx), fun d p hdp => ?_, fun k n' o' hn ho' => ?_⟩
    · rcases hmem d p hdp with h1 | ⟨h1, k, o', hk, hod⟩
      · unfold addFact at h1
        cases hod : o.dst with
        | none => rw [hod] at h1; exact .inl h1
        | some d' =>
          rw [hod] at h1
          rcases List.mem_cons.1 h1 with h2 | h2
          · obtain ⟨rfl, rfl⟩ := Prod.mk.inj h2
            exact .inr ⟨hhead _ hod, 0, o, rfl, hod⟩
          · exact .inl h2
      · exact .inr ⟨h1, k + 1, o', by simpa using hk, hod⟩
    cases k with
    | zero =>
      simp only [List.getElem?_cons_zero, Option.some.injEq] at hn ho'
      subst hn ho'
      refine ⟨T, hl, fun ρ w hp hS hE hn => ho ρ w hp hS hE (needs_mono (fun x p hx => hmono x p (hsub x p hx)) hn), hhead⟩
    | succ k =>
      exact hall k n' o' (by simpa using hn) (by simpa using ho')

/-- The facts that stand at the end, by their values. -/
@[simp] def factsAtU (U : Tmp → Option Tmp) (vs : Tmp → Value) (w : World) : Facts → Prop
  | [] => True
  | (d, p) :: r => (U d = none → p (vs d) w) ∧ factsAtU U vs w r

theorem factsAtU_of {U : Tmp → Option Tmp} {vs : Tmp → Value} {w : World} : ∀ {Tf : Facts}, (∀ d p, (d, p) ∈ Tf → U d = none → p (vs d) w) → factsAtU U vs w Tf
  | [], _ => trivial
  | (d, p) :: r, h => ⟨h d p (by simp), factsAtU_of fun d' p' h' => h d' p' (List.mem_cons_of_mem _ h')⟩

/-- The operation at which slot d's fact ends has not come. -/
def Still (U : Tmp → Option Tmp) (ops : Array Oper) (listed : Array Bool) (d : Tmp) : Prop := ∀ u, U d = some u → ∀ (i : Nat) (o : Oper), ops[i]? = some o → o.dst = some u → listed.getD i false = false

structure InvU (E : Option Tmp → World → Prop) (U : Tmp → Option Tmp) (ops : Array Oper) (a0 : Act) (S : World → Prop) (Tf : Facts) (listed : Array Bool) (a : Act) (w : World) : Prop where
  size : listed.size = ops.size
  ok : S w
  ex : ∀ (i : Nat) (o : Oper), ops[i]? = some o → listed.getD i false = false → E o.dst w
  defers : a.defers = a0.defers
  len : a.tmps.size = a0.tmps.size
  down : ∀ i o, ops[i]? = some o → listed.getD i false = true → ∀ e ∈ o.after, Region.binds .any e = true → listed.getD e.on false = true
  fresh : ∀ i o d p, ops[i]? = some o → listed.getD i false = true → o.dst = some d → Tf.lookup d = some p → Still U ops listed d → p (a.eval (.tmp d)) w
  old : ∀ x, (∀ i o, ops[i]? = some o → listed.getD i false = true → o.dst ≠ some x) → a.eval (.tmp x) = a0.eval (.tmp x)

theorem needs_ofU {E : Option Tmp → World → Prop} {U : Tmp → Option Tmp} {ops : Array Oper} {a0 : Act} {S : World → Prop} {Tf : Facts} {listed : Array Bool} {a : Act} {w : World} (hI : InvU E U ops a0 S Tf listed a w) {j : Nat} {o : Oper} (hj : ops[j]? = some o) (hun : listed.getD j false = false)
    (hall : ∀ e ∈ o.after, Region.binds .any e = true → listed.getD e.on false = true) : ∀ (n : List (Tmp × Bool)), tabRowB ops j o n = true → (∀ x, (x, true) ∈ n → Still U ops listed x) → needs0 Tf a0 a.eval w n
  | [], _, _ => trivial
  | (x, true) :: r, h, hst => by
    simp only [tabRowB, Bool.and_eq_true] at h
    refine ⟨?_, needs_ofU hI hj hun hall r h.2 (fun x hx => hst x (List.mem_cons_of_mem _ hx))⟩
    cases hl : Tf.lookup x with
    | none => trivial
    | some p =>
      obtain ⟨e, he, hb⟩ := Array.any_eq_true'.1 h.1
      simp only [Bool.and_eq_true, beq_iff_eq] at hb
      obtain ⟨oi, hoi, hdi⟩ := Option.bind_eq_some_iff.1 hb.2
      exact hI.fresh e.on oi x p hoi (hall e he hb.1) hdi hl (hst x (by simp))
  | (x, false) :: r, h, hst => by
    simp only [tabRowB, Bool.and_eq_true] at h
    refine ⟨hI.old x fun i oi hoi hli hdi => ?_, needs_ofU hI hj hun hall r h.2 (fun x hx => hst x (List.mem_cons_of_mem _ hx))⟩
    have hlt : i < ops.size := (Array.getElem?_eq_some_iff.1 hoi).1
    have h1 := List.all_eq_true.1 h.1 i (List.mem_range.2 hlt)
    simp only [hoi, hdi, beq_self_eq_true, Bool.not_true, Bool.false_or, Bool.or_eq_true, beq_iff_eq] at h1
    rcases h1 with rfl | hw
    · rw [hun] at hli
      cases hli
    · obtain ⟨e, he, hb⟩ := Array.any_eq_true'.1 hw
      simp only [Bool.and_eq_true, beq_iff_eq] at hb
      have := hI.down i oi hoi hli e he hb.1
      rw [hb.2, hun] at this
      cases this

theorem inv_stepU {E : Option Tmp → World → Prop} {U : Tmp → Option Tmp} {ops : Array Oper} {a0 : Act} {S S' : World → Prop} {R : ReachU} {Tf : Facts} {j : Nat} {o : Oper} (hS : ∀ w w', S w → R o.dst w w' → S' w') (hE : ∀ (i : Nat) (oi : Oper), ops[i]? = some oi → i ≠ j → ∀ w w', E oi.dst w → R o.dst w w' → E oi.dst w') (hl : ∀ d p, Tf.lookup d = some p → lastsU U R (some d) p)
    (hbd : ∀ (i : Nat) (o : Oper) (d : Tmp), ops[i]? = some o → o.dst = some d → d < a0.tmps.size) {listed : Array Bool} {a : Act} {w w' : World} (hI : InvU E U ops a0 S Tf listed a w) (hj : ops[j]? = some o)
    (hall : ∀ e ∈ o.after, Region.binds .any e = true → listed.getD e.on false = true) {T : Fact} (hT : ∀ d, o.dst = some d → Tf.lookup d = some T) {v : Value} (hR : R o.dst w w') (hv : T v w') :
    InvU E U ops a0 S' Tf (listed.setIfInBounds j true) (a.put o.dst v) w' where
  size := by simpa using hI.size
  ok := hS _ _ hI.ok hR
  ex := by
    intro i oi hoi hli
    by_cases e : j = i
    · subst e
      have hlt : j < listed.size := by rw [hI.size]; exact (Array.getElem?_eq_some_iff.1 hj).1
      simp [hlt] at hli
    · rw [getD_set_ne false e] at hli
      exact hE i oi hoi (Ne.symm e) _ _ (hI.ex i oi hoi hli) hR
  defers := (put_def _ _ _).trans hI.defers
  len := (putA_len _ _ _).trans hI.len
  down := by
    intro i oi hoi hli e he hb
    by_cases hij : j = i
    · subst hij
      obtain rfl := Option.some.inj (hj.symm.trans hoi)
      exact getD_set_true (hall e he hb)
    · rw [getD_set_ne false hij] at hli
      exact getD_set_true (hI.down i oi hoi hli e he hb)
  fresh := by
    intro i oi d p hoi hli hdi hp hst
    by_cases hd : o.dst = some d
    · rw [hd, put_at _ _ _ (by rw [hI.len]; exact hbd j o d hj hd)]
      obtain rfl := Option.some.inj ((hT d hd).symm.trans hp)
      exact hv
    · have hij : j ≠ i := fun e => by
        subst e
        obtain rfl := Option.some.inj (hj.symm.trans hoi)
        exact hd hdi
      rw [getD_set_ne false hij] at hli
      rw [put_off _ _ _ _ hd]
      have hst' : Still U ops listed d := fun u hu i' o' ho' hd' => by
        have h1 := hst u hu i' o' ho' hd'
        by_cases e : j = i'
        · subst e
          have hlt : j < listed.size := by rw [hI.size]; exact (Array.getElem?_eq_some_iff.1 hj).1
          simp [hlt] at h1
        · rwa [getD_set_ne false e] at h1
      refine hl d p hp o.dst hd (fun d0 u h0 hu => ?_) _ _ _ (hI.fresh i oi d p hoi hli hdi hp hst') hR
      obtain rfl := Option.some.inj h0
      intro e
      have h1 := hst u hu j o hj e
      have hlt : j < listed.size := by rw [hI.size]; exact (Array.getElem?_eq_some_iff.1 hj).1
      simp [hlt] at h1
  old := by
    intro x hx
    have hd : o.dst ≠ some x := hx j o hj (by
      have hlt : j < listed.size := by rw [hI.size]; exact (Array.getElem?_eq_some_iff.1 hj).1
      simp [hlt])
    rw [put_off _ _ _ _ hd]
    exact hI.old x fun i oi hoi hli => hx i oi hoi (getD_set_true hli)

/-- Whatever order is picked. -/
theorem any_slotsU {P : Program} {E : Option Tmp → World → Prop} {U : Tmp → Option Tmp} {ops : Array Oper} {a0 : Act} {S SF : World → Prop} {SS : Nat → World → Prop} {R : ReachU} {Tf : Facts} {Q : Exit → Act → World → Prop} {m : Nat} (hmle : m ≤ ops.size) (hseal : sealB ops m = true) (hstep : ∀ d f w w', SS (f + 1) w → R d w w' → SS f w') (hSS : ∀ f w, f < ops.size → SS (f + 1) w → S w) (hF : ∀ f w, f ≤ ops.size → SS f w → SF w) (hE : ∀ (j : Nat) (o : Oper), ops[j]? = some o → ∀ (i : Nat) (oi : Oper), ops[i]? = some oi → i ≠ j → ∀ w w', E oi.dst w → R o.dst w w' → E oi.dst w') (hl : ∀ d p, Tf.lookup d = some p → lastsU U R (some d) p)
    (hbd : ∀ (i : Nat) (o : Oper) (d : Tmp), ops[i]? = some o → o.dst = some d → d < a0.tmps.size) (hg : ∀ (i : Nat) (o : Oper), i < m → ops[i]? = some o → o.guard = none) (hlt : ∀ (i : Nat) (o : Oper), ops[i]? = some o → ∀ e ∈ o.after, Region.binds .any e = true → e.on < i)
    (hobl : ∀ (j : Nat) (o : Oper), j < m → ops[j]? = some o → ∃ n T, tabRowB ops j o n = true ∧ (∀ x, (x, true) ∈ n → ∀ u, U x = some u → ∀ (i : Nat) (o' : Oper), ops[i]? = some o' → o'.dst = some u → i = j) ∧ oblU P a0 S E R n o Tf T ∧ ∀ d, o.dst = some d → Tf.lookup d = some T)
    (hfin : ∀ a w, SF w → a.defers = a0.defers → a.tmps.size = a0.tmps.size → (∀ (i : Nat) (o : Oper) (d : Tmp) p, i < m → ops[i]? = some o → o.dst = some d → Tf.lookup d = some p → U d = none → p (a.eval (.tmp d)) w) → (∀ x, (∀ (i : Nat) (o : Oper), i < m → ops[i]? = some o → o.dst ≠ some x) → a.eval (.tmp x) = a0.eval (.tmp x)) → wpList P ops Q (ops.toList.drop m) a w) :
    ∀ (fuel : Nat) (listed : Array Bool) (a : Act) (w : World), listed.toList.count false = fuel → (∀ j, m ≤ j → j < ops.size → listed.getD j true = false) → InvU E U ops a0 (SS fuel) Tf listed a w → wpAny P .any ops Q fuel listed a w := by
  intro fuel
  induction fuel with
  | zero =>
    intro listed a w hc hm2 hI
    have hno : ∀ i, i < ops.size → listed.getD i false = true := fun i hi => by
      have hi' : i < listed.size := by rw [hI.size]; exact hi
      have : listed[i] ≠ false := fun h => by
        have := List.count_eq_zero.1 hc
        exact this (by rw [← h]; simp)
      simpa [hi'] using this
    have hms : m = ops.size := by
      rcases Nat.lt_or_ge m ops.size with h' | h'
      · have h3 := hno m h'
        rw [listed_ne hI.size h' (hm2 m (Nat.le_refl _) h')] at h3
        cases h3
      · omega
    refine any_tail hseal hlt 0 m listed a w (Nat.le_refl _) (by omega) hI.size (fun j hj => hno j (by omega)) hm2 ?_
    exact hfin a w (hF 0 w (Nat.zero_le _) hI.ok) hI.defers hI.len (fun i o d p _ ho hd hp hu => hI.fresh i o d p ho (hno i (Array.getElem?_eq_some_iff.1 ho).1) hd hp (fun u h => by rw [hu] at h; cases h)) (fun x hx => hI.old x fun i o ho _ => hx i o (by rw [hms]; exact (Array.getElem?_eq_some_iff.1 ho).1) ho)
  | succ fuel ih =>
    intro listed a w hc hm2 hI
    by_cases hdone : ∀ j, j < m → listed.getD j false = true
    · have hcnt := count_drop hI.size hmle hdone hm2
      refine any_tail hseal hlt (fuel + 1) m listed a w (Nat.le_refl _) (by omega) hI.size hdone hm2 ?_
      refine hfin a w (hF _ w (by have := List.count_le_length (a := false) (l := listed.toList); rw [hc, Array.length_toList, hI.size] at this; exact this) hI.ok) hI.defers hI.len (fun i o d p hi ho hd hp hu => hI.fresh i o d p ho (hdone i hi) hd hp (fun u h => by rw [hu] at h; cases h)) (fun x hx => hI.old x fun i o ho hli => ?_)
      refine hx i o ?_ ho
      rcases Nat.lt_or_ge i m with h' | h'
      · exact h'
      · have hil := (Array.getElem?_eq_some_iff.1 ho).1
        rw [listed_ne hI.size hil (hm2 i h' hil)] at hli
        cases hli
    · refine ⟨fun hr => absurd ?_ hdone, fun j hj => ?_⟩
      · -- the first that has not come up may come up
        have hall : ∀ k, k ≤ m → ∀ i, i < k → listed.getD i false = true := by
          intro k
          induction k with
          | zero => intro _ i hi; omega
          | succ k ihk =>
            intro hk i hi
            by_cases hik : i < k
            · exact ihk (by omega) i hik
            · have : i = k := by omega
              subst this
              have hi' : i < ops.size := by omega
              cases hb : listed.getD i true with
              | true =>
                have hi2 : i < listed.size := by rw [hI.size]; exact hi'
                simpa [hi2] using hb
              | false =>
                have hmem : i ∈ Region.ready .any ops listed := mem_ready.2 ⟨hb, ops[i], by simp [hi'], fun e he hbi => ihk (by omega) e.on (hlt i _ (by simp [hi']) e he hbi)⟩
                rw [hr] at hmem
                cases hmem
        exact hall m (Nat.le_refl _)
      · obtain ⟨h0, o, ho, hall⟩ := mem_ready.1 hj
        have hjlt := (Array.getElem?_eq_some_iff.1 ho).1
        have hjm : j < m := by
          rcases Nat.lt_or_ge j m with h' | h'
          · exact h'
          · exact absurd (fun i hi => sealed hseal hI.down ho h' hall (Nat.lt_of_lt_of_le hi h')) hdone
        obtain ⟨n, T, htab, huse, hob, hT⟩ := hobl j o hjm ho
        have hun := listed_ne hI.size hjlt h0
        have hgot := hob a.eval w (plain_eval a) (hSS fuel w (by have := List.count_le_length (a := false) (l := listed.toList); rw [hc, Array.length_toList, hI.size] at this; exact this) hI.ok) (hI.ex j o ho hun) (needs_iff.2 (needs_ofU hI ho hun hall n htab (fun x hx u hu i' o' ho' hd' => by rw [huse x hx u hu i' o' ho' hd']; exact hun)))
        unfold wpOp
        simp only [ho]
        rw [if_pos (by simp [Region.wanted, hg j o hjm ho])]
        refine .inl (upon_of_got (got_mono (fun v w' ⟨hR, hv⟩ => ?_) hgot))
        have hI' := inv_stepU (hstep o.dst fuel) (hE j o ho) hl hbd hI ho hall hT hR hv
        refine ih _ _ _ ?_ (fun i hi hi2 => by rw [getD_set_ne true (by omega)]; exact hm2 i hi hi2) hI'
        have hcs := count_set (by rw [hI.size]; exact hjlt) h0
        omega

theorem dist_out : ∀ (l : List Oper) (ks : List Tmp), distB l ks = true → ∀ (i : Nat) (o : Oper) (d : Tmp), l[i]? = some o → o.dst = some d → ks.contains d = false
  | [], _, _, i, o, d, h, _ => by simp at h
  | o :: l, ks, h, 0, o', d, ho, hd => by
    simp only [List.getElem?_cons_zero, Option.some.injEq] at ho
    subst ho
    simp only [distB, hd, Bool.and_eq_true, Bool.not_eq_true'] at h
    exact h.1
  | o :: l, ks, h, i + 1, o', d, ho, hd => by
    simp only [List.getElem?_cons_succ] at ho
    cases hod : o.dst with
    | none =>
      simp only [distB, hod] at h
      exact dist_out l ks h i o' d ho hd
    | some e =>
      simp only [distB, hod, Bool.and_eq_true] at h
      have := dist_out l (e :: ks) h.2 i o' d ho hd
      simp only [List.contains_cons, Bool.or_eq_false_iff] at this
      exact this.2

theorem dist_inj : ∀ (l : List Oper) (ks : List Tmp), distB l ks = true → ∀ (i i' : Nat) (o o' : Oper) (d : Tmp), l[i]? = some o → l[i']? = some o' → o.dst = some d → o'.dst = some d → i = i'
  | [], _, _, i, _, o, _, d, h, _, _, _ => by simp at h
  | p :: l, ks, h, 0, 0, o, o', d, _, _, _, _ => rfl
  | p :: l, ks, h, 0, i' + 1, o, o', d, ho, ho', hd, hd' => by
    simp only [List.getElem?_cons_zero, Option.some.injEq, List.getElem?_cons_succ] at ho ho'
    subst ho
    simp only [distB, hd, Bool.and_eq_true] at h
    have := dist_out l _ h.2 i' o' d ho' hd'
    simp at this
  | p :: l, ks, h, i + 1, 0, o, o', d, ho, ho', hd, hd' => by
    simp only [List.getElem?_cons_zero, Option.some.injEq, List.getElem?_cons_succ] at ho ho'
    subst ho'
    simp only [distB, hd', Bool.and_eq_true] at h
    have := dist_out l _ h.2 i o d ho hd
    simp at this
  | p :: l, ks, h, i + 1, i' + 1, o, o', d, ho, ho', hd, hd' => by
    simp only [List.getElem?_cons_succ] at ho ho'
    cases hod : p.dst with
    | none =>
      simp only [distB, hod] at h
      rw [dist_inj l ks h i i' o o' d ho ho' hd hd']
    | some e =>
      simp only [distB, hod, Bool.and_eq_true] at h
      rw [dist_inj l (e :: ks) h.2 i i' o o' d ho ho' hd hd']

/-- THE LAW, with a count of the operations that are still to come: the first operations 'l' in whatever order; those behind them ('r'), each of which waits for all ahead of it, in the order of the text. -/
theorem wp_region_slots_u {P : Program} {id : Nat} {Q : Exit → Act → World → Prop} {a0 : Act} {w0 : World} {all : List Oper} (m : Nat) (N : List (List (Tmp × Bool))) (S SF : World → Prop) (SS : Nat → World → Prop) (E : Option Tmp → World → Prop) (U : Tmp → Option Tmp) (R : ReachU)
    (hm : P.follows .mixedOrders = true) (hB : tidyB all.toArray m N = true) (hz : (all.all fun o => match o.dst with | some d => decide (d < a0.tmps.size) | none => true) = true)
    (h0 : SS all.length w0.drew) (hD : distB all [] = true) (hE0 : ∀ d, E d w0.drew) (hEn : ∀ w, E none w) (hE : ∀ d d', d ≠ d' → ∀ w w', E d' w → R d w w' → E d' w') (hU : ∀ (j : Nat) (n : List (Tmp × Bool)), N[j]? = some n → ∀ x, (x, true) ∈ n → ∀ u, U x = some u → ∀ (i : Nat) (o' : Oper), all[i]? = some o' → o'.dst = some u → i = j) (hstep : ∀ d f w w', SS (f + 1) w → R d w w' → SS f w') (hSS : ∀ f w, f < all.length → SS (f + 1) w → S w) (hF : ∀ f w, f ≤ all.length → SS f w → SF w)
    (h : wpSlotsU P a0 S E U R (fun Ts => ∀ vs w, SF w → factsAtU U vs w Ts → wpList P all.toArray Q (all.drop m) (putAll vs (all.take m) a0) w) N (all.take m) []) : (Code.region id all.toArray true).wp P Q a0 w0 := by
  simp only [tidyB, Bool.and_eq_true, beq_iff_eq, decide_eq_true_eq] at hB
  obtain ⟨⟨⟨⟨⟨hdist, hguard⟩, hlen⟩, hmle⟩, hseal⟩, htab⟩ := hB
  have hops : ∀ (i : Nat) (o : Oper), all.toArray[i]? = some o → all[i]? = some o := fun i o h => by simpa using h
  have hmemo : ∀ (i : Nat) (o : Oper), all.toArray[i]? = some o → o ∈ all := fun i o h => List.mem_of_getElem? (hops i o h)
  have htk : ∀ (i : Nat) (o : Oper), i < m → all.toArray[i]? = some o → (all.take m)[i]? = some o := fun i o hi h => by rw [List.getElem?_take_of_lt hi]; exact hops i o h
  have hbd : ∀ (i : Nat) (o : Oper) (d : Tmp), all.toArray[i]? = some o → o.dst = some d → d < a0.tmps.size := fun i o d ho hd => by
    have := List.all_eq_true.1 hz o (hmemo i o ho)
    simpa [hd] using this
  obtain ⟨Tf, hfin, _, hmem, hall⟩ := collectU N (all.take m) [] h (by simpa using hdist)
  have hrow : ∀ (j : Nat) (o : Oper), all.toArray[j]? = some o → (∀ e ∈ o.after, Region.binds .any e = true → e.on < j) ∧ (j < m → ∃ n, N[j]? = some n ∧ tabRowB all.toArray j o n = true) := fun j o ho => by
    have hj := (Array.getElem?_eq_some_iff.1 ho).1
    have h1 := List.all_eq_true.1 htab j (List.mem_range.2 hj)
    rw [ho] at h1
    simp only [Bool.and_eq_true] at h1
    refine ⟨fun e he hb => ?_, fun hjm => ?_⟩
    · have h2 := Array.all_eq_true'.1 h1.1 e he
      simpa [hb] using h2
    · have hjN : j < N.length := by rw [hlen]; exact hjm
      have h2 := h1.2
      rw [List.getElem?_eq_getElem hjN] at h2
      exact ⟨_, List.getElem?_eq_getElem hjN, h2⟩
  have hback : ∀ (k : Nat) (o : Oper), (all.take m)[k]? = some o → k < m ∧ all.toArray[k]? = some o := fun k o hk => by
    have hkl := (List.getElem?_eq_some_iff.1 hk).1
    have hkm : k < m := by
      rw [List.length_take] at hkl
      omega
    rw [List.getElem?_take_of_lt hkm] at hk
    exact ⟨hkm, by simpa using hk⟩
  refine wp_region_any hm ?_
  refine any_slotsU (E := E) (U := U) (m := m) (Tf := Tf) (a0 := a0) (SS := SS) (S := S) (SF := SF) hmle hseal hstep (fun f w hf => hSS f w (by simpa using hf)) (fun f w hf => hF f w (by simpa using hf)) (fun j o ho i oi hoi hne w w' h1 h2 => ?_) (fun d p hp => ?_) hbd (fun i o hi ho => ?_) (fun i o ho => (hrow i o ho).1) (fun j o hj ho => ?_) (fun a w hSw hdef hsz hfr hold => ?_) _ _ _ _ ?_ ?_ ?_
  · by_cases hd : oi.dst = none
    · rw [hd]
      exact hEn _
    · refine hE o.dst oi.dst (fun e => ?_) _ _ h1 h2
      obtain ⟨d, hd'⟩ := Option.ne_none_iff_exists'.1 hd
      exact hne (dist_inj all [] hD i j oi o d (hops i oi hoi) (hops j o ho) hd' (e.trans hd'))
  · -- each fact lasts
    rcases hmem d p (lookup_mem hp) with h1 | ⟨_, k, o, hk, hod⟩
    · cases h1
    · obtain ⟨hkm, hk'⟩ := hback k o hk
      obtain ⟨n, hn, _⟩ := (hrow k o hk').2 hkm
      obtain ⟨T, hT, _, hT2⟩ := hall k n o hn hk
      obtain rfl := Option.some.inj ((hT2 d hod).symm.trans hp)
      rw [← hod]
      exact hT
  · have := List.all_eq_true.1 hguard o (List.mem_of_getElem? (htk i o hi ho))
    simpa using this
  · obtain ⟨n, hn, h1⟩ := (hrow j o ho).2 hj
    obtain ⟨T, _, hT1, hT2⟩ := hall j n o hn (htk j o hj ho)
    exact ⟨n, T, h1, fun x hx u hu i o' ho' hd' => hU j n hn x hx u hu i o' (hops i o' ho') hd', hT1, hT2⟩
  · obtain ⟨p1, p2, p3⟩ := putAll_spec (fun d => a.eval (.tmp d)) (all.take m) a0 (fun o ho d hd => by
      obtain ⟨i, hi, he⟩ := List.getElem_of_mem ho
      obtain ⟨_, hi'⟩ := hback i o (by rw [List.getElem?_eq_getElem hi, he])
      exact hbd i o d hi' hd)
    have e : a = putAll (fun d => a.eval (.tmp d)) (all.take m) a0 := by
      refine act_ext (hdef.trans p1.symm) (hsz.trans p2.symm) fun x => ?_
      by_cases hx : ∃ o ∈ all.take m, o.dst = some x
      · exact ((p3 x).1 hx).symm
      · rw [(p3 x).2 hx]
        exact hold x fun i o hi ho hd => hx ⟨o, List.mem_of_getElem? (htk i o hi ho), hd⟩
    rw [e]
    refine hfin _ w hSw (factsAtU_of fun d p hdp hun => ?_)
    rcases hmem d p hdp with h1 | ⟨hlk, k, o, hk, hod⟩
    · cases h1
    · obtain ⟨hkm, hk'⟩ := hback k o hk
      exact hfr k o d p hkm hk' hod hlk hun
  · simp
  · intro j _ hj
    simp at hj
    simp [hj]
  · refine ⟨by simp, by simpa using h0, fun _ _ _ _ => hE0 _, rfl, rfl, fun i o ho hli => ?_, fun i o d p ho hli => ?_, fun x _ => rfl⟩
    · rw [rep_false] at hli
      cases hli
    · rw [rep_false] at hli
      cases hli

theorem slotU_eq {P : Program} {a0 : Act} {S : World → Prop} {E : Option Tmp → World → Prop} {U : Tmp → Option Tmp} {R : ReachU} {Fin : Facts → Prop} {n : List (Tmp × Bool)} {N : List (List (Tmp × Bool))} {o : Oper} {l : List Oper} {Ts : Facts} {e : Value}
    (h : oblU P a0 S E R n o Ts (fun v _ => v = e)) (hr : wpSlotsU P a0 S E U R Fin N l (addFact o (fun v _ => v = e) Ts)) : wpSlotsU P a0 S E U R Fin (n :: N) (o :: l) Ts :=
  ⟨_, lastsU_eq _ _ _ _, h, hr⟩

theorem slotU_fact {P : Program} {a0 : Act} {S : World → Prop} {E : Option Tmp → World → Prop} {U : Tmp → Option Tmp} {R : ReachU} {Fin : Facts → Prop} {n : List (Tmp × Bool)} {N : List (List (Tmp × Bool))} {o : Oper} {l : List Oper} {Ts : Facts} (T : Fact) (hT : lastsU U R o.dst T)
    (h : oblU P a0 S E R n o Ts T) (hr : wpSlotsU P a0 S E U R Fin N l (addFact o T Ts)) : wpSlotsU P a0 S E U R Fin (n :: N) (o :: l) Ts :=
  ⟨T, hT, h, hr⟩

theorem slotU_end {P : Program} {a0 : Act} {S : World → Prop} {E : Option Tmp → World → Prop} {U : Tmp → Option Tmp} {R : ReachU} {Fin : Facts → Prop} {Ts : Facts} (h : Fin Ts) : wpSlotsU P a0 S E U R Fin [] [] Ts := h

end Go.Proofs.Ytaopkoamjfmhhaa

/- Rows of dependencies of one's own that grow. -/
namespace Go.Proofs.Ytaopkoamjfmhhaa
open Go.ChangeShapes Go.WideShapes Go.ChangeAt Go.RowKit Go.Joins

def dpVals (d : Dp) : List Value := [.int .i64 d.k, .int .i64 d.c, .int .i64 d.s, .int .i64 d.q]

theorem dps_at : ∀ (ds : List Dp) (i c : Nat), i < ds.length → c < 4 → (ds.flatMap dpVals)[i * 4 + c]? = (dpVals (ds.getD i dz))[c]?
  | [], i, c, hi, _ => by simp at hi
  | e :: r, 0, c, _, hc => by
    rw [List.flatMap_cons, List.getElem?_append_left (by simp [dpVals]; omega)]
    simp
  | e :: r, i + 1, c, hi, hc => by
    rw [List.flatMap_cons, List.getElem?_append_right (by simp [dpVals]; omega)]
    have := dps_at r i c (by simpa using hi) hc
    rw [show (i + 1) * 4 + c - (dpVals e).length = i * 4 + c by simp [dpVals]; omega, this]
    simp

/-- Dependencies of one's own, between two block numbers. -/
def OwnD (w : World) (lo hi : Nat) (a : Option Addr) (ds : List Dp) : Prop :=
  ds = [] ∨ ∃ g, a = some ⟨g, 0, none⟩ ∧ lo ≤ g ∧ g < hi ∧ g < w.heap.size ∧ HoldsDeps w g 0 ds ∧ ∀ o, w.frozen? ⟨g, o, none⟩ = false

theorem OwnD.isDeps {w : World} {lo hi : Nat} {a : Option Addr} {ds : List Dp} (h : OwnD w lo hi a ds) : IsDeps w a ds := by
  rcases h with h | ⟨g, ha, _, _, hlt, hh, _⟩
  · exact .inl h
  · exact .inr ⟨g, 0, ha, hlt, hh⟩

theorem oneD_cells (w : World) (t : Nat) (d : Dp) : ∀ j u, (dpVals d)[j]? = some u → (w.alloc (.cells #[.int .i64 d.k, .int .i64 d.c, .int .i64 d.s, .int .i64 d.q] t)).cell? ((⟨w.heap.size, 0, none⟩ : Addr).add j) = some u := by
  intro j u hu
  have e1 : (⟨w.heap.size, 0, none⟩ : Addr).add j = ⟨w.heap.size, j, none⟩ := by
    unfold Addr.add
    split
    · rename_i h
      rw [h]
    · simp
  rw [e1, cell_of_row _ _ j _ t (0, 0) (heap_alloc_new w _), ← hu]
  simp [dpVals]

theorem dp_one (d : Dp) : ∀ u ∈ dpVals d, u.oneCell' = true := by
  intro u hu
  simp only [dpVals, List.mem_cons, List.not_mem_nil, or_false] at hu
  rcases hu with rfl | rfl | rfl | rfl <;> rfl

end Go.Proofs.Ytaopkoamjfmhhaa

/- An append inside a region that draws its order; what its operations may turn. -/
namespace Go.Proofs.Ytaopkoamjfmhhaa
open Go.ChangeShapes Go.WideShapes Go.ChangeAt Go.RowKit Go.Joins

theorem add_block (g j : Nat) : ((⟨g, 0, none⟩ : Addr).add j) = ⟨g, j, none⟩ := by
  unfold Addr.add
  split
  · rename_i h
    rw [h]
  · simp

theorem got_append {P : Program} {K : Value → World → Prop} {o : Oper} {ρ : Operand → Value} {w : World} (s x : Operand) (t : TypeId)
    (ho : o.op = .call { callee := .builtin .append, args := #[s, x], argTypes := #[t, t] })
    (base : Nat) (e : TypeId) (i : TypeInfo) (z : Value) (size bytes : Nat) (ht : P.underlying t = some (.slice e)) (hi : P.info? e = some i) (hz : i.zero = some z)
    (hsize : i.size = size) (hby : i.bytes = bytes) (hzs : z.cells.size = size) (hsz : 0 < size)
    (v : Value) (n : Nat) (xs : List Value) (hs : ρ s = v) (hown : w.ownsRow base e size v n xs)
    (ad : Addr) (m c : Nat) (news : List Value) (hx : ρ x = .slice (some ad) m c) (hl : news.length = m * size) (hnews : ∀ j u, news[j]? = some u → w.cell? (ad.add j) = some u) (h1 : ∀ u ∈ news, u.oneCell' = true)
    (hm : 0 < m) (h63 : n + m ≤ maxLen) (hbytes : (n + m) * bytes ≤ 140737488355328) (hbase : base ≤ w.heap.size) (H : Nat) (hH : w.heap.size = H)
    (h : ∀ g cap w', w'.ownsRow base e size (.slice (some ⟨g, 0, none⟩) (n + m) cap) (n + m) (xs ++ news) → w.grownBy w' v.ownBlock → (v.ownBlock = some g ∨ g = H) → g < w'.heap.size → K (.slice (some ⟨g, 0, none⟩) (n + m) cap) w') : got P K ((execOp ρ o).run P w) := by
  obtain ⟨g, cap, w', hr, h2, h3, h4, h5⟩ := run_append_lies (P := P) w t o.type base e i z size bytes ht hi hz hsize hby hzs hsz v n xs hown ad m c news hl hnews h1 hm h63 hbytes hbase H hH
  unfold execOp
  simp only [ho, resolve, invoke, builtin, Sem.run_bind, Sem.run_pure, Result.andThen_ok, List.map_toArray, List.map_cons, List.map_nil, hs, hx, hr]
  exact h g cap w' h2 h3 h4 h5

/-- What an operation may turn: the append, which fills slot s, the block of its row; all others nothing that was there. -/
def AppS (s : Tmp) (ob : Option Nat) : ReachU := fun d w w' => if d = some s then w.grownBy w' ob else Below w.heap.size w w'

theorem appS_below {s : Tmp} {ob : Option Nat} {d : Option Tmp} {w w' : World} (hd : d ≠ some s) (h : AppS s ob d w w') : Below w.heap.size w w' := by
  unfold AppS at h
  rw [if_neg hd] at h
  exact h

theorem appS_refl {s : Tmp} {ob : Option Nat} {d : Option Tmp} (hd : d ≠ some s) (w : World) : AppS s ob d w w := by
  unfold AppS
  rw [if_neg hd]
  exact Below.refl _ _

theorem appS_alloc {s : Tmp} {ob : Option Nat} {d : Option Tmp} (hd : d ≠ some s) (w : World) (o : Obj) : AppS s ob d w (w.alloc o) := by
  unfold AppS
  rw [if_neg hd]
  exact (Below.refl _ _).alloc (Nat.le_refl _) _

theorem appS_grown {s : Tmp} {ob : Option Nat} {w w' : World} (h : w.grownBy w' ob) : AppS s ob (some s) w w' := by
  unfold AppS
  rw [if_pos rfl]
  exact h

theorem grown_of_below {w w' : World} (h : Below w.heap.size w w') (ob : Option Nat) : w.grownBy w' ob := ⟨h.os, h.tape, h.output, h.size, fun k hk _ => h.block k hk⟩

theorem appS_any {s : Tmp} {ob : Option Nat} {d : Option Tmp} {w w' : World} (h : AppS s ob d w w') : w.grownBy w' ob := by
  by_cases hd : d = some s
  · unfold AppS at h
    rw [if_pos hd] at h
    exact h
  · exact grown_of_below (appS_below hd h) ob

theorem grown_trans {w w' w2 : World} {ob : Option Nat} (h : w.grownBy w' ob) (h' : w'.grownBy w2 ob) : w.grownBy w2 ob :=
  ⟨h'.os.trans h.os, h'.tape.trans h.tape, h'.output.trans h.output, Nat.le_trans h.size h'.size, fun k hk hn => (h'.block k (Nat.lt_of_lt_of_le hk h.size) hn).trans (h.block k hk hn)⟩

theorem grown_set (w : World) (b o : Nat) (v : Value) : w.grownBy (w.setCell ⟨b, o, none⟩ v) (some b) := by
  refine ⟨rfl, rfl, rfl, by simp, fun k hk hne => ?_⟩
  have : b ≠ k := fun e => hne (by rw [e])
  simp [World.setCell, Array.getElem?_modify, this]

end Go.Proofs.Ytaopkoamjfmhhaa
