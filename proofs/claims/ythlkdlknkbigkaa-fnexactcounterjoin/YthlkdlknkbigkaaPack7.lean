/- Counters: the program's CounterAdd. -/
import Derived.Test.YthlkdlknkbigkaaPack6
namespace Go.Proofs.Ythlkdlknkbigkaa
open Go.ChangeShapes Go.WideShapes Go.ChangeAt Go.RowKit Go.Joins
attribute [local go_sem ↓] Go.wp_at_zero Go.wp_at_succ

def addU (us : List Int) (si n : Int) : List Int := if 0 ≤ n then us.set si.toNat (us.getD si.toNat 0 + n) else us

def addD (ds : List Int) (si n : Int) : List Int := if 0 ≤ n then ds else ds.set si.toNat (ds.getD si.toNat 0 - n)

def addOk (us ds : List Int) (si n : Int) : Bool := cntB us ds && (btw si 0 3 && (btw n (-1000000000) 1000000000 && cntB (addU us si n) (addD ds si n)))

def caU (us ds : List Int) (si n : Int) : List Int := if addOk us ds si n then addU us si n else []

def caD (us ds : List Int) (si n : Int) : List Int := if addOk us ds si n then addD ds si n else []

theorem ca_bad {us ds : List Int} {si n : Int} (h : addOk us ds si n = false) : caU us ds si n = [] ∧ caD us ds si n = [] := by
  unfold caU caD
  rw [h]
  exact ⟨rfl, rfl⟩

theorem ca_good {us ds : List Int} {si n : Int} (h : addOk us ds si n = true) : caU us ds si n = addU us si n ∧ caD us ds si n = addD ds si n := by
  unfold caU caD
  rw [h]
  exact ⟨rfl, rfl⟩

theorem addOk_bad {us ds : List Int} {si n : Int} (h : cntB us ds = false) : addOk us ds si n = false := by
  unfold addOk
  rw [h]
  rfl

theorem addOk_off {us ds : List Int} {si n : Int} (h : btw si 0 3 = false) : addOk us ds si n = false := by
  unfold addOk
  rw [h]
  simp

theorem addOk_far {us ds : List Int} {si n : Int} (h : btw n (-1000000000) 1000000000 = false) : addOk us ds si n = false := by
  unfold addOk
  rw [h]
  simp

theorem addOk_at {us ds : List Int} {si n : Int} (h : cntB us ds = true) (h1 : btw si 0 3 = true) (h2 : btw n (-1000000000) 1000000000 = true) : addOk us ds si n = cntB (addU us si n) (addD ds si n) := by
  unfold addOk
  rw [h, h1, h2]
  simp

theorem addU_up (x0 x1 x2 x3 n : Int) (q : Nat) (hq : q < 4) (h : 0 ≤ n) : addU [x0, x1, x2, x3] (q : Int) n = [tkP x0 n 0 q, tkP x1 n 1 q, tkP x2 n 2 q, tkP x3 n 3 q] := by
  unfold addU tkP
  rw [if_pos h]
  match q, hq with
  | 0, _ | 1, _ | 2, _ | 3, _ => simp

theorem addD_down (x0 x1 x2 x3 n : Int) (q : Nat) (hq : q < 4) (h : ¬ 0 ≤ n) : addD [x0, x1, x2, x3] (q : Int) n = [tkP x0 (-n) 0 q, tkP x1 (-n) 1 q, tkP x2 (-n) 2 q, tkP x3 (-n) 3 q] := by
  unfold addD tkP
  rw [if_neg h]
  match q, hq with
  | 0, _ | 1, _ | 2, _ | 3, _ => simp <;> omega

theorem tAdd_any (x0 x1 x2 x3 y0 y1 y2 y3 n : Int) (q : Nat) (hq : q < 4) (hv : cntB [x0, x1, x2, x3] [y0, y1, y2, y3] = true) (hn : btw n (-1000000000) 1000000000 = true) (w : World) :
    Calls Try.prog 32 #[taV x0 x1 x2 x3 y0 y1 y2 y3, .int .i64 (q : Int), .int .i64 n] w fun e w' => (∃ r0 r1 r2 r3 s0 s1 s2 s3, e = .returned (taV r0 r1 r2 r3 s0 s1 s2 s3) ∧ addU [x0, x1, x2, x3] (q : Int) n = [r0, r1, r2, r3] ∧ addD [y0, y1, y2, y3] (q : Int) n = [s0, s1, s2, s3]) ∧ Below w.heap.size w w' := by
  unfold cntB at hv
  rw [Bool.and_eq_true] at hv
  obtain ⟨hx0, hx1, hx2, hx3⟩ := (perB_is _ _ _ _ _).1 hv.1
  obtain ⟨hy0, hy1, hy2, hy3⟩ := (perB_is _ _ _ _ _).1 hv.2
  unfold btw at hn
  simp only [decide_eq_true_eq] at hn
  by_cases h : 0 ≤ n
  · exact (tAdd_up x0 x1 x2 x3 y0 y1 y2 y3 n q hq w hx0 hx1 hx2 hx3 h hn.2).mono fun e w' ⟨he, hb⟩ => ⟨⟨_, _, _, _, _, _, _, _, he, addU_up _ _ _ _ _ q hq h, by unfold addD; rw [if_pos h]⟩, hb⟩
  · exact (tAdd_down x0 x1 x2 x3 y0 y1 y2 y3 n q hq w hy0 hy1 hy2 hy3 (by omega) hn.1).mono fun e w' ⟨he, hb⟩ => ⟨⟨_, _, _, _, _, _, _, _, he, by unfold addU; rw [if_neg h], addD_down _ _ _ _ _ q hq h⟩, hb⟩

theorem inRangeN (n : Int) (v : Bool) (h : btw n (-1000000000) 1000000000 = v) (w : World) :
    Calls Try.prog 31 #[.int .i64 n, .int .i64 (-1000000000), .int .i64 1000000000] w fun e w' => e = .returned (.bool v) ∧ w' = w := by
  rw [← h]
  exact inRange_any n _ _ w

set_option maxRecDepth 100000 in
set_option maxHeartbeats 4000000 in
theorem implCounterAdd_any (a : Option Addr) (n cap : Nat) (b : Option Addr) (m cb : Nat) (us ds : List Int) (si nn : Int) (w : World) (hl : us.length = n) (hn : n ≤ maxLen) (hl' : ds.length = m) (hm : m ≤ maxLen) (hh : IsC w a b us ds) :
    Calls Try.prog 14 #[cntV a n cap b m cb, .int .i64 si, .int .i64 nn] w fun e w' => ∃ g cp g' cp', e = .returned (.tuple #[cntV g (caU us ds si nn).length cp g' (caD us ds si nn).length cp', .bool (addOk us ds si nn)]) ∧ OwnC w' w.heap.size w'.heap.size g g' (caU us ds si nn) (caD us ds si nn) ∧ Below w.heap.size w w' := by
  have hres : Try.f14.results = #[.cell 6 27, .tmp 7] := by kernel_rfl
  have HC := Lib.hid hh
  have HL := Lib.hid hl
  have HL' := Lib.hid hl'
  clear hh hl hl'
  cases hv : cntB us ds
  · have HV := Lib.hid hv
    have HJ := Lib.hid (addOk_bad (si := si) (n := nn) hv)
    clear hv
    go_enter Try.func14, Try.ntmps14
    go_wp2_with fail
    have HB : Hid (Below w.heap.size w ((w.alloc (.cells #[.slice a n cap, .slice b m cb] 27)).alloc (.cells #[.slice none 0 0, .slice none 0 0] 27))) := (((Below.refl _ _).alloc (Nat.le_refl _) _).alloc (by simp) _)
    have cb1_0 : ((w.alloc (.cells #[.slice a n cap, .slice b m cb] 27)).alloc (.cells #[.slice none 0 0, .slice none 0 0] 27)).cell? ⟨w.heap.size, 0, none⟩ = some (.slice a n cap) := by go_simp
    have cb1_1 : ((w.alloc (.cells #[.slice a n cap, .slice b m cb] 27)).alloc (.cells #[.slice none 0 0, .slice none 0 0] 27)).cell? ⟨w.heap.size, 1, none⟩ = some (.slice b m cb) := by go_simp
    have zb1 : w.heap.size < ((w.alloc (.cells #[.slice a n cap, .slice b m cb] 27)).alloc (.cells #[.slice none 0 0, .slice none 0 0] 27)).heap.size := by simp <;> omega
    have cr_0 : ((w.alloc (.cells #[.slice a n cap, .slice b m cb] 27)).alloc (.cells #[.slice none 0 0, .slice none 0 0] 27)).cell? ⟨w.heap.size + 1, 0, none⟩ = some (.slice none 0 0) := by go_simp
    have cr_1 : ((w.alloc (.cells #[.slice a n cap, .slice b m cb] 27)).alloc (.cells #[.slice none 0 0, .slice none 0 0] 27)).cell? ⟨w.heap.size + 1, 1, none⟩ = some (.slice none 0 0) := by go_simp
    have zr : w.heap.size + 1 < ((w.alloc (.cells #[.slice a n cap, .slice b m cb] 27)).alloc (.cells #[.slice none 0 0, .slice none 0 0] 27)).heap.size := by simp
    have fr : Hid (∀ o, ((w.alloc (.cells #[.slice a n cap, .slice b m cb] 27)).alloc (.cells #[.slice none 0 0, .slice none 0 0] 27)).frozen? ⟨w.heap.size + 1, o, none⟩ = false) := fun o => by go_simp
    have hsV0 : w.heap.size + 1 < ((w.alloc (.cells #[.slice a n cap, .slice b m cb] 27)).alloc (.cells #[.slice none 0 0, .slice none 0 0] 27)).heap.size := by simp
    generalize ((w.alloc (.cells #[.slice a n cap, .slice b m cb] 27)).alloc (.cells #[.slice none 0 0, .slice none 0 0] 27)) = V0 at *
    refine (tallyOf_bad a n cap b m cb us ds _ HL.out hn HL'.out hm (HC.out.below HB.out) HV.out).mono ?_
    rintro e w1 ⟨⟨p0, p1, p2, p3, p4, p5, p6, p7, rfl⟩, hb⟩
    have hsw1 : V0.heap.size ≤ w1.heap.size := hb.size
    replace cb1_0 := cells_of hb zb1 cb1_0
    replace cb1_1 := cells_of hb zb1 cb1_1
    replace zb1 := Nat.lt_of_lt_of_le zb1 hb.size
    replace fr := Lib.hid (fun o => (hb.frozen (p := ⟨w.heap.size + 1, o, none⟩) zr).trans (fr.out o))
    replace cr_0 := cells_of hb zr cr_0
    replace cr_1 := cells_of hb zr cr_1
    replace zr := Nat.lt_of_lt_of_le zr hb.size
    replace HB := Lib.hid (below_step HB.out HB.out.size hb)
    clear hb
    have hrr := fr.out
    go_wp2
    refine bodyPost_ret (v := .tuple #[cntV none 0 0 none 0 0, .bool false]) ?_ rfl ?_
    · simp only [results, hres]
      go_simp
    · rw [(ca_bad HJ.out).1, (ca_bad HJ.out).2, HJ.out]
      refine ⟨none, 0, none, 0, rfl, OwnC.nil ?_, ?_⟩
      · simp
        omega
      · exact ((HB.out.setCell (p := ⟨w.heap.size + 1, 0, none⟩) (Nat.le_add_right _ 1) _).setCell (p := ⟨w.heap.size + 1, 1, none⟩) (Nat.le_add_right _ 1) _).alloc (by simpa using HB.out.size) _
  · obtain ⟨x0, x1, x2, x3, y0, y1, y2, y3, rfl, rfl, -⟩ := cntB_four hv
    have hn4 : n = 4 := HL.out.symm
    subst hn4
    have hm4 : m = 4 := HL'.out.symm
    subst hm4
    have HV := Lib.hid hv
    cases hs : btw si 0 3
    · have HJ := Lib.hid (addOk_off (us := [x0, x1, x2, x3]) (ds := [y0, y1, y2, y3]) (n := nn) hs)
      have HS : Hid (∀ W, Calls Try.prog 30 #[.int .i64 si] W fun e w' => e = .returned (.bool false) ∧ w' = W) := fun W => by
        rw [← hs]
        exact isSite_any si W
      clear hv hs
      go_enter Try.func14, Try.ntmps14
      go_wp2_with fail
      have HB : Hid (Below w.heap.size w ((w.alloc (.cells #[.slice a 4 cap, .slice b 4 cb] 27)).alloc (.cells #[.slice none 0 0, .slice none 0 0] 27))) := (((Below.refl _ _).alloc (Nat.le_refl _) _).alloc (by simp) _)
      have cb1_0 : ((w.alloc (.cells #[.slice a 4 cap, .slice b 4 cb] 27)).alloc (.cells #[.slice none 0 0, .slice none 0 0] 27)).cell? ⟨w.heap.size, 0, none⟩ = some (.slice a 4 cap) := by go_simp
      have cb1_1 : ((w.alloc (.cells #[.slice a 4 cap, .slice b 4 cb] 27)).alloc (.cells #[.slice none 0 0, .slice none 0 0] 27)).cell? ⟨w.heap.size, 1, none⟩ = some (.slice b 4 cb) := by go_simp
      have zb1 : w.heap.size < ((w.alloc (.cells #[.slice a 4 cap, .slice b 4 cb] 27)).alloc (.cells #[.slice none 0 0, .slice none 0 0] 27)).heap.size := by simp <;> omega
      have cr_0 : ((w.alloc (.cells #[.slice a 4 cap, .slice b 4 cb] 27)).alloc (.cells #[.slice none 0 0, .slice none 0 0] 27)).cell? ⟨w.heap.size + 1, 0, none⟩ = some (.slice none 0 0) := by go_simp
      have cr_1 : ((w.alloc (.cells #[.slice a 4 cap, .slice b 4 cb] 27)).alloc (.cells #[.slice none 0 0, .slice none 0 0] 27)).cell? ⟨w.heap.size + 1, 1, none⟩ = some (.slice none 0 0) := by go_simp
      have zr : w.heap.size + 1 < ((w.alloc (.cells #[.slice a 4 cap, .slice b 4 cb] 27)).alloc (.cells #[.slice none 0 0, .slice none 0 0] 27)).heap.size := by simp
      have fr : Hid (∀ o, ((w.alloc (.cells #[.slice a 4 cap, .slice b 4 cb] 27)).alloc (.cells #[.slice none 0 0, .slice none 0 0] 27)).frozen? ⟨w.heap.size + 1, o, none⟩ = false) := fun o => by go_simp
      have hsV0 : w.heap.size + 1 < ((w.alloc (.cells #[.slice a 4 cap, .slice b 4 cb] 27)).alloc (.cells #[.slice none 0 0, .slice none 0 0] 27)).heap.size := by simp
      generalize ((w.alloc (.cells #[.slice a 4 cap, .slice b 4 cb] 27)).alloc (.cells #[.slice none 0 0, .slice none 0 0] 27)) = V0 at *
      refine (tallyOf_good a cap b cb x0 x1 x2 x3 y0 y1 y2 y3 _ (HC.out.below HB.out) HV.out).mono ?_
      rintro e w1 ⟨rfl, hb⟩
      have hsw1 : V0.heap.size ≤ w1.heap.size := hb.size
      replace cb1_0 := cells_of hb zb1 cb1_0
      replace cb1_1 := cells_of hb zb1 cb1_1
      replace zb1 := Nat.lt_of_lt_of_le zb1 hb.size
      replace fr := Lib.hid (fun o => (hb.frozen (p := ⟨w.heap.size + 1, o, none⟩) zr).trans (fr.out o))
      replace cr_0 := cells_of hb zr cr_0
      replace cr_1 := cells_of hb zr cr_1
      replace zr := Nat.lt_of_lt_of_le zr hb.size
      replace HB := Lib.hid (below_step HB.out HB.out.size hb)
      clear hb
      go_wp2_with fail
      have hA : Below w1.heap.size w1 (w1.alloc (.cells #[.int .i64 x0, .int .i64 x1, .int .i64 x2, .int .i64 x3, .int .i64 y0, .int .i64 y1, .int .i64 y2, .int .i64 y3] 44)) := (Below.refl _ _).alloc (Nat.le_refl _) _
      replace cb1_0 := cells_of hA zb1 cb1_0
      replace cb1_1 := cells_of hA zb1 cb1_1
      replace zb1 := Nat.lt_of_lt_of_le zb1 hA.size
      replace fr := Lib.hid (fun o => (hA.frozen (p := ⟨w.heap.size + 1, o, none⟩) zr).trans (fr.out o))
      replace cr_0 := cells_of hA zr cr_0
      replace cr_1 := cells_of hA zr cr_1
      replace zr := Nat.lt_of_lt_of_le zr hA.size
      replace HB := Lib.hid (below_step HB.out HB.out.size hA)
      clear hA
      have ct1_0 : (w1.alloc (.cells #[.int .i64 x0, .int .i64 x1, .int .i64 x2, .int .i64 x3, .int .i64 y0, .int .i64 y1, .int .i64 y2, .int .i64 y3] 44)).cell? ⟨w1.heap.size, 0, none⟩ = some (.int .i64 x0) := by go_simp
      have ct1_1 : (w1.alloc (.cells #[.int .i64 x0, .int .i64 x1, .int .i64 x2, .int .i64 x3, .int .i64 y0, .int .i64 y1, .int .i64 y2, .int .i64 y3] 44)).cell? ⟨w1.heap.size, 1, none⟩ = some (.int .i64 x1) := by go_simp
      have ct1_2 : (w1.alloc (.cells #[.int .i64 x0, .int .i64 x1, .int .i64 x2, .int .i64 x3, .int .i64 y0, .int .i64 y1, .int .i64 y2, .int .i64 y3] 44)).cell? ⟨w1.heap.size, 2, none⟩ = some (.int .i64 x2) := by go_simp
      have ct1_3 : (w1.alloc (.cells #[.int .i64 x0, .int .i64 x1, .int .i64 x2, .int .i64 x3, .int .i64 y0, .int .i64 y1, .int .i64 y2, .int .i64 y3] 44)).cell? ⟨w1.heap.size, 3, none⟩ = some (.int .i64 x3) := by go_simp
      have ct1_4 : (w1.alloc (.cells #[.int .i64 x0, .int .i64 x1, .int .i64 x2, .int .i64 x3, .int .i64 y0, .int .i64 y1, .int .i64 y2, .int .i64 y3] 44)).cell? ⟨w1.heap.size, 4, none⟩ = some (.int .i64 y0) := by go_simp
      have ct1_5 : (w1.alloc (.cells #[.int .i64 x0, .int .i64 x1, .int .i64 x2, .int .i64 x3, .int .i64 y0, .int .i64 y1, .int .i64 y2, .int .i64 y3] 44)).cell? ⟨w1.heap.size, 5, none⟩ = some (.int .i64 y1) := by go_simp
      have ct1_6 : (w1.alloc (.cells #[.int .i64 x0, .int .i64 x1, .int .i64 x2, .int .i64 x3, .int .i64 y0, .int .i64 y1, .int .i64 y2, .int .i64 y3] 44)).cell? ⟨w1.heap.size, 6, none⟩ = some (.int .i64 y2) := by go_simp
      have ct1_7 : (w1.alloc (.cells #[.int .i64 x0, .int .i64 x1, .int .i64 x2, .int .i64 x3, .int .i64 y0, .int .i64 y1, .int .i64 y2, .int .i64 y3] 44)).cell? ⟨w1.heap.size, 7, none⟩ = some (.int .i64 y3) := by go_simp
      have zt1 : w1.heap.size < (w1.alloc (.cells #[.int .i64 x0, .int .i64 x1, .int .i64 x2, .int .i64 x3, .int .i64 y0, .int .i64 y1, .int .i64 y2, .int .i64 y3] 44)).heap.size := by simp
      have hsV1 : w1.heap.size < (w1.alloc (.cells #[.int .i64 x0, .int .i64 x1, .int .i64 x2, .int .i64 x3, .int .i64 y0, .int .i64 y1, .int .i64 y2, .int .i64 y3] 44)).heap.size := by simp
      generalize (w1.alloc (.cells #[.int .i64 x0, .int .i64 x1, .int .i64 x2, .int .i64 x3, .int .i64 y0, .int .i64 y1, .int .i64 y2, .int .i64 y3] 44)) = V1 at *
      refine (HS.out _).mono ?_
      rintro e wz ⟨rfl, hwz⟩
      subst wz
      have hrr := fr.out
      go_wp2
      refine bodyPost_ret (v := .tuple #[cntV none 0 0 none 0 0, .bool false]) ?_ rfl ?_
      · simp only [results, hres]
        go_simp
      · rw [(ca_bad HJ.out).1, (ca_bad HJ.out).2, HJ.out]
        refine ⟨none, 0, none, 0, rfl, OwnC.nil ?_, ?_⟩
        · simp
          omega
        · exact (HB.out.setCell (p := ⟨w.heap.size + 1, 0, none⟩) (Nat.le_add_right _ 1) _).setCell (p := ⟨w.heap.size + 1, 1, none⟩) (Nat.le_add_right _ 1) _
    · obtain ⟨q, hq, rfl⟩ : ∃ q : Nat, q < 4 ∧ si = (q : Int) := ⟨si.toNat, by have := btw_site hs; omega, by have := btw_site hs; omega⟩
      have HS : Hid (∀ W, Calls Try.prog 30 #[.int .i64 (q : Int)] W fun e w' => e = .returned (.bool true) ∧ w' = W) := fun W => by
        rw [← hs]
        exact isSite_any (q : Int) W
      cases hr : btw nn (-1000000000) 1000000000
      · have HJ := Lib.hid (addOk_far (us := [x0, x1, x2, x3]) (ds := [y0, y1, y2, y3]) (si := (q : Int)) hr)
        have HN := Lib.hid (inRangeN nn _ hr)
        clear hv hs hr
        go_enter Try.func14, Try.ntmps14
        go_wp2_with fail
        have HB : Hid (Below w.heap.size w ((w.alloc (.cells #[.slice a 4 cap, .slice b 4 cb] 27)).alloc (.cells #[.slice none 0 0, .slice none 0 0] 27))) := (((Below.refl _ _).alloc (Nat.le_refl _) _).alloc (by simp) _)
        have cb1_0 : ((w.alloc (.cells #[.slice a 4 cap, .slice b 4 cb] 27)).alloc (.cells #[.slice none 0 0, .slice none 0 0] 27)).cell? ⟨w.heap.size, 0, none⟩ = some (.slice a 4 cap) := by go_simp
        have cb1_1 : ((w.alloc (.cells #[.slice a 4 cap, .slice b 4 cb] 27)).alloc (.cells #[.slice none 0 0, .slice none 0 0] 27)).cell? ⟨w.heap.size, 1, none⟩ = some (.slice b 4 cb) := by go_simp
        have zb1 : w.heap.size < ((w.alloc (.cells #[.slice a 4 cap, .slice b 4 cb] 27)).alloc (.cells #[.slice none 0 0, .slice none 0 0] 27)).heap.size := by simp <;> omega
        have cr_0 : ((w.alloc (.cells #[.slice a 4 cap, .slice b 4 cb] 27)).alloc (.cells #[.slice none 0 0, .slice none 0 0] 27)).cell? ⟨w.heap.size + 1, 0, none⟩ = some (.slice none 0 0) := by go_simp
        have cr_1 : ((w.alloc (.cells #[.slice a 4 cap, .slice b 4 cb] 27)).alloc (.cells #[.slice none 0 0, .slice none 0 0] 27)).cell? ⟨w.heap.size + 1, 1, none⟩ = some (.slice none 0 0) := by go_simp
        have zr : w.heap.size + 1 < ((w.alloc (.cells #[.slice a 4 cap, .slice b 4 cb] 27)).alloc (.cells #[.slice none 0 0, .slice none 0 0] 27)).heap.size := by simp
        have fr : Hid (∀ o, ((w.alloc (.cells #[.slice a 4 cap, .slice b 4 cb] 27)).alloc (.cells #[.slice none 0 0, .slice none 0 0] 27)).frozen? ⟨w.heap.size + 1, o, none⟩ = false) := fun o => by go_simp
        have hsV0 : w.heap.size + 1 < ((w.alloc (.cells #[.slice a 4 cap, .slice b 4 cb] 27)).alloc (.cells #[.slice none 0 0, .slice none 0 0] 27)).heap.size := by simp
        generalize ((w.alloc (.cells #[.slice a 4 cap, .slice b 4 cb] 27)).alloc (.cells #[.slice none 0 0, .slice none 0 0] 27)) = V0 at *
        refine (tallyOf_good a cap b cb x0 x1 x2 x3 y0 y1 y2 y3 _ (HC.out.below HB.out) HV.out).mono ?_
        rintro e w1 ⟨rfl, hb⟩
        have hsw1 : V0.heap.size ≤ w1.heap.size := hb.size
        replace cb1_0 := cells_of hb zb1 cb1_0
        replace cb1_1 := cells_of hb zb1 cb1_1
        replace zb1 := Nat.lt_of_lt_of_le zb1 hb.size
        replace fr := Lib.hid (fun o => (hb.frozen (p := ⟨w.heap.size + 1, o, none⟩) zr).trans (fr.out o))
        replace cr_0 := cells_of hb zr cr_0
        replace cr_1 := cells_of hb zr cr_1
        replace zr := Nat.lt_of_lt_of_le zr hb.size
        replace HB := Lib.hid (below_step HB.out HB.out.size hb)
        clear hb
        go_wp2_with fail
        have hA : Below w1.heap.size w1 (w1.alloc (.cells #[.int .i64 x0, .int .i64 x1, .int .i64 x2, .int .i64 x3, .int .i64 y0, .int .i64 y1, .int .i64 y2, .int .i64 y3] 44)) := (Below.refl _ _).alloc (Nat.le_refl _) _
        replace cb1_0 := cells_of hA zb1 cb1_0
        replace cb1_1 := cells_of hA zb1 cb1_1
        replace zb1 := Nat.lt_of_lt_of_le zb1 hA.size
        replace fr := Lib.hid (fun o => (hA.frozen (p := ⟨w.heap.size + 1, o, none⟩) zr).trans (fr.out o))
        replace cr_0 := cells_of hA zr cr_0
        replace cr_1 := cells_of hA zr cr_1
        replace zr := Nat.lt_of_lt_of_le zr hA.size
        replace HB := Lib.hid (below_step HB.out HB.out.size hA)
        clear hA
        have ct1_0 : (w1.alloc (.cells #[.int .i64 x0, .int .i64 x1, .int .i64 x2, .int .i64 x3, .int .i64 y0, .int .i64 y1, .int .i64 y2, .int .i64 y3] 44)).cell? ⟨w1.heap.size, 0, none⟩ = some (.int .i64 x0) := by go_simp
        have ct1_1 : (w1.alloc (.cells #[.int .i64 x0, .int .i64 x1, .int .i64 x2, .int .i64 x3, .int .i64 y0, .int .i64 y1, .int .i64 y2, .int .i64 y3] 44)).cell? ⟨w1.heap.size, 1, none⟩ = some (.int .i64 x1) := by go_simp
        have ct1_2 : (w1.alloc (.cells #[.int .i64 x0, .int .i64 x1, .int .i64 x2, .int .i64 x3, .int .i64 y0, .int .i64 y1, .int .i64 y2, .int .i64 y3] 44)).cell? ⟨w1.heap.size, 2, none⟩ = some (.int .i64 x2) := by go_simp
        have ct1_3 : (w1.alloc (.cells #[.int .i64 x0, .int .i64 x1, .int .i64 x2, .int .i64 x3, .int .i64 y0, .int .i64 y1, .int .i64 y2, .int .i64 y3] 44)).cell? ⟨w1.heap.size, 3, none⟩ = some (.int .i64 x3) := by go_simp
        have ct1_4 : (w1.alloc (.cells #[.int .i64 x0, .int .i64 x1, .int .i64 x2, .int .i64 x3, .int .i64 y0, .int .i64 y1, .int .i64 y2, .int .i64 y3] 44)).cell? ⟨w1.heap.size, 4, none⟩ = some (.int .i64 y0) := by go_simp
        have ct1_5 : (w1.alloc (.cells #[.int .i64 x0, .int .i64 x1, .int .i64 x2, .int .i64 x3, .int .i64 y0, .int .i64 y1, .int .i64 y2, .int .i64 y3] 44)).cell? ⟨w1.heap.size, 5, none⟩ = some (.int .i64 y1) := by go_simp
        have ct1_6 : (w1.alloc (.cells #[.int .i64 x0, .int .i64 x1, .int .i64 x2, .int .i64 x3, .int .i64 y0, .int .i64 y1, .int .i64 y2, .int .i64 y3] 44)).cell? ⟨w1.heap.size, 6, none⟩ = some (.int .i64 y2) := by go_simp
        have ct1_7 : (w1.alloc (.cells #[.int .i64 x0, .int .i64 x1, .int .i64 x2, .int .i64 x3, .int .i64 y0, .int .i64 y1, .int .i64 y2, .int .i64 y3] 44)).cell? ⟨w1.heap.size, 7, none⟩ = some (.int .i64 y3) := by go_simp
        have zt1 : w1.heap.size < (w1.alloc (.cells #[.int .i64 x0, .int .i64 x1, .int .i64 x2, .int .i64 x3, .int .i64 y0, .int .i64 y1, .int .i64 y2, .int .i64 y3] 44)).heap.size := by simp
        have hsV1 : w1.heap.size < (w1.alloc (.cells #[.int .i64 x0, .int .i64 x1, .int .i64 x2, .int .i64 x3, .int .i64 y0, .int .i64 y1, .int .i64 y2, .int .i64 y3] 44)).heap.size := by simp
        generalize (w1.alloc (.cells #[.int .i64 x0, .int .i64 x1, .int .i64 x2, .int .i64 x3, .int .i64 y0, .int .i64 y1, .int .i64 y2, .int .i64 y3] 44)) = V1 at *
        refine (HS.out _).mono ?_
        rintro e wz ⟨rfl, hwz⟩
        subst wz
        go_wp2_with fail
        refine (HN.out _).mono ?_
        rintro e wz ⟨rfl, hwz⟩
        subst wz
        have hrr := fr.out
        go_wp2
        refine bodyPost_ret (v := .tuple #[cntV none 0 0 none 0 0, .bool false]) ?_ rfl ?_
        · simp only [results, hres]
          go_simp
        · rw [(ca_bad HJ.out).1, (ca_bad HJ.out).2, HJ.out]
          refine ⟨none, 0, none, 0, rfl, OwnC.nil ?_, ?_⟩
          · simp
            omega
          · exact (HB.out.setCell (p := ⟨w.heap.size + 1, 0, none⟩) (Nat.le_add_right _ 1) _).setCell (p := ⟨w.heap.size + 1, 1, none⟩) (Nat.le_add_right _ 1) _
      · have HJ := Lib.hid (addOk_at hv hs hr)
        have HN := Lib.hid (inRangeN nn _ hr)
        have HT := Lib.hid (tAdd_any x0 x1 x2 x3 y0 y1 y2 y3 nn q hq hv hr)
        clear hv hs hr
        go_enter Try.func14, Try.ntmps14
        go_wp2_with fail
        have HB : Hid (Below w.heap.size w ((w.alloc (.cells #[.slice a 4 cap, .slice b 4 cb] 27)).alloc (.cells #[.slice none 0 0, .slice none 0 0] 27))) := (((Below.refl _ _).alloc (Nat.le_refl _) _).alloc (by simp) _)
        have cb1_0 : ((w.alloc (.cells #[.slice a 4 cap, .slice b 4 cb] 27)).alloc (.cells #[.slice none 0 0, .slice none 0 0] 27)).cell? ⟨w.heap.size, 0, none⟩ = some (.slice a 4 cap) := by go_simp
        have cb1_1 : ((w.alloc (.cells #[.slice a 4 cap, .slice b 4 cb] 27)).alloc (.cells #[.slice none 0 0, .slice none 0 0] 27)).cell? ⟨w.heap.size, 1, none⟩ = some (.slice b 4 cb) := by go_simp
        have zb1 : w.heap.size < ((w.alloc (.cells #[.slice a 4 cap, .slice b 4 cb] 27)).alloc (.cells #[.slice none 0 0, .slice none 0 0] 27)).heap.size := by simp <;> omega
        have cr_0 : ((w.alloc (.cells #[.slice a 4 cap, .slice b 4 cb] 27)).alloc (.cells #[.slice none 0 0, .slice none 0 0] 27)).cell? ⟨w.heap.size + 1, 0, none⟩ = some (.slice none 0 0) := by go_simp
        have cr_1 : ((w.alloc (.cells #[.slice a 4 cap, .slice b 4 cb] 27)).alloc (.cells #[.slice none 0 0, .slice none 0 0] 27)).cell? ⟨w.heap.size + 1, 1, none⟩ = some (.slice none 0 0) := by go_simp
        have zr : w.heap.size + 1 < ((w.alloc (.cells #[.slice a 4 cap, .slice b 4 cb] 27)).alloc (.cells #[.slice none 0 0, .slice none 0 0] 27)).heap.size := by simp
        have fr : Hid (∀ o, ((w.alloc (.cells #[.slice a 4 cap, .slice b 4 cb] 27)).alloc (.cells #[.slice none 0 0, .slice none 0 0] 27)).frozen? ⟨w.heap.size + 1, o, none⟩ = false) := fun o => by go_simp
        have hsV0 : w.heap.size + 1 < ((w.alloc (.cells #[.slice a 4 cap, .slice b 4 cb] 27)).alloc (.cells #[.slice none 0 0, .slice none 0 0] 27)).heap.size := by simp
        generalize ((w.alloc (.cells #[.slice a 4 cap, .slice b 4 cb] 27)).alloc (.cells #[.slice none 0 0, .slice none 0 0] 27)) = V0 at *
        refine (tallyOf_good a cap b cb x0 x1 x2 x3 y0 y1 y2 y3 _ (HC.out.below HB.out) HV.out).mono ?_
        rintro e w1 ⟨rfl, hb⟩
        have hsw1 : V0.heap.size ≤ w1.heap.size := hb.size
        replace cb1_0 := cells_of hb zb1 cb1_0
        replace cb1_1 := cells_of hb zb1 cb1_1
        replace zb1 := Nat.lt_of_lt_of_le zb1 hb.size
        replace fr := Lib.hid (fun o => (hb.frozen (p := ⟨w.heap.size + 1, o, none⟩) zr).trans (fr.out o))
        replace cr_0 := cells_of hb zr cr_0
        replace cr_1 := cells_of hb zr cr_1
        replace zr := Nat.lt_of_lt_of_le zr hb.size
        replace HB := Lib.hid (below_step HB.out HB.out.size hb)
        clear hb
        go_wp2_with fail
        have hA : Below w1.heap.size w1 (w1.alloc (.cells #[.int .i64 x0, .int .i64 x1, .int .i64 x2, .int .i64 x3, .int .i64 y0, .int .i64 y1, .int .i64 y2, .int .i64 y3] 44)) := (Below.refl _ _).alloc (Nat.le_refl _) _
        replace cb1_0 := cells_of hA zb1 cb1_0
        replace cb1_1 := cells_of hA zb1 cb1_1
        replace zb1 := Nat.lt_of_lt_of_le zb1 hA.size
        replace fr := Lib.hid (fun o => (hA.frozen (p := ⟨w.heap.size + 1, o, none⟩) zr).trans (fr.out o))
        replace cr_0 := cells_of hA zr cr_0
        replace cr_1 := cells_of hA zr cr_1
        replace zr := Nat.lt_of_lt_of_le zr hA.size
        replace HB := Lib.hid (below_step HB.out HB.out.size hA)
        clear hA
        have ct1_0 : (w1.alloc (.cells #[.int .i64 x0, .int .i64 x1, .int .i64 x2, .int .i64 x3, .int .i64 y0, .int .i64 y1, .int .i64 y2, .int .i64 y3] 44)).cell? ⟨w1.heap.size, 0, none⟩ = some (.int .i64 x0) := by go_simp
        have ct1_1 : (w1.alloc (.cells #[.int .i64 x0, .int .i64 x1, .int .i64 x2, .int .i64 x3, .int .i64 y0, .int .i64 y1, .int .i64 y2, .int .i64 y3] 44)).cell? ⟨w1.heap.size, 1, none⟩ = some (.int .i64 x1) := by go_simp
        have ct1_2 : (w1.alloc (.cells #[.int .i64 x0, .int .i64 x1, .int .i64 x2, .int .i64 x3, .int .i64 y0, .int .i64 y1, .int .i64 y2, .int .i64 y3] 44)).cell? ⟨w1.heap.size, 2, none⟩ = some (.int .i64 x2) := by go_simp
        have ct1_3 : (w1.alloc (.cells #[.int .i64 x0, .int .i64 x1, .int .i64 x2, .int .i64 x3, .int .i64 y0, .int .i64 y1, .int .i64 y2, .int .i64 y3] 44)).cell? ⟨w1.heap.size, 3, none⟩ = some (.int .i64 x3) := by go_simp
        have ct1_4 : (w1.alloc (.cells #[.int .i64 x0, .int .i64 x1, .int .i64 x2, .int .i64 x3, .int .i64 y0, .int .i64 y1, .int .i64 y2, .int .i64 y3] 44)).cell? ⟨w1.heap.size, 4, none⟩ = some (.int .i64 y0) := by go_simp
        have ct1_5 : (w1.alloc (.cells #[.int .i64 x0, .int .i64 x1, .int .i64 x2, .int .i64 x3, .int .i64 y0, .int .i64 y1, .int .i64 y2, .int .i64 y3] 44)).cell? ⟨w1.heap.size, 5, none⟩ = some (.int .i64 y1) := by go_simp
        have ct1_6 : (w1.alloc (.cells #[.int .i64 x0, .int .i64 x1, .int .i64 x2, .int .i64 x3, .int .i64 y0, .int .i64 y1, .int .i64 y2, .int .i64 y3] 44)).cell? ⟨w1.heap.size, 6, none⟩ = some (.int .i64 y2) := by go_simp
        have ct1_7 : (w1.alloc (.cells #[.int .i64 x0, .int .i64 x1, .int .i64 x2, .int .i64 x3, .int .i64 y0, .int .i64 y1, .int .i64 y2, .int .i64 y3] 44)).cell? ⟨w1.heap.size, 7, none⟩ = some (.int .i64 y3) := by go_simp
        have zt1 : w1.heap.size < (w1.alloc (.cells #[.int .i64 x0, .int .i64 x1, .int .i64 x2, .int .i64 x3, .int .i64 y0, .int .i64 y1, .int .i64 y2, .int .i64 y3] 44)).heap.size := by simp
        have hsV1 : w1.heap.size < (w1.alloc (.cells #[.int .i64 x0, .int .i64 x1, .int .i64 x2, .int .i64 x3, .int .i64 y0, .int .i64 y1, .int .i64 y2, .int .i64 y3] 44)).heap.size := by simp
        generalize (w1.alloc (.cells #[.int .i64 x0, .int .i64 x1, .int .i64 x2, .int .i64 x3, .int .i64 y0, .int .i64 y1, .int .i64 y2, .int .i64 y3] 44)) = V1 at *
        refine (HS.out _).mono ?_
        rintro e wz ⟨rfl, hwz⟩
        subst wz
        go_wp2_with fail
        refine (HN.out _).mono ?_
        rintro e wz ⟨rfl, hwz⟩
        subst wz
        go_wp2_with fail
        refine (HT.out _).mono ?_
        rintro e w2 ⟨⟨r0, r1, r2, r3, s0, s1, s2, s3, rfl, hu, hd⟩, hb⟩
        have hsw2 : V1.heap.size ≤ w2.heap.size := hb.size
        replace cb1_0 := cells_of hb zb1 cb1_0
        replace cb1_1 := cells_of hb zb1 cb1_1
        replace zb1 := Nat.lt_of_lt_of_le zb1 hb.size
        replace fr := Lib.hid (fun o => (hb.frozen (p := ⟨w.heap.size + 1, o, none⟩) zr).trans (fr.out o))
        replace cr_0 := cells_of hb zr cr_0
        replace cr_1 := cells_of hb zr cr_1
        replace zr := Nat.lt_of_lt_of_le zr hb.size
        replace ct1_0 := cells_of hb zt1 ct1_0
        replace ct1_1 := cells_of hb zt1 ct1_1
        replace ct1_2 := cells_of hb zt1 ct1_2
        replace ct1_3 := cells_of hb zt1 ct1_3
        replace ct1_4 := cells_of hb zt1 ct1_4
        replace ct1_5 := cells_of hb zt1 ct1_5
        replace ct1_6 := cells_of hb zt1 ct1_6
        replace ct1_7 := cells_of hb zt1 ct1_7
        replace zt1 := Nat.lt_of_lt_of_le zt1 hb.size
        replace HB := Lib.hid (below_step HB.out HB.out.size hb)
        have HU := Lib.hid hu
        have HD := Lib.hid hd
        clear hu hd
        clear hb
        go_wp2_with fail
        refine (tCounter_any r0 r1 r2 r3 s0 s1 s2 s3 _).mono ?_
        rintro e w3 ⟨g, g', rfl, ho, hb⟩
        have hsw3 : w2.heap.size ≤ w3.heap.size := hb.size
        replace cb1_0 := cells_of hb zb1 cb1_0
        replace cb1_1 := cells_of hb zb1 cb1_1
        replace zb1 := Nat.lt_of_lt_of_le zb1 hb.size
        replace fr := Lib.hid (fun o => (hb.frozen (p := ⟨w.heap.size + 1, o, none⟩) zr).trans (fr.out o))
        replace cr_0 := cells_of hb zr cr_0
        replace cr_1 := cells_of hb zr cr_1
        replace zr := Nat.lt_of_lt_of_le zr hb.size
        replace ct1_0 := cells_of hb zt1 ct1_0
        replace ct1_1 := cells_of hb zt1 ct1_1
        replace ct1_2 := cells_of hb zt1 ct1_2
        replace ct1_3 := cells_of hb zt1 ct1_3
        replace ct1_4 := cells_of hb zt1 ct1_4
        replace ct1_5 := cells_of hb zt1 ct1_5
        replace ct1_6 := cells_of hb zt1 ct1_6
        replace ct1_7 := cells_of hb zt1 ct1_7
        replace zt1 := Nat.lt_of_lt_of_le zt1 hb.size
        replace HB := Lib.hid (below_step HB.out HB.out.size hb)
        have HO := Lib.hid ho
        clear ho
        clear hb
        go_wp2_with fail
        have hA : Below w3.heap.size w3 (w3.alloc (.cells #[.slice (some ⟨g, 0, none⟩) 4 4, .slice (some ⟨g', 0, none⟩) 4 4] 27)) := (Below.refl _ _).alloc (Nat.le_refl _) _
        replace cb1_0 := cells_of hA zb1 cb1_0
        replace cb1_1 := cells_of hA zb1 cb1_1
        replace zb1 := Nat.lt_of_lt_of_le zb1 hA.size
        replace fr := Lib.hid (fun o => (hA.frozen (p := ⟨w.heap.size + 1, o, none⟩) zr).trans (fr.out o))
        replace cr_0 := cells_of hA zr cr_0
        replace cr_1 := cells_of hA zr cr_1
        replace zr := Nat.lt_of_lt_of_le zr hA.size
        replace ct1_0 := cells_of hA zt1 ct1_0
        replace ct1_1 := cells_of hA zt1 ct1_1
        replace ct1_2 := cells_of hA zt1 ct1_2
        replace ct1_3 := cells_of hA zt1 ct1_3
        replace ct1_4 := cells_of hA zt1 ct1_4
        replace ct1_5 := cells_of hA zt1 ct1_5
        replace ct1_6 := cells_of hA zt1 ct1_6
        replace ct1_7 := cells_of hA zt1 ct1_7
        replace zt1 := Nat.lt_of_lt_of_le zt1 hA.size
        replace HO := Lib.hid (HO.out.below hA)
        replace HB := Lib.hid (below_step HB.out HB.out.size hA)
        clear hA
        have cbx_0 : (w3.alloc (.cells #[.slice (some ⟨g, 0, none⟩) 4 4, .slice (some ⟨g', 0, none⟩) 4 4] 27)).cell? ⟨w3.heap.size, 0, none⟩ = some (.slice (some ⟨g, 0, none⟩) 4 4) := by go_simp
        have cbx_1 : (w3.alloc (.cells #[.slice (some ⟨g, 0, none⟩) 4 4, .slice (some ⟨g', 0, none⟩) 4 4] 27)).cell? ⟨w3.heap.size, 1, none⟩ = some (.slice (some ⟨g', 0, none⟩) 4 4) := by go_simp
        have zbx : w3.heap.size < (w3.alloc (.cells #[.slice (some ⟨g, 0, none⟩) 4 4, .slice (some ⟨g', 0, none⟩) 4 4] 27)).heap.size := by simp
        have hsV3 : w3.heap.size < (w3.alloc (.cells #[.slice (some ⟨g, 0, none⟩) 4 4, .slice (some ⟨g', 0, none⟩) 4 4] 27)).heap.size := by simp
        generalize (w3.alloc (.cells #[.slice (some ⟨g, 0, none⟩) 4 4, .slice (some ⟨g', 0, none⟩) 4 4] 27)) = V3 at *
        refine (implCounterOk_any _ 4 4 _ 4 4 [r0, r1, r2, r3] [s0, s1, s2, s3] _ rfl (by unfold maxLen; omega) rfl (by unfold maxLen; omega) HO.out.isC).mono ?_
        rintro e w4 ⟨rfl, hb⟩
        have hsw4 : V3.heap.size ≤ w4.heap.size := hb.size
        replace cb1_0 := cells_of hb zb1 cb1_0
        replace cb1_1 := cells_of hb zb1 cb1_1
        replace zb1 := Nat.lt_of_lt_of_le zb1 hb.size
        replace fr := Lib.hid (fun o => (hb.frozen (p := ⟨w.heap.size + 1, o, none⟩) zr).trans (fr.out o))
        replace cr_0 := cells_of hb zr cr_0
        replace cr_1 := cells_of hb zr cr_1
        replace zr := Nat.lt_of_lt_of_le zr hb.size
        replace ct1_0 := cells_of hb zt1 ct1_0
        replace ct1_1 := cells_of hb zt1 ct1_1
        replace ct1_2 := cells_of hb zt1 ct1_2
        replace ct1_3 := cells_of hb zt1 ct1_3
        replace ct1_4 := cells_of hb zt1 ct1_4
        replace ct1_5 := cells_of hb zt1 ct1_5
        replace ct1_6 := cells_of hb zt1 ct1_6
        replace ct1_7 := cells_of hb zt1 ct1_7
        replace zt1 := Nat.lt_of_lt_of_le zt1 hb.size
        replace HO := Lib.hid (HO.out.below hb)
        replace cbx_0 := cells_of hb zbx cbx_0
        replace cbx_1 := cells_of hb zbx cbx_1
        replace zbx := Nat.lt_of_lt_of_le zbx hb.size
        replace HB := Lib.hid (below_step HB.out HB.out.size hb)
        clear hb
        have hlw : w.heap.size + 1 < w2.heap.size := by omega
        rw [HU.out, HD.out] at HJ
        rw [← HJ.out]
        have hrr := fr.out
        cases hz : addOk [x0, x1, x2, x3] [y0, y1, y2, y3] (q : Int) nn
        · replace HJ := Lib.hid hz
          go_wp2
          refine bodyPost_ret (v := .tuple #[cntV none 0 0 none 0 0, .bool false]) ?_ rfl ?_
          · simp only [results, hres]
            go_simp
          · rw [(ca_bad HJ.out).1, (ca_bad HJ.out).2, HJ.out]
            refine ⟨none, 0, none, 0, rfl, OwnC.nil ?_, ?_⟩
            · simp
              omega
            · exact (HB.out.setCell (p := ⟨w.heap.size + 1, 0, none⟩) (Nat.le_add_right _ 1) _).setCell (p := ⟨w.heap.size + 1, 1, none⟩) (Nat.le_add_right _ 1) _
        · have HG := Lib.hid (ca_good hz)
          replace HJ := Lib.hid hz
          go_wp2
          refine bodyPost_ret (v := .tuple #[cntV (some ⟨g, 0, none⟩) 4 4 (some ⟨g', 0, none⟩) 4 4, .bool true]) ?_ rfl ?_
          · simp only [results, hres]
            go_simp
          · rw [HG.out.1, HG.out.2, HJ.out, HU.out, HD.out]
            refine ⟨some ⟨g, 0, none⟩, 4, some ⟨g', 0, none⟩, 4, rfl, ?_, ?_⟩
            · exact ((HO.out.aside (p := ⟨w.heap.size + 1, 0, none⟩) hlw _).aside (p := ⟨w.heap.size + 1, 1, none⟩) hlw _).wider (by omega) (by simp; omega)
            · exact (HB.out.setCell (p := ⟨w.heap.size + 1, 0, none⟩) (Nat.le_add_right _ 1) _).setCell (p := ⟨w.heap.size + 1, 1, none⟩) (Nat.le_add_right _ 1) _

end Go.Proofs.Ythlkdlknkbigkaa
