import Derived.Test.YtkcbknjmpfgimaaPack2
import Derived.Test.YtkcbknjmpfgimaaPack1
import Derived.Deep.Slices
namespace Go.Proofs.Ytkcbknjmpfgimaa
open Go.ChangeShapes Go.WideShapes Go.ChangeAt Go.RowKit Go.Joins Go.Deep
set_option maxRecDepth 100000
attribute [local go_sem ↓] Go.wp_at_zero Go.wp_at_succ

structure Tm where
  c : Int
  s : Int
  q : Int

abbrev tmV (x : Tm) : Value := .agg #[.int .i64 x.c, .int .i64 x.s, .int .i64 x.q]

def tmZ : Tm := ⟨0, 0, 0⟩

def tmF : Flat Tm where
  ty := 46
  sl := 29
  k := 3
  by8 := 24
  vals := fun x => [.int .i64 x.c, .int .i64 x.s, .int .i64 x.q]
  z := tmZ
  zv := .agg #[.int .i64 0, .int .i64 0, .int .i64 0]
  len := fun _ => rfl
  one := fun x u hu => by
    simp only [List.mem_cons, List.not_mem_nil, or_false] at hu
    rcases hu with rfl | rfl | rfl <;> rfl
  pos := by omega
  und := Try.underlying29
  info := by kernel_rfl
  zc := by kernel_rfl
  low := by omega

theorem tm_at {w : World} {b o : Nat} {x : Tm} (h : tmF.At w b o x) : w.cell? ⟨b, o, none⟩ = some (.int .i64 x.c) ∧ w.cell? ⟨b, o + 1, none⟩ = some (.int .i64 x.s) ∧ w.cell? ⟨b, o + 2, none⟩ = some (.int .i64 x.q) :=
  ⟨h 0 _ rfl, h 1 _ rfl, h 2 _ rfl⟩

theorem tm_mk {w : World} {b o : Nat} {x : Tm} (h : w.cell? ⟨b, o, none⟩ = some (.int .i64 x.c) ∧ w.cell? ⟨b, o + 1, none⟩ = some (.int .i64 x.s) ∧ w.cell? ⟨b, o + 2, none⟩ = some (.int .i64 x.q)) : tmF.At w b o x := by
  obtain ⟨h0, h1, h2⟩ := h
  intro c u hu
  match c, hu with
  | 0, hu => (cases hu; exact h0)
  | 1, hu => (cases hu; exact h1)
  | 2, hu => (cases hu; exact h2)

def tmC (x : Tm) (c : Nat) : Int := if c = 0 then x.c else if c = 1 then x.s else x.q

def tmFill (xs : List Tm) (k j : Nat) : Value := .int .i64 (if j < k * 3 then tmC (xs.getD (j / 3) tmZ) (j % 3) else 0)

theorem tmFill_step (xs : List Tm) (k j : Nat) : (if j = k * 3 + 2 then Value.int .i64 (xs.getD k tmZ).q else if j = k * 3 + 1 then Value.int .i64 (xs.getD k tmZ).s else if j = k * 3 then Value.int .i64 (xs.getD k tmZ).c else tmFill xs k j) = tmFill xs (k + 1) j := by
  unfold tmFill
  have hr : ∀ r, r < 3 → j = k * 3 + r → (Value.int .i64 (if j < (k + 1) * 3 then tmC (xs.getD (j / 3) tmZ) (j % 3) else 0)) = Value.int .i64 (tmC (xs.getD k tmZ) r) := fun r h1 h2 => by
    rw [if_pos (by omega), show j / 3 = k by omega, show j % 3 = r by omega]
  by_cases h2 : j = k * 3 + 2
  · rw [if_pos h2, hr 2 (by omega) h2]
    rfl
  rw [if_neg h2]
  by_cases h1 : j = k * 3 + 1
  · rw [if_pos h1, hr 1 (by omega) h1]
    rfl
  rw [if_neg h1]
  by_cases h0 : j = k * 3
  · rw [if_pos h0, hr 0 (by omega) h0]
    rfl
  rw [if_neg h0]
  by_cases hl : j < k * 3
  · rw [if_pos hl, if_pos (by omega)]
  · rw [if_neg hl, if_neg (by omega)]

theorem tm_filled {w : World} {g t N : Nat} {xs : List Tm} (h : w.rowIs g t N (tmFill xs xs.length)) (hN : N = xs.length * 3) : ∀ i, i < xs.length → tmF.At w g (i * 3) (xs.getD i tmZ) := fun i hi => by
  have c : ∀ r, r < 3 → w.cell? ⟨g, i * 3 + r, none⟩ = some (.int .i64 (tmC (xs.getD i tmZ) r)) := fun r hr => by
    rw [h.cell (i := i * 3 + r) (by omega)]
    unfold tmFill
    rw [if_pos (by omega), show (i * 3 + r) / 3 = i by omega, show (i * 3 + r) % 3 = r by omega]
  exact tm_mk ⟨c 0 (by omega), c 1 (by omega), c 2 (by omega)⟩

theorem run_make_tm (n : Nat) (hn : n ≤ 4194304) (w : World) :
    (Instr.makeSlice 29 (.int .i64 (n : Int)) (.int .i64 (n : Int))).run Try.prog w = .ok (.slice (some ⟨w.heap.size, 0, none⟩) n n) (w.alloc (.cells (madeCells (tmV tmZ).cells (n * 3)) 46)) := by
  obtain ⟨i, hi, hzz⟩ := Option.map_eq_some_iff.1 tmF.info
  simp only [Prod.mk.injEq] at hzz
  obtain ⟨hz, hs, hb⟩ := hzz
  have hr := run_make (P := Try.prog) w 29 46 i _ Try.underlying29 hi hz .i64 .i64 n n (by omega) (Int.le_refl _) (by rw [hb, show tmF.by8 = 24 from rfl]; omega) (by omega)
  simp only [Int.toNat_natCast, hs] at hr
  exact hr

theorem row_tm (w : World) (t n : Nat) (xs : List Tm) : (w.alloc (.cells (madeCells (tmV tmZ).cells (n * 3)) t)).rowIs w.heap.size t (n * 3) (tmFill xs 0) := by
  refine ⟨_, Go.Deep.blk_alloc_new _ _, size_madeCells _ _, fun i hi => ?_⟩
  have e : (tmV tmZ).cells = #[.int .i64 0, .int .i64 0, .int .i64 0] := by kernel_rfl
  have h6 : i % 3 = 0 ∨ i % 3 = 1 ∨ i % 3 = 2 := by omega
  rw [e]
  rcases h6 with h6 | h6 | h6 <;> simp [madeCells, hi, h6, tmFill]

theorem szTagS_small (a : Option Addr) (n cap : Nat) (left : Int) (w : World) (h0 : 0 ≤ left) (h1 : left ≤ 1048576) (h : (n : Int) ≤ left) :
    Calls Try.prog 31 #[.slice a n cap, .int .i64 left] w fun e w' => e = .returned (.int .i64 (left - n)) ∧ w' = w := by
  go_enter Try.func31, Try.ntmps31
  go_wp2
  go_ret
  exact ⟨rfl, rfl⟩

theorem szTagS_big (a : Option Addr) (n cap : Nat) (left : Int) (w : World) (h0 : 0 ≤ left) (h1 : left ≤ 1048576) (h : left < (n : Int)) (hm : n ≤ maxLen) :
    Calls Try.prog 31 #[.slice a n cap, .int .i64 left] w fun e w' => e = .returned (.int .i64 (-1)) ∧ w' = w := by
  unfold maxLen at hm
  go_enter Try.func31, Try.ntmps31
  go_wp2
  go_ret
  exact ⟨rfl, rfl⟩

theorem toTag_any' (x : Tm) (w : World) :
    Calls Try.prog 23 #[tmV x] w fun e w' => e = .returned (tmV x) ∧ Below w.heap.size w w' := toTag_any x.c x.s x.q w

set_option maxHeartbeats 4000000 in
theorem toTagS_any (a : Option Addr) (n cap : Nat) (xs : List Tm) (w : World) (hn : xs.length = n) (hm : n ≤ 4194304) (h : tmF.Is w a xs) :
    Calls Try.prog 36 #[.slice a n cap] w fun e w' => e = .returned (.slice (some ⟨w.heap.size, 0, none⟩) n n) ∧ w.heap.size < w'.heap.size ∧ tmF.Own w' w.heap.size w'.heap.size (some ⟨w.heap.size, 0, none⟩) xs ∧ Below w.heap.size w w' := by
  have H := Lib.hid h
  have HN := Lib.hid hn
  clear h hn
  have hmk := run_make_tm n hm
  go_enter Try.func36, Try.ntmps36
  go_wp2
  clear hmk
  go_loopw [4] (fun i wr => ∃ k : Nat, k ≤ n ∧ i = .int .i64 k ∧ Hid (wr.rowIs w.heap.size 46 (n * 3) (tmFill xs k)) ∧ Hid (Below w.heap.size w wr)) (fun i _ => n - (intOf i).toNat)
  case atStart => exact ⟨0, Nat.zero_le _, rfl, row_tm _ _ _ _, (Below.refl _ _).alloc (Nat.le_refl _) _⟩
  case round =>
    obtain ⟨k, hk, rfl, HR, HB⟩ := hrel
    by_cases hk' : k < n
    · have i1 : (0 : Int) ≤ (k : Int) := by omega
      have i2 : (k : Int) < (n : Int) := by omega
      obtain ⟨b, o, rfl, hz, hat⟩ := H.out.at HB.out (k := k) (by rw [HN.out]; exact hk')
      obtain ⟨c0, c1, c2⟩ := tm_at hat
      simp only [show tmF.k = 3 from rfl] at c0 c1 c2
      have HST := Lib.hid (tmFill_step xs k)
      clear hat
      simp only [show tmF.z = tmZ from rfl] at c0 c1 c2
      generalize xs.getD k tmZ = x at *
      go_wp2_with fail
      refine (toTag_any' ⟨x.c, x.s, x.q⟩ _).mono ?_
      rintro e w2 ⟨rfl, hb⟩
      have HR2 := Lib.hid (HR.out.of_block (hb.block _ HR.out.lt))
      have HB2 := Lib.hid (below_step HB.out HB.out.size hb)
      have d0 := HR2.out.cell (i := k * 3) (by omega)
      have d1 := HR2.out.cell (i := k * 3 + 1) (by omega)
      have d2 := HR2.out.cell (i := k * 3 + 2) (by omega)
      have fz := HR2.out.frozen
      have HP := Lib.hid ((((HR2.out.set (k * 3) (.int .i64 x.c)).set (k * 3 + 1) (.int .i64 x.s)).set (k * 3 + 2) (.int .i64 x.q)).congr fun j _ => HST.out j)
      have HB3 := Lib.hid ((((HB2.out.setCell (p := ⟨w.heap.size, k * 3, none⟩) (Nat.le_refl _) (.int .i64 x.c)).setCell (p := ⟨w.heap.size, k * 3 + 1, none⟩) (Nat.le_refl _) (.int .i64 x.s)).setCell (p := ⟨w.heap.size, k * 3 + 2, none⟩) (Nat.le_refl _) (.int .i64 x.q)))
      clear hb HR HR2 HB HST c0 c1 c2
      go_wp2
      exact ⟨⟨k + 1, by omega, by go_num, HP, HB3⟩, by simp [intOf]; omega⟩
    · obtain rfl : k = n := by omega
      go_wp2
      go_ret
      have hr := HR.out
      have e := HN.out
      refine ⟨rfl, HR.out.lt, .inr ⟨w.heap.size, rfl, Nat.le_refl _, HR.out.lt, HR.out.lt, tm_filled (by rw [e]; exact hr) (by rw [e]), HR.out.frozen⟩, HB.out⟩

set_option maxHeartbeats 4000000 in
theorem eqTagS_same (a a' : Option Addr) (n cap cap' : Nat) (xs : List Tm) (w : World) (hn : xs.length = n) (hm : n ≤ 4194304) (h : tmF.Is w a xs) (h' : tmF.Is w a' xs) :
    Calls Try.prog 40 #[.slice a n cap, .slice a' n cap'] w fun e w' => e = .returned (.bool true) ∧ Below w.heap.size w w' := by
  have HH := Lib.hid h
  have HH' := Lib.hid h'
  have HN := Lib.hid hn
  clear h h' hn
  go_enter Try.func40, Try.ntmps40
  go_wp2
  go_loopw [5] (fun i wr => ∃ k : Nat, k ≤ n ∧ i = .int .i64 k ∧ Hid (Below w.heap.size w wr)) (fun i _ => n - (intOf i).toNat)
  case atStart => exact ⟨0, Nat.zero_le _, rfl, Below.refl _ _⟩
  case round =>
    obtain ⟨k, hk, rfl, HB⟩ := hrel
    by_cases hk' : k < n
    · have hkk : k < xs.length := by rw [HN.out]; exact hk'
      obtain ⟨b, o, rfl, hz, hat⟩ := HH.out.at HB.out hkk
      obtain ⟨b', o', rfl, hz', hat'⟩ := HH'.out.at HB.out hkk
      obtain ⟨e0, e1, e2⟩ := tm_at hat
      obtain ⟨f0, f1, f2⟩ := tm_at hat'
      clear HH HH' hat hat' HN hkk
      simp only [show tmF.k = 3 from rfl, show tmF.z = tmZ from rfl] at e0 e1 e2 f0 f1 f2
      have i1 : (0 : Int) ≤ (k : Int) := by omega
      have i2 : (k : Int) < (n : Int) := by omega
      generalize (xs.getD k tmZ).c = yc at *
      generalize (xs.getD k tmZ).s = ys at *
      generalize (xs.getD k tmZ).q = yq at *
      go_wp2_with fail
      have ge0 := aft_cell hz e0
      have gf0 := aft_cell hz' f0
      have ge1 := aft_cell hz e1
      have gf1 := aft_cell hz' f1
      have ge2 := aft_cell hz e2
      have gf2 := aft_cell hz' f2
      have ne := aft_some wr
      refine wp_region_aft (by kernel_rfl) (by kernel_rfl) ?_
      repeat (first | go_big_quiet_step (first | (go_at_call 66; exact aft_of (eqTag_same _ _ _ _))))
      refine wpQuiet_nil ?_
      intro wq hq
      go_wp2
      exact ⟨⟨k + 1, by omega, by go_num, below_step HB.out HB.out.size hq⟩, by simp [intOf]; omega⟩
    · obtain rfl : k = n := by omega
      go_wp2
      go_ret
      exact ⟨rfl, HB.out⟩

structure Mk where
  e : Int
  c : Int
  s : Int
  q : Int

abbrev mkV (x : Mk) : Value := .agg #[.int .i64 x.e, .int .i64 x.c, .int .i64 x.s, .int .i64 x.q]

def mkZ : Mk := ⟨0, 0, 0, 0⟩

def mkF : Flat Mk where
  ty := 56
  sl := 28
  k := 4
  by8 := 32
  vals := fun x => [.int .i64 x.e, .int .i64 x.c, .int .i64 x.s, .int .i64 x.q]
  z := mkZ
  zv := .agg #[.int .i64 0, .int .i64 0, .int .i64 0, .int .i64 0]
  len := fun _ => rfl
  one := fun x u hu => by
    simp only [List.mem_cons, List.not_mem_nil, or_false] at hu
    rcases hu with rfl | rfl | rfl | rfl <;> rfl
  pos := by omega
  und := Try.underlying28
  info := by kernel_rfl
  zc := by kernel_rfl
  low := by omega

theorem mk_at {w : World} {b o : Nat} {x : Mk} (h : mkF.At w b o x) : w.cell? ⟨b, o, none⟩ = some (.int .i64 x.e) ∧ w.cell? ⟨b, o + 1, none⟩ = some (.int .i64 x.c) ∧ w.cell? ⟨b, o + 2, none⟩ = some (.int .i64 x.s) ∧ w.cell? ⟨b, o + 3, none⟩ = some (.int .i64 x.q) :=
  ⟨h 0 _ rfl, h 1 _ rfl, h 2 _ rfl, h 3 _ rfl⟩

theorem mk_mk {w : World} {b o : Nat} {x : Mk} (h : w.cell? ⟨b, o, none⟩ = some (.int .i64 x.e) ∧ w.cell? ⟨b, o + 1, none⟩ = some (.int .i64 x.c) ∧ w.cell? ⟨b, o + 2, none⟩ = some (.int .i64 x.s) ∧ w.cell? ⟨b, o + 3, none⟩ = some (.int .i64 x.q)) : mkF.At w b o x := by
  obtain ⟨h0, h1, h2, h3⟩ := h
  intro c u hu
  match c, hu with
  | 0, hu => (cases hu; exact h0)
  | 1, hu => (cases hu; exact h1)
  | 2, hu => (cases hu; exact h2)
  | 3, hu => (cases hu; exact h3)

def mkC (x : Mk) (c : Nat) : Int := if c = 0 then x.e else if c = 1 then x.c else if c = 2 then x.s else x.q

def mkFill (xs : List Mk) (k j : Nat) : Value := .int .i64 (if j < k * 4 then mkC (xs.getD (j / 4) mkZ) (j % 4) else 0)

theorem mkFill_step (xs : List Mk) (k j : Nat) : (if j = k * 4 + 3 then Value.int .i64 (xs.getD k mkZ).q else if j = k * 4 + 2 then Value.int .i64 (xs.getD k mkZ).s else if j = k * 4 + 1 then Value.int .i64 (xs.getD k mkZ).c else if j = k * 4 then Value.int .i64 (xs.getD k mkZ).e else mkFill xs k j) = mkFill xs (k + 1) j := by
  unfold mkFill
  have hr : ∀ r, r < 4 → j = k * 4 + r → (Value.int .i64 (if j < (k + 1) * 4 then mkC (xs.getD (j / 4) mkZ) (j % 4) else 0)) = Value.int .i64 (mkC (xs.getD k mkZ) r) := fun r h1 h2 => by
    rw [if_pos (by omega), show j / 4 = k by omega, show j % 4 = r by omega]
  by_cases h3 : j = k * 4 + 3
  · rw [if_pos h3, hr 3 (by omega) h3]
    rfl
  rw [if_neg h3]
  by_cases h2 : j = k * 4 + 2
  · rw [if_pos h2, hr 2 (by omega) h2]
    rfl
  rw [if_neg h2]
  by_cases h1 : j = k * 4 + 1
  · rw [if_pos h1, hr 1 (by omega) h1]
    rfl
  rw [if_neg h1]
  by_cases h0 : j = k * 4
  · rw [if_pos h0, hr 0 (by omega) h0]
    rfl
  rw [if_neg h0]
  by_cases hl : j < k * 4
  · rw [if_pos hl, if_pos (by omega)]
  · rw [if_neg hl, if_neg (by omega)]

theorem mk_filled {w : World} {g t N : Nat} {xs : List Mk} (h : w.rowIs g t N (mkFill xs xs.length)) (hN : N = xs.length * 4) : ∀ i, i < xs.length → mkF.At w g (i * 4) (xs.getD i mkZ) := fun i hi => by
  have c : ∀ r, r < 4 → w.cell? ⟨g, i * 4 + r, none⟩ = some (.int .i64 (mkC (xs.getD i mkZ) r)) := fun r hr => by
    rw [h.cell (i := i * 4 + r) (by omega)]
    unfold mkFill
    rw [if_pos (by omega), show (i * 4 + r) / 4 = i by omega, show (i * 4 + r) % 4 = r by omega]
  exact mk_mk ⟨c 0 (by omega), c 1 (by omega), c 2 (by omega), c 3 (by omega)⟩

theorem run_make_mk (n : Nat) (hn : n ≤ 4194304) (w : World) :
    (Instr.makeSlice 28 (.int .i64 (n : Int)) (.int .i64 (n : Int))).run Try.prog w = .ok (.slice (some ⟨w.heap.size, 0, none⟩) n n) (w.alloc (.cells (madeCells (mkV mkZ).cells (n * 4)) 56)) := by
  obtain ⟨i, hi, hzz⟩ := Option.map_eq_some_iff.1 mkF.info
  simp only [Prod.mk.injEq] at hzz
  obtain ⟨hz, hs, hb⟩ := hzz
  have hr := run_make (P := Try.prog) w 28 56 i _ Try.underlying28 hi hz .i64 .i64 n n (by omega) (Int.le_refl _) (by rw [hb, show mkF.by8 = 32 from rfl]; omega) (by omega)
  simp only [Int.toNat_natCast, hs] at hr
  exact hr

theorem row_mk (w : World) (t n : Nat) (xs : List Mk) : (w.alloc (.cells (madeCells (mkV mkZ).cells (n * 4)) t)).rowIs w.heap.size t (n * 4) (mkFill xs 0) := by
  refine ⟨_, Go.Deep.blk_alloc_new _ _, size_madeCells _ _, fun i hi => ?_⟩
  have e : (mkV mkZ).cells = #[.int .i64 0, .int .i64 0, .int .i64 0, .int .i64 0] := by kernel_rfl
  have h6 : i % 4 = 0 ∨ i % 4 = 1 ∨ i % 4 = 2 ∨ i % 4 = 3 := by omega
  rw [e]
  rcases h6 with h6 | h6 | h6 | h6 <;> simp [madeCells, hi, h6, mkFill]

theorem szMarkS_small (a : Option Addr) (n cap : Nat) (left : Int) (w : World) (h0 : 0 ≤ left) (h1 : left ≤ 1048576) (h : (n : Int) ≤ left) :
    Calls Try.prog 30 #[.slice a n cap, .int .i64 left] w fun e w' => e = .returned (.int .i64 (left - n)) ∧ w' = w := by
  go_enter Try.func30, Try.ntmps30
  go_wp2
  go_ret
  exact ⟨rfl, rfl⟩

theorem szMarkS_big (a : Option Addr) (n cap : Nat) (left : Int) (w : World) (h0 : 0 ≤ left) (h1 : left ≤ 1048576) (h : left < (n : Int)) (hm : n ≤ maxLen) :
    Calls Try.prog 30 #[.slice a n cap, .int .i64 left] w fun e w' => e = .returned (.int .i64 (-1)) ∧ w' = w := by
  unfold maxLen at hm
  go_enter Try.func30, Try.ntmps30
  go_wp2
  go_ret
  exact ⟨rfl, rfl⟩

set_option maxHeartbeats 400000 in
theorem eqMark_same (k c s q : Int) (w : World) :
    Calls Try.prog 65 #[mkV ⟨k, c, s, q⟩, mkV ⟨k, c, s, q⟩] w fun e w' => e = .returned (.bool true) ∧ Below w.heap.size w w' := by
  go_enter Try.func65, Try.ntmps65
  go_wp2_with fail
  refine (eqTag_same _ _ _ _).mono ?_
  rintro e w1 ⟨rfl, hb1⟩
  have HB : Hid (Below w.heap.size w w1) := below_step (((Below.refl _ _).alloc (Nat.le_refl _) _).alloc (by simp) _) (by simp; omega) hb1
  clear hb1
  go_wp2
  go_ret
  exact ⟨rfl, HB.out⟩

set_option maxHeartbeats 400000 in
theorem toMark_any' (x : Mk) (w : World) :
    Calls Try.prog 62 #[mkV x] w fun e w' => e = .returned (mkV x) ∧ Below w.heap.size w w' := by
  obtain ⟨k, c, s, q⟩ := x
  go_enter Try.func62, Try.ntmps62
  go_wp2_with fail
  refine (toTag_any _ _ _ _).mono ?_
  rintro e w1 ⟨rfl, hb1⟩
  obtain ⟨hc, hf⟩ := bcell hb1
  have hz : w.heap.size + 1 + 1 < w1.heap.size := by have := hb1.size; simp at this; omega
  have HB : Hid (Below w.heap.size w w1) := below_step ((((Below.refl _ _).alloc (Nat.le_refl _) _).alloc (by simp) _).alloc (by simp; omega) _) (by simp; omega) hb1
  clear hb1
  go_wp2
  exact bodyPost_ret (v := mkV ⟨k, c, s, q⟩) (by simp [results, Try.results62, go_sem, hc]) rfl ⟨rfl, ((((((HB.out.setCell (by simp; omega) _).setCell (by simp; omega) _).setCell (by simp; omega) _).setCell (by simp) _).setCell (by simp) _).setCell (by simp) _).setCell (by simp) _⟩

set_option maxHeartbeats 4000000 in
theorem toMarkS_any (a : Option Addr) (n cap : Nat) (xs : List Mk) (w : World) (hn : xs.length = n) (hm : n ≤ 4194304) (h : mkF.Is w a xs) :
    Calls Try.prog 35 #[.slice a n cap] w fun e w' => e = .returned (.slice (some ⟨w.heap.size, 0, none⟩) n n) ∧ w.heap.size < w'.heap.size ∧ mkF.Own w' w.heap.size w'.heap.size (some ⟨w.heap.size, 0, none⟩) xs ∧ Below w.heap.size w w' := by
  have H := Lib.hid h
  have HN := Lib.hid hn
  clear h hn
  have hmk := run_make_mk n hm
  go_enter Try.func35, Try.ntmps35
  go_wp2
  clear hmk
  go_loopw [4] (fun i wr => ∃ k : Nat, k ≤ n ∧ i = .int .i64 k ∧ Hid (wr.rowIs w.heap.size 56 (n * 4) (mkFill xs k)) ∧ Hid (Below w.heap.size w wr)) (fun i _ => n - (intOf i).toNat)
  case atStart => exact ⟨0, Nat.zero_le _, rfl, row_mk _ _ _ _, (Below.refl _ _).alloc (Nat.le_refl _) _⟩
  case round =>
    obtain ⟨k, hk, rfl, HR, HB⟩ := hrel
    by_cases hk' : k < n
    · have i1 : (0 : Int) ≤ (k : Int) := by omega
      have i2 : (k : Int) < (n : Int) := by omega
      obtain ⟨b, o, rfl, hz, hat⟩ := H.out.at HB.out (k := k) (by rw [HN.out]; exact hk')
      obtain ⟨c0, c1, c2, c3⟩ := mk_at hat
      simp only [show mkF.k = 4 from rfl] at c0 c1 c2 c3
      have HST := Lib.hid (mkFill_step xs k)
      clear hat
      simp only [show mkF.z = mkZ from rfl] at c0 c1 c2 c3
      generalize xs.getD k mkZ = x at *
      go_wp2_with fail
      refine (toMark_any' ⟨x.e, x.c, x.s, x.q⟩ _).mono ?_
      rintro e w2 ⟨rfl, hb⟩
      have HR2 := Lib.hid (HR.out.of_block (hb.block _ HR.out.lt))
      have HB2 := Lib.hid (below_step HB.out HB.out.size hb)
      have d0 := HR2.out.cell (i := k * 4) (by omega)
      have d1 := HR2.out.cell (i := k * 4 + 1) (by omega)
      have d2 := HR2.out.cell (i := k * 4 + 2) (by omega)
      have d3 := HR2.out.cell (i := k * 4 + 3) (by omega)
      have fz := HR2.out.frozen
      have HP := Lib.hid (((((HR2.out.set (k * 4) (.int .i64 x.e)).set (k * 4 + 1) (.int .i64 x.c)).set (k * 4 + 2) (.int .i64 x.s)).set (k * 4 + 3) (.int .i64 x.q)).congr fun j _ => HST.out j)
      have HB3 := Lib.hid (((((HB2.out.setCell (p := ⟨w.heap.size, k * 4, none⟩) (Nat.le_refl _) (.int .i64 x.e)).setCell (p := ⟨w.heap.size, k * 4 + 1, none⟩) (Nat.le_refl _) (.int .i64 x.c)).setCell (p := ⟨w.heap.size, k * 4 + 2, none⟩) (Nat.le_refl _) (.int .i64 x.s)).setCell (p := ⟨w.heap.size, k * 4 + 3, none⟩) (Nat.le_refl _) (.int .i64 x.q)))
      clear hb HR HR2 HB HST c0 c1 c2 c3
      go_wp2
      exact ⟨⟨k + 1, by omega, by go_num, HP, HB3⟩, by simp [intOf]; omega⟩
    · obtain rfl : k = n := by omega
      go_wp2
      go_ret
      have hr := HR.out
      have e := HN.out
      refine ⟨rfl, HR.out.lt, .inr ⟨w.heap.size, rfl, Nat.le_refl _, HR.out.lt, HR.out.lt, mk_filled (by rw [e]; exact hr) (by rw [e]), HR.out.frozen⟩, HB.out⟩

set_option maxHeartbeats 4000000 in
theorem eqMarkS_same (a a' : Option Addr) (n cap cap' : Nat) (xs : List Mk) (w : World) (hn : xs.length = n) (hm : n ≤ 4194304) (h : mkF.Is w a xs) (h' : mkF.Is w a' xs) :
    Calls Try.prog 39 #[.slice a n cap, .slice a' n cap'] w fun e w' => e = .returned (.bool true) ∧ Below w.heap.size w w' := by
  have HH := Lib.hid h
  have HH' := Lib.hid h'
  have HN := Lib.hid hn
  clear h h' hn
  go_enter Try.func39, Try.ntmps39
  go_wp2
  go_loopw [5] (fun i wr => ∃ k : Nat, k ≤ n ∧ i = .int .i64 k ∧ Hid (Below w.heap.size w wr)) (fun i _ => n - (intOf i).toNat)
  case atStart => exact ⟨0, Nat.zero_le _, rfl, Below.refl _ _⟩
  case round =>
    obtain ⟨k, hk, rfl, HB⟩ := hrel
    by_cases hk' : k < n
    · have hkk : k < xs.length := by rw [HN.out]; exact hk'
      obtain ⟨b, o, rfl, hz, hat⟩ := HH.out.at HB.out hkk
      obtain ⟨b', o', rfl, hz', hat'⟩ := HH'.out.at HB.out hkk
      obtain ⟨e0, e1, e2, e3⟩ := mk_at hat
      obtain ⟨f0, f1, f2, f3⟩ := mk_at hat'
      clear HH HH' hat hat' HN hkk
      simp only [show mkF.k = 4 from rfl, show mkF.z = mkZ from rfl] at e0 e1 e2 e3 f0 f1 f2 f3
      have i1 : (0 : Int) ≤ (k : Int) := by omega
      have i2 : (k : Int) < (n : Int) := by omega
      generalize (xs.getD k mkZ).e = ye at *
      generalize (xs.getD k mkZ).c = yc at *
      generalize (xs.getD k mkZ).s = ys at *
      generalize (xs.getD k mkZ).q = yq at *
      go_wp2_with fail
      have ge0 := aft_cell hz e0
      have gf0 := aft_cell hz' f0
      have ge1 := aft_cell hz e1
      have gf1 := aft_cell hz' f1
      have ge2 := aft_cell hz e2
      have gf2 := aft_cell hz' f2
      have ge3 := aft_cell hz e3
      have gf3 := aft_cell hz' f3
      have ne := aft_some wr
      refine wp_region_aft (by kernel_rfl) (by kernel_rfl) ?_
      repeat (first | go_big_quiet_step (first | (go_at_call 65; exact aft_of (eqMark_same _ _ _ _ _))))
      refine wpQuiet_nil ?_
      intro wq hq
      go_wp2
      exact ⟨⟨k + 1, by omega, by go_num, below_step HB.out HB.out.size hq⟩, by simp [intOf]; omega⟩
    · obtain rfl : k = n := by omega
      go_wp2
      go_ret
      exact ⟨rfl, HB.out⟩

end Go.Proofs.Ytkcbknjmpfgimaa

namespace Go.Proofs.Ytkcbknjmpfgimaa
open Go.ChangeShapes Go.WideShapes Go.ChangeAt Go.RowKit Go.Joins Go.Deep
set_option maxRecDepth 100000

section
variable {H : Type} {enc : TypeId × Value → H} {w : World} {base : Nat} {spare : Nat → Bool} {held : Bool}

theorem tm_cells {fuel : Nat} {cs : List Value} {x : DataW H × List MemPlace} (h : DataW.trod enc Try.prog w base spare held fuel 43 cs = some x) : ∃ y : Tm, cs = [.int .i64 y.c, .int .i64 y.s, .int .i64 y.q] := by
  obtain ⟨c, s, q, e⟩ := tag_cells h
  exact ⟨⟨c, s, q⟩, e⟩

theorem tms_cells {fuel : Nat} {a : Option Addr} {len cap : Nat} {x : DataW H × List MemPlace} (h : DataW.trod enc Try.prog w base spare held fuel 23 [.slice a len cap] = some x) :
    ∃ es : List Tm, es.length = len ∧ len ≤ maxLen ∧ tmF.Is w a es := by
  rcases open_slice Try.underlying23 h with ⟨hcs, _⟩ | ⟨a', len', cap', m, n, D, Pl, hcs, _, hl, hm, hmm, _, hel⟩
  · simp at hcs
    obtain ⟨rfl, rfl, rfl⟩ := hcs
    exact ⟨[], rfl, Nat.zero_le _, .inl rfl⟩
  · simp at hcs
    obtain ⟨rfl, rfl, rfl⟩ := hcs
    have hml : len ≤ m := by rw [hmm]; split <;> omega
    have hd : ∀ i, i < len → ∃ y : Tm, w.cell? (a'.add (i * 3)) = some (.int .i64 y.c) ∧ w.cell? (a'.add (i * 3 + 1)) = some (.int .i64 y.s) ∧ w.cell? (a'.add (i * 3 + 2)) = some (.int .i64 y.q) := by
      intro i hi
      obtain ⟨cs', h1, h2⟩ := hel i (by omega)
      rw [cellsTag] at h1
      obtain ⟨_, _, hc⟩ := World.cells?_some h1
      obtain ⟨y, hdd⟩ := tm_cells h2
      rw [hdd] at hc
      have c0 := hc 0 (by omega)
      have c1 := hc 1 (by omega)
      have c2 := hc 2 (by omega)
      rw [add_add] at c0 c1 c2
      exact ⟨y, by simpa using c0, by simpa using c1, by simpa using c2⟩
    by_cases h0 : len = 0
    · subst h0
      exact ⟨[], rfl, Nat.zero_le _, .inl rfl⟩
    have : Inhabited Tm := ⟨tmZ⟩
    obtain ⟨f, hf⟩ := choose_lt hd
    have ha : a' = ⟨a'.block, a'.off, none⟩ := by
      have h1 := (hf 0 (by omega)).1
      simp [Addr.add] at h1
      exact add_form h1
    have hg : ∀ i, i < len → ((List.range len).map f).getD i tmZ = f i := fun i hi => by simp [List.getD, hi]
    refine ⟨(List.range len).map f, by simp, by omega, .inr ⟨a'.block, a'.off, by rw [← ha], ?_, fun i hi => ?_⟩⟩
    · obtain ⟨cs', h1, _⟩ := hel 0 (by omega)
      rw [cellsTag] at h1
      have h2 := World.cells?_block h1 (by omega)
      simpa [Addr.add] using h2
    · have hi' : i < len := by simpa using hi
      simp only [show tmF.z = tmZ from rfl, show tmF.k = 3 from rfl]
      rw [hg i hi']
      obtain ⟨h0, h1, h2⟩ := hf i hi'
      rw [ha] at h0 h1 h2
      rw [add_plain] at h0 h1 h2
      exact tm_mk ⟨h0, h1, h2⟩

theorem cellsMark : Try.prog.cellsOf 90 = 4 := by kernel_rfl

theorem mk_cells {fuel : Nat} {cs : List Value} {x : DataW H × List MemPlace} (h : DataW.trod enc Try.prog w base spare held fuel 90 cs = some x) : ∃ y : Mk, cs = [.int .i64 y.e, .int .i64 y.c, .int .i64 y.s, .int .i64 y.q] := by
  obtain ⟨y0, y1, n, _, hl, h0, h1⟩ := trod_struct2 Try.underlying90 h
  rw [cellsMark] at hl
  match cs, hl with
  | [v0, v1, v2, v3], _ =>
    obtain ⟨a0, e0, _, _⟩ := DataW.trod_int Try.underlying3 h0
    obtain ⟨c, s, q, e1⟩ := tag_cells h1
    simp [cellsInt] at e0
    simp [cellsTag] at e1
    obtain ⟨e1, e2, e3⟩ := e1
    subst e0 e1 e2 e3
    exact ⟨⟨a0, c, s, q⟩, rfl⟩

theorem mks_cells {fuel : Nat} {a : Option Addr} {len cap : Nat} {x : DataW H × List MemPlace} (h : DataW.trod enc Try.prog w base spare held fuel 22 [.slice a len cap] = some x) :
    ∃ es : List Mk, es.length = len ∧ len ≤ maxLen ∧ mkF.Is w a es := by
  rcases open_slice Try.underlying22 h with ⟨hcs, _⟩ | ⟨a', len', cap', m, n, D, Pl, hcs, _, hl, hm, hmm, _, hel⟩
  · simp at hcs
    obtain ⟨rfl, rfl, rfl⟩ := hcs
    exact ⟨[], rfl, Nat.zero_le _, .inl rfl⟩
  · simp at hcs
    obtain ⟨rfl, rfl, rfl⟩ := hcs
    have hml : len ≤ m := by rw [hmm]; split <;> omega
    have hd : ∀ i, i < len → ∃ y : Mk, w.cell? (a'.add (i * 4)) = some (.int .i64 y.e) ∧ w.cell? (a'.add (i * 4 + 1)) = some (.int .i64 y.c) ∧ w.cell? (a'.add (i * 4 + 2)) = some (.int .i64 y.s) ∧ w.cell? (a'.add (i * 4 + 3)) = some (.int .i64 y.q) := by
      intro i hi
      obtain ⟨cs', h1, h2⟩ := hel i (by omega)
      rw [cellsMark] at h1
      obtain ⟨_, _, hc⟩ := World.cells?_some h1
      obtain ⟨y, hdd⟩ := mk_cells h2
      rw [hdd] at hc
      have c0 := hc 0 (by omega)
      have c1 := hc 1 (by omega)
      have c2 := hc 2 (by omega)
      have c3 := hc 3 (by omega)
      rw [add_add] at c0 c1 c2 c3
      exact ⟨y, by simpa using c0, by simpa using c1, by simpa using c2, by simpa using c3⟩
    by_cases h0 : len = 0
    · subst h0
      exact ⟨[], rfl, Nat.zero_le _, .inl rfl⟩
    have : Inhabited Mk := ⟨mkZ⟩
    obtain ⟨f, hf⟩ := choose_lt hd
    have ha : a' = ⟨a'.block, a'.off, none⟩ := by
      have h1 := (hf 0 (by omega)).1
      simp [Addr.add] at h1
      exact add_form h1
    have hg : ∀ i, i < len → ((List.range len).map f).getD i mkZ = f i := fun i hi => by simp [List.getD, hi]
    refine ⟨(List.range len).map f, by simp, by omega, .inr ⟨a'.block, a'.off, by rw [← ha], ?_, fun i hi => ?_⟩⟩
    · obtain ⟨cs', h1, _⟩ := hel 0 (by omega)
      rw [cellsMark] at h1
      have h2 := World.cells?_block h1 (by omega)
      simpa [Addr.add] using h2
    · have hi' : i < len := by simpa using hi
      simp only [show mkF.z = mkZ from rfl, show mkF.k = 4 from rfl]
      rw [hg i hi']
      obtain ⟨h0, h1, h2, h3⟩ := hf i hi'
      rw [ha] at h0 h1 h2 h3
      rw [add_plain] at h0 h1 h2 h3
      exact mk_mk ⟨h0, h1, h2, h3⟩

end
end Go.Proofs.Ytkcbknjmpfgimaa

namespace Go.Proofs.Ytkcbknjmpfgimaa

@[simp] def factsAtU (U : Tmp → Option Tmp) (vs : Tmp → Value) (w : World) : Facts → Prop
  | [] => True
  | (d, p) :: r => (U d = none → p (vs d) w) ∧ factsAtU U vs w r

end Go.Proofs.Ytkcbknjmpfgimaa

namespace Go.Proofs.Ytkcbknjmpfgimaa
open Go.ChangeShapes Go.WideShapes Go.ChangeAt Go.RowKit Go.Joins Go.Deep
attribute [local go_sem ↓] Go.wp_at_zero Go.wp_at_succ
set_option maxRecDepth 100000

abbrev setV (a : Option Addr) (n cap : Nat) (b : Option Addr) (m cb : Nat) : Value := .agg #[.slice a n cap, .slice b m cb]

def IsSt (w : World) (a b : Option Addr) (us : List Mk) (ds : List Tm) : Prop := mkF.Is w a us ∧ tmF.Is w b ds

theorem IsSt.below {w w' : World} {a b : Option Addr} {us : List Mk} {ds : List Tm} (h : IsSt w a b us ds) (hb : Below w.heap.size w w') : IsSt w' a b us ds := ⟨h.1.below hb, h.2.below hb⟩

def OwnSt (w : World) (lo hi : Nat) (a b : Option Addr) (us : List Mk) (ds : List Tm) : Prop :=
  ∃ l1 h1 l2 h2, lo ≤ l1 ∧ h1 ≤ hi ∧ lo ≤ l2 ∧ h2 ≤ hi ∧ (h1 ≤ l2 ∨ h2 ≤ l1) ∧ mkF.Own w l1 h1 a us ∧ tmF.Own w l2 h2 b ds

theorem OwnSt.below {w w' : World} {lo hi : Nat} {a b : Option Addr} {us : List Mk} {ds : List Tm} (h : OwnSt w lo hi a b us ds) (hb : Below w.heap.size w w') : OwnSt w' lo hi a b us ds := by
  obtain ⟨l1, h1, l2, h2, k1, k2, k3, k4, k5, o1, o2⟩ := h
  exact ⟨l1, h1, l2, h2, k1, k2, k3, k4, k5, o1.below hb, o2.below hb⟩

theorem OwnSt.wider {w : World} {lo hi lo' hi' : Nat} {a b : Option Addr} {us : List Mk} {ds : List Tm} (h : OwnSt w lo hi a b us ds) (hl : lo' ≤ lo) (hh : hi ≤ hi') : OwnSt w lo' hi' a b us ds := by
  obtain ⟨l1, h1, l2, h2, k1, k2, k3, k4, k5, o1, o2⟩ := h
  exact ⟨l1, h1, l2, h2, by omega, by omega, by omega, by omega, k5, o1, o2⟩

theorem OwnSt.isSt {w : World} {lo hi : Nat} {a b : Option Addr} {us : List Mk} {ds : List Tm} (h : OwnSt w lo hi a b us ds) : IsSt w a b us ds := by
  obtain ⟨l1, h1, l2, h2, k1, k2, k3, k4, k5, o1, o2⟩ := h
  exact ⟨o1.is, o2.is⟩

theorem OwnSt.nil {w : World} {lo hi : Nat} {a b : Option Addr} (h : lo ≤ hi) : OwnSt w lo hi a b [] [] := ⟨lo, lo, lo, lo, Nat.le_refl _, h, Nat.le_refl _, h, .inl (Nat.le_refl _), .inl rfl, .inl rfl⟩

theorem OwnSt.aside {w : World} {lo hi : Nat} {a b : Option Addr} {us : List Mk} {ds : List Tm} {p : Addr} (h : OwnSt w lo hi a b us ds) (hp : p.block < lo) (v : Value) : OwnSt (w.setCell p v) lo hi a b us ds := by
  obtain ⟨l1, h1, l2, h2, k1, k2, k3, k4, k5, o1, o2⟩ := h
  exact ⟨l1, h1, l2, h2, k1, k2, k3, k4, k5, o1.far (by omega) v, o2.far (by omega) v⟩

theorem cellsSet : Try.prog.cellsOf 25 = 2 := by kernel_rfl

theorem cellsMarkS : Try.prog.cellsOf 22 = 1 := by kernel_rfl

theorem cellsTagS : Try.prog.cellsOf 23 = 1 := by kernel_rfl

def SetIn (w : World) (a : Option Addr) (n : Nat) (b : Option Addr) (m : Nat) (us : List Mk) (ds : List Tm) : Prop := (us.length = n ∧ n ≤ maxLen ∧ mkF.Is w a us) ∧ (ds.length = m ∧ m ≤ maxLen ∧ tmF.Is w b ds)

section
variable {H : Type} {enc : TypeId × Value → H} {w : World} {base : Nat} {held : Bool}

theorem open_set {b0 : Nat} {r : Reach} {v : Value} {d : DataW H} {p : List MemPlace} (hv : Value.okWide Try.prog w r b0 25 v) (h : DataW.Trod enc Try.prog w base (fun _ => true) held 25 v d p) :
    ∃ (a : Option Addr) (n cap : Nat) (b : Option Addr) (m cb : Nat) (us : List Mk) (ds : List Tm), v = setV a n cap b m cb ∧ SetIn w a n b m us ds := by
  obtain ⟨cs, rfl, hsz⟩ := okWide_struct Try.underlying25 hv
  rw [cellsSet] at hsz
  obtain ⟨fuel, hf⟩ := h
  obtain ⟨xs', n, _, _, _, hlen, hfd⟩ := DataW.trod_struct Try.underlying25 hf
  cases cs with
  | mk l =>
    have hl : l.length = 2 := by simpa using hsz
    match l, hl, xs', hlen with
    | [v0, v1], _, [y0, y1], _ =>
      have g0 := hfd 0 _ rfl
      have g1 := hfd 1 _ rfl
      simp [Value.cells, cellsMarkS, cellsTagS] at g0 g1
      obtain ⟨a, n, cap, e0⟩ : ∃ a n cap, v0 = .slice a n cap := by
        rcases open_slice Try.underlying22 g0 with ⟨hcs, _⟩ | ⟨a', len', cap', m, n, D, Pl, hcs, _⟩
        · simp at hcs
          exact ⟨_, _, _, hcs⟩
        · simp at hcs
          exact ⟨_, _, _, hcs⟩
      obtain ⟨b, m, cb, e1⟩ : ∃ a n cap, v1 = .slice a n cap := by
        rcases open_slice Try.underlying23 g1 with ⟨hcs, _⟩ | ⟨a', len', cap', m, n, D, Pl, hcs, _⟩
        · simp at hcs
          exact ⟨_, _, _, hcs⟩
        · simp at hcs
          exact ⟨_, _, _, hcs⟩
      subst e0 e1
      obtain ⟨us, hu⟩ := mks_cells g0
      obtain ⟨ds, hd⟩ := tms_cells g1
      exact ⟨a, n, cap, b, m, cb, us, ds, rfl, hu, hd⟩

end

theorem szSet_small (a : Option Addr) (n cap : Nat) (b : Option Addr) (m cb : Nat) (left : Int) (w : World) (h0 : 0 ≤ left) (h1 : left ≤ 1048576) (h : (n : Int) + m ≤ left) :
    Calls Try.prog 9 #[setV a n cap b m cb, .int .i64 left] w fun e w' => e = .returned (.int .i64 (left - n - m)) ∧ Below w.heap.size w w' := by
  have k1 : ¬ left - (n : Int) < 0 := by omega
  have k2 : ¬ left - (n : Int) - (m : Int) < 0 := by omega
  go_enter Try.func9, Try.ntmps9
  go_wp2_with fail
  refine (szMarkS_small _ _ _ _ _ h0 h1 (by omega)).mono ?_
  rintro e w1 ⟨rfl, rfl⟩
  go_wp2_with fail
  refine (szTagS_small _ _ _ _ _ (by omega) (by omega) (by omega)).mono ?_
  rintro e w1 ⟨rfl, rfl⟩
  go_wp2
  go_ret
  exact ⟨rfl, (Below.refl _ _).alloc (Nat.le_refl _) _⟩

theorem szSet_big (a : Option Addr) (n cap : Nat) (b : Option Addr) (m cb : Nat) (left : Int) (w : World) (h0 : 0 ≤ left) (h1 : left ≤ 1048576) (h : left < (n : Int) + m) (hn : n ≤ maxLen) (hm : m ≤ maxLen) :
    Calls Try.prog 9 #[setV a n cap b m cb, .int .i64 left] w fun e w' => e = .returned (.int .i64 (-1)) ∧ Below w.heap.size w w' := by
  by_cases hs : (n : Int) ≤ left
  · have k1 : ¬ left - (n : Int) < 0 := by omega
    go_enter Try.func9, Try.ntmps9
    go_wp2_with fail
    refine (szMarkS_small _ _ _ _ _ h0 h1 hs).mono ?_
    rintro e w1 ⟨rfl, rfl⟩
    go_wp2_with fail
    refine (szTagS_big _ _ _ _ _ (by omega) (by omega) (by omega) hm).mono ?_
    rintro e w1 ⟨rfl, rfl⟩
    go_wp2
    go_ret
    exact ⟨rfl, (Below.refl _ _).alloc (Nat.le_refl _) _⟩
  · go_enter Try.func9, Try.ntmps9
    go_wp2_with fail
    refine (szMarkS_big _ _ _ _ _ h0 h1 (by omega) hn).mono ?_
    rintro e w1 ⟨rfl, rfl⟩
    go_wp2
    go_ret
    exact ⟨rfl, (Below.refl _ _).alloc (Nat.le_refl _) _⟩

set_option maxHeartbeats 2000000 in
theorem toSet_own (a : Option Addr) (n cap : Nat) (b : Option Addr) (m cb : Nat) (us : List Mk) (ds : List Tm) (w : World) (hl : us.length = n) (hn : n ≤ 4194304) (hl' : ds.length = m) (hm : m ≤ 4194304) (hh : IsSt w a b us ds) :
    Calls Try.prog 11 #[setV a n cap b m cb] w fun e w' => ∃ g g', e = .returned (setV (some ⟨g, 0, none⟩) n n (some ⟨g', 0, none⟩) m m) ∧ OwnSt w' w.heap.size w'.heap.size (some ⟨g, 0, none⟩) (some ⟨g', 0, none⟩) us ds ∧ Below w.heap.size w w' := by
  have HC := Lib.hid hh
  have HL := Lib.hid hl
  have HL' := Lib.hid hl'
  have hres : Try.f11.results = #[.cell 2 31] := by kernel_rfl
  clear hh hl hl'
  go_enter Try.func11, Try.ntmps11
  go_wp2_with fail
  have HB : Hid (Below w.heap.size w (((w.alloc (.cells #[.slice a n cap, .slice b m cb] 25)).alloc (.cells #[.slice none 0 0, .slice none 0 0] 31)).alloc (.cells #[.slice none 0 0, .slice none 0 0] 31))) := ((((Below.refl _ _).alloc (Nat.le_refl _) _).alloc (by simp) _).alloc (by simp <;> omega) _)
  have cb1_0 : (((w.alloc (.cells #[.slice a n cap, .slice b m cb] 25)).alloc (.cells #[.slice none 0 0, .slice none 0 0] 31)).alloc (.cells #[.slice none 0 0, .slice none 0 0] 31)).cell? ⟨w.heap.size, 0, none⟩ = some (.slice a n cap) := by go_simp
  have cb1_1 : (((w.alloc (.cells #[.slice a n cap, .slice b m cb] 25)).alloc (.cells #[.slice none 0 0, .slice none 0 0] 31)).alloc (.cells #[.slice none 0 0, .slice none 0 0] 31)).cell? ⟨w.heap.size, 1, none⟩ = some (.slice b m cb) := by go_simp
  have zb1 : w.heap.size < (((w.alloc (.cells #[.slice a n cap, .slice b m cb] 25)).alloc (.cells #[.slice none 0 0, .slice none 0 0] 31)).alloc (.cells #[.slice none 0 0, .slice none 0 0] 31)).heap.size := by simp <;> omega
  have cr_0 : (((w.alloc (.cells #[.slice a n cap, .slice b m cb] 25)).alloc (.cells #[.slice none 0 0, .slice none 0 0] 31)).alloc (.cells #[.slice none 0 0, .slice none 0 0] 31)).cell? ⟨w.heap.size + 1, 0, none⟩ = some (.slice none 0 0) := by go_simp
  have cr_1 : (((w.alloc (.cells #[.slice a n cap, .slice b m cb] 25)).alloc (.cells #[.slice none 0 0, .slice none 0 0] 31)).alloc (.cells #[.slice none 0 0, .slice none 0 0] 31)).cell? ⟨w.heap.size + 1, 1, none⟩ = some (.slice none 0 0) := by go_simp
  have zr : w.heap.size + 1 < (((w.alloc (.cells #[.slice a n cap, .slice b m cb] 25)).alloc (.cells #[.slice none 0 0, .slice none 0 0] 31)).alloc (.cells #[.slice none 0 0, .slice none 0 0] 31)).heap.size := by simp <;> omega
  have fr : Hid (∀ o, (((w.alloc (.cells #[.slice a n cap, .slice b m cb] 25)).alloc (.cells #[.slice none 0 0, .slice none 0 0] 31)).alloc (.cells #[.slice none 0 0, .slice none 0 0] 31)).frozen? ⟨w.heap.size + 1, o, none⟩ = false) := fun o => by go_simp
  have cx_0 : (((w.alloc (.cells #[.slice a n cap, .slice b m cb] 25)).alloc (.cells #[.slice none 0 0, .slice none 0 0] 31)).alloc (.cells #[.slice none 0 0, .slice none 0 0] 31)).cell? ⟨w.heap.size + 1 + 1, 0, none⟩ = some (.slice none 0 0) := by go_simp
  have cx_1 : (((w.alloc (.cells #[.slice a n cap, .slice b m cb] 25)).alloc (.cells #[.slice none 0 0, .slice none 0 0] 31)).alloc (.cells #[.slice none 0 0, .slice none 0 0] 31)).cell? ⟨w.heap.size + 1 + 1, 1, none⟩ = some (.slice none 0 0) := by go_simp
  have zx : w.heap.size + 1 + 1 < (((w.alloc (.cells #[.slice a n cap, .slice b m cb] 25)).alloc (.cells #[.slice none 0 0, .slice none 0 0] 31)).alloc (.cells #[.slice none 0 0, .slice none 0 0] 31)).heap.size := by simp
  have fx : Hid (∀ o, (((w.alloc (.cells #[.slice a n cap, .slice b m cb] 25)).alloc (.cells #[.slice none 0 0, .slice none 0 0] 31)).alloc (.cells #[.slice none 0 0, .slice none 0 0] 31)).frozen? ⟨w.heap.size + 1 + 1, o, none⟩ = false) := fun o => by go_simp
  have hsV0 : w.heap.size + 1 + 1 < (((w.alloc (.cells #[.slice a n cap, .slice b m cb] 25)).alloc (.cells #[.slice none 0 0, .slice none 0 0] 31)).alloc (.cells #[.slice none 0 0, .slice none 0 0] 31)).heap.size := by simp
  generalize (((w.alloc (.cells #[.slice a n cap, .slice b m cb] 25)).alloc (.cells #[.slice none 0 0, .slice none 0 0] 31)).alloc (.cells #[.slice none 0 0, .slice none 0 0] 31)) = V0 at *
  refine (toMarkS_any a n cap us _ HL.out hn (HC.out.below HB.out).1).mono ?_
  rintro e w1 ⟨rfl, hlt, ho, hb⟩
  have hsw1 : V0.heap.size ≤ w1.heap.size := hb.size
  replace cb1_0 := fl_cells hb zb1 cb1_0
  replace cb1_1 := fl_cells hb zb1 cb1_1
  replace zb1 := Nat.lt_of_lt_of_le zb1 hb.size
  replace fr := Lib.hid (fun o => (hb.frozen (p := ⟨w.heap.size + 1, o, none⟩) zr).trans (fr.out o))
  replace cr_0 := fl_cells hb zr cr_0
  replace cr_1 := fl_cells hb zr cr_1
  replace zr := Nat.lt_of_lt_of_le zr hb.size
  replace fx := Lib.hid (fun o => (hb.frozen (p := ⟨w.heap.size + 1 + 1, o, none⟩) zx).trans (fx.out o))
  replace cx_0 := fl_cells hb zx cx_0
  replace cx_1 := fl_cells hb zx cx_1
  replace zx := Nat.lt_of_lt_of_le zx hb.size
  replace HB := Lib.hid (below_step HB.out HB.out.size hb)
  have HO1 := Lib.hid ho
  clear hb ho
  have frx := fr.out
  have fxx := fx.out
  go_wp2_with fail
  replace HO1 := Lib.hid (HO1.out.far (p := ⟨w.heap.size + 1 + 1, 0, none⟩) (Or.inl (by show w.heap.size + 1 + 1 < V0.heap.size; omega)) (.slice (some ⟨V0.heap.size, 0, none⟩) n n))
  replace HB := Lib.hid (HB.out.setCell (p := ⟨w.heap.size + 1 + 1, 0, none⟩) (Nat.le_add_right _ 2) (.slice (some ⟨V0.heap.size, 0, none⟩) n n))
  replace cb1_0 : (w1.setCell ⟨w.heap.size + 1 + 1, 0, none⟩ (.slice (some ⟨V0.heap.size, 0, none⟩) n n)).cell? ⟨w.heap.size, 0, none⟩ = _ := (World.cell?_setCell_other w1 ⟨w.heap.size + 1 + 1, 0, none⟩ ⟨w.heap.size, 0, none⟩ _ (fun e => by injection e with e1 e2; omega)).trans cb1_0
  replace cb1_1 : (w1.setCell ⟨w.heap.size + 1 + 1, 0, none⟩ (.slice (some ⟨V0.heap.size, 0, none⟩) n n)).cell? ⟨w.heap.size, 1, none⟩ = _ := (World.cell?_setCell_other w1 ⟨w.heap.size + 1 + 1, 0, none⟩ ⟨w.heap.size, 1, none⟩ _ (fun e => by injection e with e1 e2; omega)).trans cb1_1
  replace cr_0 : (w1.setCell ⟨w.heap.size + 1 + 1, 0, none⟩ (.slice (some ⟨V0.heap.size, 0, none⟩) n n)).cell? ⟨w.heap.size + 1, 0, none⟩ = _ := (World.cell?_setCell_other w1 ⟨w.heap.size + 1 + 1, 0, none⟩ ⟨w.heap.size + 1, 0, none⟩ _ (fun e => by injection e with e1 e2; omega)).trans cr_0
  replace cr_1 : (w1.setCell ⟨w.heap.size + 1 + 1, 0, none⟩ (.slice (some ⟨V0.heap.size, 0, none⟩) n n)).cell? ⟨w.heap.size + 1, 1, none⟩ = _ := (World.cell?_setCell_other w1 ⟨w.heap.size + 1 + 1, 0, none⟩ ⟨w.heap.size + 1, 1, none⟩ _ (fun e => by injection e with e1 e2; omega)).trans cr_1
  replace cx_1 : (w1.setCell ⟨w.heap.size + 1 + 1, 0, none⟩ (.slice (some ⟨V0.heap.size, 0, none⟩) n n)).cell? ⟨w.heap.size + 1 + 1, 1, none⟩ = _ := (World.cell?_setCell_other w1 ⟨w.heap.size + 1 + 1, 0, none⟩ ⟨w.heap.size + 1 + 1, 1, none⟩ _ (fun e => by injection e with e1 e2; omega)).trans cx_1
  replace cx_0 : (w1.setCell ⟨w.heap.size + 1 + 1, 0, none⟩ (.slice (some ⟨V0.heap.size, 0, none⟩) n n)).cell? ⟨w.heap.size + 1 + 1, 0, none⟩ = some (.slice (some ⟨V0.heap.size, 0, none⟩) n n) := World.cell?_setCell_same _ _ _ cx_0
  replace fr : Hid (∀ o, (w1.setCell ⟨w.heap.size + 1 + 1, 0, none⟩ (.slice (some ⟨V0.heap.size, 0, none⟩) n n)).frozen? ⟨w.heap.size + 1, o, none⟩ = false) := fun o => (World.frozen?_setCell _ _ _ _).trans (frx o)
  replace fx : Hid (∀ o, (w1.setCell ⟨w.heap.size + 1 + 1, 0, none⟩ (.slice (some ⟨V0.heap.size, 0, none⟩) n n)).frozen? ⟨w.heap.size + 1 + 1, o, none⟩ = false) := fun o => (World.frozen?_setCell _ _ _ _).trans (fxx o)
  have hs1 : (w1.setCell ⟨w.heap.size + 1 + 1, 0, none⟩ (.slice (some ⟨V0.heap.size, 0, none⟩) n n)).heap.size = w1.heap.size := by simp
  replace zb1 : w.heap.size < (w1.setCell ⟨w.heap.size + 1 + 1, 0, none⟩ (.slice (some ⟨V0.heap.size, 0, none⟩) n n)).heap.size := by omega
  replace zr : w.heap.size + 1 < (w1.setCell ⟨w.heap.size + 1 + 1, 0, none⟩ (.slice (some ⟨V0.heap.size, 0, none⟩) n n)).heap.size := by omega
  replace zx : w.heap.size + 1 + 1 < (w1.setCell ⟨w.heap.size + 1 + 1, 0, none⟩ (.slice (some ⟨V0.heap.size, 0, none⟩) n n)).heap.size := by omega
  have hlt2 : V0.heap.size < (w1.setCell ⟨w.heap.size + 1 + 1, 0, none⟩ (.slice (some ⟨V0.heap.size, 0, none⟩) n n)).heap.size := by rw [hs1]; exact hlt
  clear frx fxx hlt
  generalize (w1.setCell ⟨w.heap.size + 1 + 1, 0, none⟩ (.slice (some ⟨V0.heap.size, 0, none⟩) n n)) = W1 at *
  refine (toTagS_any b m cb ds _ HL'.out hm (HC.out.below HB.out).2).mono ?_
  rintro e w2 ⟨rfl, hlt, ho, hb⟩
  have hsw2 : W1.heap.size ≤ w2.heap.size := hb.size
  replace cb1_0 := fl_cells hb zb1 cb1_0
  replace cb1_1 := fl_cells hb zb1 cb1_1
  replace zb1 := Nat.lt_of_lt_of_le zb1 hb.size
  replace fr := Lib.hid (fun o => (hb.frozen (p := ⟨w.heap.size + 1, o, none⟩) zr).trans (fr.out o))
  replace cr_0 := fl_cells hb zr cr_0
  replace cr_1 := fl_cells hb zr cr_1
  replace zr := Nat.lt_of_lt_of_le zr hb.size
  replace fx := Lib.hid (fun o => (hb.frozen (p := ⟨w.heap.size + 1 + 1, o, none⟩) zx).trans (fx.out o))
  replace cx_0 := fl_cells hb zx cx_0
  replace cx_1 := fl_cells hb zx cx_1
  replace zx := Nat.lt_of_lt_of_le zx hb.size
  replace HO1 := Lib.hid (HO1.out.below hb)
  replace HB := Lib.hid (below_step HB.out HB.out.size hb)
  have HO2 := Lib.hid ho
  clear hb ho
  have frx := fr.out
  have fxx := fx.out
  have HOC : Hid (OwnSt w2 V0.heap.size w2.heap.size (some ⟨V0.heap.size, 0, none⟩) (some ⟨W1.heap.size, 0, none⟩) us ds) := ⟨_, _, _, _, Nat.le_refl _, by omega, by omega, by omega, .inl (by omega), HO1.out, HO2.out⟩
  clear HO1 HO2
  go_wp2
  refine bodyPost_ret (v := setV (some ⟨V0.heap.size, 0, none⟩) n n (some ⟨W1.heap.size, 0, none⟩) m m) ?_ rfl ?_
  · simp only [results, hres]
    go_simp
  · refine ⟨V0.heap.size, W1.heap.size, rfl, ?_, ?_⟩
    · exact (((HOC.out.aside (p := ⟨w.heap.size + 1 + 1, 1, none⟩) (by show w.heap.size + 1 + 1 < V0.heap.size; omega) _).aside (p := ⟨w.heap.size + 1, 0, none⟩) (by show w.heap.size + 1 < V0.heap.size; omega) _).aside (p := ⟨w.heap.size + 1, 1, none⟩) (by show w.heap.size + 1 < V0.heap.size; omega) _).wider (by omega) (by simp)
    · exact ((HB.out.setCell (p := ⟨w.heap.size + 1 + 1, 1, none⟩) (Nat.le_add_right _ 2) _).setCell (p := ⟨w.heap.size + 1, 0, none⟩) (Nat.le_add_right _ 1) _).setCell (p := ⟨w.heap.size + 1, 1, none⟩) (Nat.le_add_right _ 1) _

theorem eqSet_same (a : Option Addr) (n cap : Nat) (b : Option Addr) (m cb : Nat) (a' : Option Addr) (cap' : Nat) (b' : Option Addr) (cb' : Nat) (us : List Mk) (ds : List Tm) (w : World) (hl : us.length = n) (hn : n ≤ 4194304) (hl' : ds.length = m) (hm : m ≤ 4194304) (hh : IsSt w a b us ds) (hg : IsSt w a' b' us ds) :
    Calls Try.prog 13 #[setV a n cap b m cb, setV a' n cap' b' m cb'] w fun e w' => e = .returned (.bool true) ∧ Below w.heap.size w w' := by
  have HH := Lib.hid hh
  have HG := Lib.hid hg
  have HL := Lib.hid hl
  have HL' := Lib.hid hl'
  clear hh hg hl hl'
  go_enter Try.func13, Try.ntmps13
  go_wp2_with fail
  have HB : Hid (Below w.heap.size w ((w.alloc (.cells #[.slice a n cap, .slice b m cb] 31)).alloc (.cells #[.slice a' n cap', .slice b' m cb'] 31))) := (((Below.refl _ _).alloc (Nat.le_refl _) _).alloc (by simp) _)
  have cb1_0 : ((w.alloc (.cells #[.slice a n cap, .slice b m cb] 31)).alloc (.cells #[.slice a' n cap', .slice b' m cb'] 31)).cell? ⟨w.heap.size, 0, none⟩ = some (.slice a n cap) := by go_simp
  have cb1_1 : ((w.alloc (.cells #[.slice a n cap, .slice b m cb] 31)).alloc (.cells #[.slice a' n cap', .slice b' m cb'] 31)).cell? ⟨w.heap.size, 1, none⟩ = some (.slice b m cb) := by go_simp
  have zb1 : w.heap.size < ((w.alloc (.cells #[.slice a n cap, .slice b m cb] 31)).alloc (.cells #[.slice a' n cap', .slice b' m cb'] 31)).heap.size := by simp <;> omega
  have cb2_0 : ((w.alloc (.cells #[.slice a n cap, .slice b m cb] 31)).alloc (.cells #[.slice a' n cap', .slice b' m cb'] 31)).cell? ⟨w.heap.size + 1, 0, none⟩ = some (.slice a' n cap') := by go_simp
  have cb2_1 : ((w.alloc (.cells #[.slice a n cap, .slice b m cb] 31)).alloc (.cells #[.slice a' n cap', .slice b' m cb'] 31)).cell? ⟨w.heap.size + 1, 1, none⟩ = some (.slice b' m cb') := by go_simp
  have zb2 : w.heap.size + 1 < ((w.alloc (.cells #[.slice a n cap, .slice b m cb] 31)).alloc (.cells #[.slice a' n cap', .slice b' m cb'] 31)).heap.size := by simp
  have hsV0 : w.heap.size + 1 < ((w.alloc (.cells #[.slice a n cap, .slice b m cb] 31)).alloc (.cells #[.slice a' n cap', .slice b' m cb'] 31)).heap.size := by simp
  generalize ((w.alloc (.cells #[.slice a n cap, .slice b m cb] 31)).alloc (.cells #[.slice a' n cap', .slice b' m cb'] 31)) = V0 at *
  refine (eqMarkS_same a a' n cap cap' us _ HL.out hn (HH.out.1.below HB.out) (HG.out.1.below HB.out)).mono ?_
  rintro e w1 ⟨rfl, hb⟩
  have hsw1 : V0.heap.size ≤ w1.heap.size := hb.size
  replace cb1_0 := fl_cells hb zb1 cb1_0
  replace cb1_1 := fl_cells hb zb1 cb1_1
  replace zb1 := Nat.lt_of_lt_of_le zb1 hb.size
  replace cb2_0 := fl_cells hb zb2 cb2_0
  replace cb2_1 := fl_cells hb zb2 cb2_1
  replace zb2 := Nat.lt_of_lt_of_le zb2 hb.size
  replace HB := Lib.hid (below_step HB.out HB.out.size hb)
  clear hb
  go_wp2_with fail
  refine (eqTagS_same b b' m cb cb' ds _ HL'.out hm (HH.out.2.below HB.out) (HG.out.2.below HB.out)).mono ?_
  rintro e w2 ⟨rfl, hb⟩
  have hsw2 : w1.heap.size ≤ w2.heap.size := hb.size
  replace cb1_0 := fl_cells hb zb1 cb1_0
  replace cb1_1 := fl_cells hb zb1 cb1_1
  replace zb1 := Nat.lt_of_lt_of_le zb1 hb.size
  replace cb2_0 := fl_cells hb zb2 cb2_0
  replace cb2_1 := fl_cells hb zb2 cb2_1
  replace zb2 := Nat.lt_of_lt_of_le zb2 hb.size
  replace HB := Lib.hid (below_step HB.out HB.out.size hb)
  clear hb
  go_wp2
  go_ret
  exact ⟨rfl, HB.out⟩

def MarkedSt (w : World) (a : Option Addr) (n : Nat) (b : Option Addr) (m : Nat) (k : Int) : Prop := mkF.Marked w a n k ∧ tmF.Marked w b m (k + 4 * n)

theorem MarkedSt.below {w w' : World} {a : Option Addr} {n : Nat} {b : Option Addr} {m : Nat} {k : Int} (h : MarkedSt w a n b m k) (hb : Below w.heap.size w w') : MarkedSt w' a n b m k := ⟨h.1.below hb, h.2.below hb⟩

def StF (B n m : Nat) (us : List Mk) (ds : List Tm) : Fact := fun v w => ∃ g h, v = setV (some ⟨g, 0, none⟩) n n (some ⟨h, 0, none⟩) m m ∧ OwnSt w B w.heap.size (some ⟨g, 0, none⟩) (some ⟨h, 0, none⟩) us ds

theorem lasts_stF (B n m : Nat) (us : List Mk) (ds : List Tm) : lasts FlR (StF B n m us ds) := by
  rintro v w w' ⟨g, h, h1, h2⟩ hr
  exact ⟨g, h, h1, (h2.below hr).wider (Nat.le_refl _) hr.size⟩

end Go.Proofs.Ytkcbknjmpfgimaa

namespace Go.Proofs.Ytkcbknjmpfgimaa
open Go.ChangeShapes Go.WideShapes Go.ChangeAt Go.RowKit Go.Joins

end Go.Proofs.Ytkcbknjmpfgimaa

namespace Go.Proofs.Ytkcbknjmpfgimaa

end Go.Proofs.Ytkcbknjmpfgimaa

namespace Go.Proofs.Ytkcbknjmpfgimaa

def lexI (a b : Int) : Int := if a ≠ 0 then a else b

structure T3 (x y z : Int) : Prop where
  l : x = 0 → z = y
  r : y = 0 → z = x
  n : x < 0 → y < 0 → z < 0

theorem T3.lex {x y z x' y' z' : Int} (h : T3 x y z) (h' : T3 x' y' z') : T3 (lexI x x') (lexI y y') (lexI z z') := by
  obtain ⟨l, r, n⟩ := h
  obtain ⟨l', r', n'⟩ := h'
  unfold lexI
  by_cases hx : x = 0
  · have hz := l hx
    by_cases hy : y = 0
    · have hz0 : z = 0 := by omega
      simp only [hx, hy, hz0, ne_eq, not_true_eq_false, if_false]
      exact ⟨l', r', n'⟩
    · have hz0 : z ≠ 0 := by omega
      simp only [hx, hy, hz0, ne_eq, not_true_eq_false, not_false_eq_true, if_false, if_true]
      exact ⟨fun _ => hz, fun e => absurd e hy, fun h1 h2 => by omega⟩
  · by_cases hy : y = 0
    · have hz := r hy
      have hz0 : z ≠ 0 := by omega
      simp only [hx, hy, hz0, ne_eq, not_true_eq_false, not_false_eq_true, if_false, if_true]
      exact ⟨fun e => absurd e hx, fun _ => hz, fun h1 h2 => by omega⟩
    · simp only [hx, hy, ne_eq, not_false_eq_true, if_true]
      refine ⟨fun e => absurd e hx, fun e => absurd e hy, fun h1 h2 => ?_⟩
      have := n h1 h2
      rw [if_pos (by omega)]
      exact this

theorem lexI_neg (a b : Int) : lexI (-a) (-b) = -lexI a b := by
  unfold lexI
  by_cases h : a = 0
  · simp [h]
  · have h' : -a ≠ 0 := by omega
    simp [h]

theorem sgn_three (a b c : Int) : T3 (sgn a b) (sgn b c) (sgn a c) := by
  refine ⟨fun h => ?_, fun h => ?_, fun h1 h2 => ?_⟩
  · rw [sgn_zero.1 h]
  · rw [sgn_zero.1 h]
  · unfold sgn at *
    by_cases e1 : a < b
    · by_cases e2 : b < c
      · rw [if_pos (by omega)]
        omega
      · rw [if_neg e2] at h2
        split at h2 <;> omega
    · rw [if_neg e1] at h1
      split at h1 <;> omega

theorem tcmp_lex (c s q c' s' q' : Int) : tcmp c s q c' s' q' = lexI (sgn c c') (lexI (sgn s s') (sgn q q')) := by
  unfold tcmp lexI
  simp only [ne_eq, sgn_zero]

theorem tcmp_three (a1 a2 a3 b1 b2 b3 c1 c2 c3 : Int) : T3 (tcmp a1 a2 a3 b1 b2 b3) (tcmp b1 b2 b3 c1 c2 c3) (tcmp a1 a2 a3 c1 c2 c3) := by
  rw [tcmp_lex, tcmp_lex, tcmp_lex]
  exact (sgn_three _ _ _).lex ((sgn_three _ _ _).lex (sgn_three _ _ _))

theorem tcmp_neg (a1 a2 a3 b1 b2 b3 : Int) : tcmp b1 b2 b3 a1 a2 a3 = -tcmp a1 a2 a3 b1 b2 b3 := by
  rw [tcmp_lex, tcmp_lex, ← lexI_neg, ← lexI_neg, sgn_neg a1 b1, sgn_neg a2 b2, sgn_neg a3 b3]

end Go.Proofs.Ytkcbknjmpfgimaa

namespace Go.Proofs.Ytkcbknjmpfgimaa

def tc (a b : Tm) : Int := tcmp a.c a.s a.q b.c b.s b.q

abbrev tOk (t : Tm) : Bool := tagOkB t.c t.s t.q

def mkT (m : Mk) : Tm := ⟨m.c, m.s, m.q⟩

theorem tm_ext {a b : Tm} (h1 : a.c = b.c) (h2 : a.s = b.s) (h3 : a.q = b.q) : a = b := by
  cases a
  cases b
  simp at h1 h2 h3
  simp [h1, h2, h3]

theorem mk_ext {a b : Mk} (h0 : a.e = b.e) (h : mkT a = mkT b) : a = b := by
  cases a
  cases b
  simp [mkT] at h0 h
  simp [h0, h]

theorem tc_zero {a b : Tm} : tc a b = 0 ↔ a = b := by
  unfold tc
  rw [tcmp_zero]
  exact ⟨fun h => tm_ext h.1 h.2.1 h.2.2, fun h => by rw [h]; exact ⟨rfl, rfl, rfl⟩⟩

theorem tc_neg (a b : Tm) : tc b a = -tc a b := tcmp_neg _ _ _ _ _ _

theorem tc_three (a b c : Tm) : T3 (tc a b) (tc b c) (tc a c) := tcmp_three _ _ _ _ _ _ _ _ _

theorem tc_self (a : Tm) : tc a a = 0 := tc_zero.2 rfl

theorem tc_trans {a b c : Tm} (h : tc a b < 0) (h' : tc b c < 0) : tc a c < 0 := (tc_three a b c).n h h'

instance : DecidableEq Tm := fun a b => if h : tc a b = 0 then isTrue (tc_zero.1 h) else isFalse fun e => h (tc_zero.2 e)

def RiseT (xs : List Tm) : Prop := xs.Pairwise fun a b => tc a b < 0

def tagsOkB : List Tm → Bool
  | [] => true
  | x :: r => tOk x && (match r with | [] => true | y :: _ => decide (tc x y < 0)) && tagsOkB r

theorem tagsOk_iff : ∀ xs : List Tm, tagsOkB xs = true ↔ (RiseT xs ∧ ∀ x ∈ xs, tOk x = true)
  | [] => by simp [tagsOkB, RiseT]
  | [x] => by simp [tagsOkB, RiseT]
  | x :: y :: r => by
    have h := tagsOk_iff (y :: r)
    have e : tagsOkB (x :: y :: r) = (tOk x && decide (tc x y < 0) && tagsOkB (y :: r)) := rfl
    rw [e, Bool.and_eq_true, Bool.and_eq_true, decide_eq_true_iff, h]
    have hp : RiseT (x :: y :: r) ↔ (∀ z ∈ y :: r, tc x z < 0) ∧ RiseT (y :: r) := List.pairwise_cons
    rw [hp]
    constructor
    · rintro ⟨⟨h1, h2⟩, h3, h4⟩
      refine ⟨⟨fun z hz => ?_, h3⟩, fun z hz => ?_⟩
      · rcases List.mem_cons.1 hz with rfl | hz
        · exact h2
        · exact tc_trans h2 ((List.pairwise_cons.1 h3).1 z hz)
      · rcases List.mem_cons.1 hz with rfl | hz
        · exact h1
        · exact h4 z hz
    · rintro ⟨⟨h1, h3⟩, h4⟩
      exact ⟨⟨h4 x (List.mem_cons_self ..), h1 y (List.mem_cons_self ..)⟩, h3, fun z hz => h4 z (List.mem_cons_of_mem _ hz)⟩

def tagGood (xs : List Tm) (k : Nat) : Bool := tOk (xs.getD k tmZ) && decide (k = 0 ∨ tc (xs.getD (k - 1) tmZ) (xs.getD k tmZ) < 0)

theorem tagsOk_all : ∀ xs : List Tm, (∀ k, k < xs.length → tagGood xs k = true) → tagsOkB xs = true
  | [], _ => rfl
  | [x], h => by
    have := h 0 (by simp)
    simp [tagGood] at this
    simp [tagsOkB, this]
  | x :: y :: r, h => by
    have h0 := h 0 (by simp)
    have h1 := h 1 (by simp)
    have hr := tagsOk_all (y :: r) (fun k hk => by
      have hk' := h (k + 1) (by simp at hk ⊢; omega)
      cases k with
      | zero => simp [tagGood] at hk' ⊢; exact hk'.1
      | succ j => simpa [tagGood] using hk')
    simp [tagGood] at h0 h1
    have e : tagsOkB (x :: y :: r) = (tOk x && decide (tc x y < 0) && tagsOkB (y :: r)) := rfl
    rw [e, hr]
    simp [h0, h1]

theorem tagsOk_good : ∀ (xs : List Tm), tagsOkB xs = true → ∀ k, k < xs.length → tagGood xs k = true
  | [], _, k, hk => by simp at hk
  | [x], h, k, hk => by
    have : k = 0 := by simpa using hk
    subst this
    simp [tagsOkB] at h
    simp [tagGood, h]
  | x :: y :: r, h, k, hk => by
    have e : tagsOkB (x :: y :: r) = (tOk x && decide (tc x y < 0) && tagsOkB (y :: r)) := rfl
    rw [e, Bool.and_eq_true, Bool.and_eq_true, decide_eq_true_iff] at h
    have hr := tagsOk_good (y :: r) h.2
    match k, hk with
    | 0, _ => simp [tagGood, h.1.1]
    | 1, _ =>
      have := hr 0 (by simp)
      simp [tagGood] at this
      simp [tagGood, this, h.1.2]
    | k + 2, hk =>
      have := hr (k + 1) (by simpa using hk)
      simpa [tagGood] using this

theorem tagsOk_false {xs : List Tm} {k : Nat} (hk : k < xs.length) (h : tagGood xs k = false) : tagsOkB xs = false := by
  cases e : tagsOkB xs
  · rfl
  · rw [tagsOk_good xs e k hk] at h
    cases h

def setOkB (us : List Mk) (ds : List Tm) : Bool := us.all (fun m => btw m.e 0 1000) && tagsOkB (us.map mkT) && tagsOkB ds

theorem setOk_iff (us : List Mk) (ds : List Tm) : setOkB us ds = true ↔ ((∀ m ∈ us, btw m.e 0 1000 = true) ∧ tagsOkB (us.map mkT) = true) ∧ tagsOkB ds = true := by
  unfold setOkB
  rw [Bool.and_eq_true, Bool.and_eq_true, List.all_eq_true]

def goneB (ds : List Tm) (t : Tm) : Bool := decide (t ∈ ds)

def eOf : List Mk → Tm → Option Int
  | [], _ => none
  | m :: r, t => if mkT m = t then some m.e else eOf r t

theorem eOf_some {us : List Mk} {t : Tm} {e : Int} (h : eOf us t = some e) : ⟨e, t.c, t.s, t.q⟩ ∈ us := by
  induction us with
  | nil => simp [eOf] at h
  | cons m r ih =>
    unfold eOf at h
    by_cases hm : mkT m = t
    · rw [if_pos hm] at h
      have : m = ⟨e, t.c, t.s, t.q⟩ := mk_ext (by simpa using h) (by rw [hm]; rfl)
      rw [this]
      exact List.mem_cons_self ..
    · rw [if_neg hm] at h
      exact List.mem_cons_of_mem _ (ih h)

theorem eOf_none {us : List Mk} {t : Tm} : eOf us t = none ↔ t ∉ us.map mkT := by
  induction us with
  | nil => simp [eOf]
  | cons m r ih =>
    unfold eOf
    by_cases hm : mkT m = t
    · simp [hm]
    · rw [if_neg hm, ih, List.map_cons, List.mem_cons]
      exact ⟨fun h1 h2 => h2.elim (fun e => hm e.symm) h1, fun h1 h2 => h1 (.inr h2)⟩

theorem eOf_mem {us : List Mk} (hr : RiseT (us.map mkT)) {m : Mk} (hm : m ∈ us) : eOf us (mkT m) = some m.e := by
  induction us with
  | nil => simp at hm
  | cons x r ih =>
    rw [List.map_cons] at hr
    have h2 := List.pairwise_cons.1 hr
    unfold eOf
    rcases List.mem_cons.1 hm with rfl | hm
    · rw [if_pos rfl]
    · have h3 := h2.1 (mkT m) (List.mem_map_of_mem hm)
      rw [if_neg (fun e => by rw [e, tc_self] at h3; omega)]
      exact ih h2.2 hm

/-! ### A tag put to tags, a mark put to marks -/

theorem getD_map {us : List Mk} {k : Nat} (hk : k < us.length) : (us.map mkT).getD k tmZ = mkT (us.getD k mkZ) := by
  simp [List.getD, hk]

theorem eOf_append : ∀ (us vs : List Mk) (t : Tm), eOf (us ++ vs) t = (eOf us t).or (eOf vs t)
  | [], vs, t => by simp [eOf]
  | m :: r, vs, t => by
    have h := eOf_append r vs t
    simp only [List.cons_append, eOf]
    by_cases hm : mkT m = t
    · simp [hm]
    · simp [hm, h]

/-! ### What the chapter's functions answer -/

def hasB (us : List Mk) (ds : List Tm) (e : Int) : Bool := us.any fun m => m.e == e && !goneB ds (mkT m)

def lesser : Option Int → Option Int → Option Int
  | none, y => y
  | x, none => x
  | some a, some b => some (min a b)

end Go.Proofs.Ytkcbknjmpfgimaa
