/- The program's VecJoin, VecCmp, VecTick, MayCome. -/
import Derived.Test.YtolmlcbgdihcbabPack2
namespace Go.Proofs.Ytolmlcbgdihcbab
open Go.ChangeShapes Go.WideShapes Go.ChangeAt Go.RowKit Go.Joins
attribute [local go_sem ↓] Go.wp_at_zero Go.wp_at_succ

def joinV (xs ys : List Int) : List Int := if vecB xs && vecB ys then List.zipWith max xs ys else []

theorem joinV_good {xs ys : List Int} (h : vecB xs = true) (h' : vecB ys = true) : joinV xs ys = List.zipWith max xs ys := by
  unfold joinV
  rw [h, h']
  rfl

theorem joinV_bad {xs ys : List Int} (h : (vecB xs && vecB ys) = false) : joinV xs ys = [] := by
  unfold joinV
  rw [h]
  rfl

/-- Whatever numbers come beside 'false'. -/
theorem ticksOf_bad (a : Option Addr) (n cap : Nat) (zs : List Int) (w : World) (hl : zs.length = n) (hn : n ≤ maxLen) (hh : IsIs w a zs) (hv : vecB zs = false) :
    Calls Try.prog 24 #[.slice a n cap] w fun e w' => (∃ z0 z1 z2 z3, e = .returned (.tuple #[tkV z0 z1 z2 z3, .bool false])) ∧ Below w.heap.size w w' :=
  (ticksOf_any a n cap zs w hl hn hh).mono fun _ _ ⟨⟨z0, z1, z2, z3, he, _⟩, hb⟩ => ⟨⟨z0, z1, z2, z3, by rw [he, hv]⟩, hb⟩

theorem ticksOf_good (a : Option Addr) (cap : Nat) (x0 x1 x2 x3 : Int) (w : World) (hh : IsIs w a [x0, x1, x2, x3]) (hv : vecB [x0, x1, x2, x3] = true) :
    Calls Try.prog 24 #[.slice a 4 cap] w fun e w' => e = .returned (.tuple #[tkV x0 x1 x2 x3, .bool true]) ∧ Below w.heap.size w w' :=
  (ticksOf_any a 4 cap _ w rfl (by unfold maxLen; omega) hh).mono fun _ _ ⟨⟨z0, z1, z2, z3, he, hz⟩, hb⟩ => by
    have h := hz hv
    simp only [List.cons.injEq, and_true] at h
    obtain ⟨rfl, rfl, rfl, rfl⟩ := h
    exact ⟨by rw [he, hv], hb⟩

theorem own4 (w : World) (lo : Nat) (h : lo ≤ w.heap.size) (z0 z1 z2 z3 : Int) (t g : Nat) (hg : g = w.heap.size) : OwnI (w.alloc (.cells #[.int .i64 z0, .int .i64 z1, .int .i64 z2, .int .i64 z3] t)) lo (w.alloc (.cells #[.int .i64 z0, .int .i64 z1, .int .i64 z2, .int .i64 z3] t)).heap.size (some ⟨g, 0, none⟩) [z0, z1, z2, z3] := by
  subst hg
  refine .inr ⟨w.heap.size, rfl, h, by simp, by simp, fun i hi => ?_, fun o => by go_simp⟩
  match i, hi with
  | 0, _ | 1, _ | 2, _ | 3, _ => go_simp

set_option maxRecDepth 100000 in
set_option maxHeartbeats 4000000 in
theorem implVecJoin_any (a a' : Option Addr) (n n' cap cap' : Nat) (xs ys : List Int) (w : World) (hl : xs.length = n) (hn : n ≤ maxLen) (hh : IsIs w a xs) (hl' : ys.length = n') (hn' : n' ≤ maxLen) (hh' : IsIs w a' ys) :
    Calls Try.prog 8 #[vecV a n cap, vecV a' n' cap'] w fun e w' => ∃ g cp, e = .returned (vecV g (joinV xs ys).length cp) ∧ OwnI w' w.heap.size w'.heap.size g (joinV xs ys) ∧ Below w.heap.size w w' := by
  have HH : Hid (IsIs w a xs) := hh
  have HN : Hid (xs.length = n) := hl
  have HH' : Hid (IsIs w a' ys) := hh'
  have HN' : Hid (ys.length = n') := hl'
  have hres : Try.f8.results = #[.cell 4 26] := by kernel_rfl
  have HB0 : Hid (Below w.heap.size w (((w.alloc (.cells #[.slice a n cap] 26)).alloc (.cells #[.slice a' n' cap'] 26)).alloc (.cells #[.slice none 0 0] 26))) := (((Below.refl _ _).alloc (Nat.le_refl _) _).alloc (by simp) _).alloc (by simp; omega) _
  clear hh hl hh' hl'
  cases hv : vecB xs
  · have HV := Lib.hid hv
    have HJ : Hid (joinV xs ys = []) := joinV_bad (by rw [hv]; rfl)
    clear hv
    go_enter Try.func8, Try.ntmps8
    go_wp2_with fail
    refine (ticksOf_bad a n cap xs _ HN.out hn (HH.out.below HB0.out) HV.out).mono ?_
    rintro e w1 ⟨⟨z0, z1, z2, z3, rfl⟩, hb⟩
    have HB1 := Lib.hid (below_step HB0.out HB0.out.size hb)
    obtain ⟨hc, hf⟩ := bcell hb
    have hz : w.heap.size + 1 + 1 < w1.heap.size := by have := hb.size; simp at this; omega
    have hz1 : w.heap.size + 1 < w1.heap.size := by omega
    clear hb
    have hA : Below w1.heap.size w1 (w1.alloc (.cells #[.int .i64 z0, .int .i64 z1, .int .i64 z2, .int .i64 z3] 52)) := (Below.refl _ _).alloc (Nat.le_refl _) _
    have HBA := Lib.hid (below_step HB1.out HB1.out.size hA)
    clear hA
    go_wp2_with fail
    refine (ticksOf_any a' n' cap' ys _ HN'.out hn' (HH'.out.below HBA.out)).mono ?_
    rintro e w2 ⟨⟨y0, y1, y2, y3, rfl, -⟩, hb⟩
    have HB2 := Lib.hid (below_step HBA.out HBA.out.size hb)
    obtain ⟨hc2, hf2⟩ := bcell hb
    have hz2 : w1.heap.size < w2.heap.size := by have := hb.size; simp at this; omega
    have hz3 : w.heap.size + 1 + 1 < w2.heap.size := by omega
    have hz4 : w.heap.size + 1 < w2.heap.size := by omega
    clear hb
    go_wp2
    refine bodyPost_ret (v := vecV none 0 0) (by simp only [results, hres]; go_simp) rfl ⟨none, 0, by rw [HJ.out]; rfl, by rw [HJ.out]; exact .inl rfl, ?_⟩
    exact (HB2.out.setCell (p := ⟨w.heap.size + 1 + 1, 0, none⟩) (Nat.le_add_right _ 2) _).alloc (by have := HB2.out.size; simpa using this) _
  · obtain ⟨x0, x1, x2, x3, rfl, hx0, hx1, hx2, hx3⟩ := vecB_four hv
    have hn4 : n = 4 := HN.out.symm
    subst hn4
    have HV := Lib.hid hv
    cases hv' : vecB ys
    · have HV' := Lib.hid hv'
      have HJ : Hid (joinV [x0, x1, x2, x3] ys = []) := joinV_bad (by rw [hv', Bool.and_false])
      clear hv hv' hx0 hx1 hx2 hx3
      go_enter Try.func8, Try.ntmps8
      go_wp2_with fail
      refine (ticksOf_good a cap x0 x1 x2 x3 _ (HH.out.below HB0.out) HV.out).mono ?_
      rintro e w1 ⟨rfl, hb⟩
      have HB1 := Lib.hid (below_step HB0.out HB0.out.size hb)
      obtain ⟨hc, hf⟩ := bcell hb
      have hz : w.heap.size + 1 + 1 < w1.heap.size := by have := hb.size; simp at this; omega
      have hz1 : w.heap.size + 1 < w1.heap.size := by omega
      clear hb
      have hA : Below w1.heap.size w1 (w1.alloc (.cells #[.int .i64 x0, .int .i64 x1, .int .i64 x2, .int .i64 x3] 52)) := (Below.refl _ _).alloc (Nat.le_refl _) _
      have HBA := Lib.hid (below_step HB1.out HB1.out.size hA)
      clear hA
      go_wp2_with fail
      refine (ticksOf_bad a' n' cap' ys _ HN'.out hn' (HH'.out.below HBA.out) HV'.out).mono ?_
      rintro e w2 ⟨⟨y0, y1, y2, y3, rfl⟩, hb⟩
      have HB2 := Lib.hid (below_step HBA.out HBA.out.size hb)
      obtain ⟨hc2, hf2⟩ := bcell hb
      have hz2 : w1.heap.size < w2.heap.size := by have := hb.size; simp at this; omega
      have hz3 : w.heap.size + 1 + 1 < w2.heap.size := by omega
      have hz4 : w.heap.size + 1 < w2.heap.size := by omega
      clear hb
      go_wp2
      refine bodyPost_ret (v := vecV none 0 0) (by simp only [results, hres]; go_simp) rfl ⟨none, 0, by rw [HJ.out]; rfl, by rw [HJ.out]; exact .inl rfl, ?_⟩
      exact (HB2.out.setCell (p := ⟨w.heap.size + 1 + 1, 0, none⟩) (Nat.le_add_right _ 2) _).alloc (by have := HB2.out.size; simpa using this) _
    · obtain ⟨y0, y1, y2, y3, rfl, hy0, hy1, hy2, hy3⟩ := vecB_four hv'
      have hn4 : n' = 4 := HN'.out.symm
      subst hn4
      have HV' := Lib.hid hv'
      have HJ : Hid (joinV [x0, x1, x2, x3] [y0, y1, y2, y3] = [max x0 y0, max x1 y1, max x2 y2, max x3 y3]) := joinV_good hv hv'
      clear hv hv' hx0 hx1 hx2 hx3 hy0 hy1 hy2 hy3
      go_enter Try.func8, Try.ntmps8
      go_wp2_with fail
      refine (ticksOf_good a cap x0 x1 x2 x3 _ (HH.out.below HB0.out) HV.out).mono ?_
      rintro e w1 ⟨rfl, hb⟩
      have HB1 := Lib.hid (below_step HB0.out HB0.out.size hb)
      obtain ⟨hc, hf⟩ := bcell hb
      have hz : w.heap.size + 1 + 1 < w1.heap.size := by have := hb.size; simp at this; omega
      have hz1 : w.heap.size + 1 < w1.heap.size := by omega
      clear hb
      have hA : Below w1.heap.size w1 (w1.alloc (.cells #[.int .i64 x0, .int .i64 x1, .int .i64 x2, .int .i64 x3] 52)) := (Below.refl _ _).alloc (Nat.le_refl _) _
      have HBA := Lib.hid (below_step HB1.out HB1.out.size hA)
      clear hA
      go_wp2_with fail
      refine (ticksOf_good a' cap' y0 y1 y2 y3 _ (HH'.out.below HBA.out) HV'.out).mono ?_
      rintro e w2 ⟨rfl, hb⟩
      have HB2 := Lib.hid (below_step HBA.out HBA.out.size hb)
      obtain ⟨hc2, hf2⟩ := bcell hb
      have hz2 : w1.heap.size < w2.heap.size := by have := hb.size; simp at this; omega
      have hz3 : w.heap.size + 1 + 1 < w2.heap.size := by omega
      have hz4 : w.heap.size + 1 < w2.heap.size := by omega
      clear hb
      have HBC := Lib.hid (HB2.out.alloc HB2.out.size (.cells #[.int .i64 y0, .int .i64 y1, .int .i64 y2, .int .i64 y3] 52))
      go_wp2_with fail
      refine (tkJoin_any x0 x1 x2 x3 y0 y1 y2 y3 _).mono ?_
      rintro e w3 ⟨rfl, hb⟩
      have HB3 := Lib.hid (below_step HBC.out HBC.out.size hb)
      obtain ⟨hc3, hf3⟩ := bcell hb
      have hz5 : w.heap.size + 1 + 1 < w3.heap.size := by have := hb.size; simp at this; omega
      clear hb
      go_wp2_with fail
      refine (tkList_any _ _ _ _ _).mono ?_
      rintro e w4 ⟨rfl, rfl⟩
      go_wp2
      refine bodyPost_ret (v := vecV (some ⟨w3.heap.size, 0, none⟩) 4 4) (by simp only [results, hres]; go_simp) rfl ⟨some ⟨w3.heap.size, 0, none⟩, 4, by rw [HJ.out]; rfl, ?_, ?_⟩
      · rw [HJ.out]
        exact own4 _ _ (by have := HB3.out.size; simpa using this) _ _ _ _ _ _ (by simp)
      · exact (HB3.out.setCell (p := ⟨w.heap.size + 1 + 1, 0, none⟩) (Nat.le_add_right _ 2) _).alloc (by have := HB3.out.size; simpa using this) _

theorem ret_int {a b : Int} (h : a = b) : Ending.returned (.int .i64 a) = .returned (.int .i64 b) := by rw [h]

def cmp3 (d1 d2 d3 : Bool) : Int := if d1 then 0 else if d2 then -1 else if d3 then 1 else 2

def lessV (xs ys : List Int) (k : Nat) : Bool := (List.range k).any fun i => decide (xs.getD i 0 < ys.getD i 0)

def moreV (xs ys : List Int) (k : Nat) : Bool := (List.range k).any fun i => decide (ys.getD i 0 < xs.getD i 0)

theorem lessV_next (xs ys : List Int) (k : Nat) : lessV xs ys (k + 1) = (lessV xs ys k || decide (xs.getD k 0 < ys.getD k 0)) := by
  unfold lessV
  rw [List.range_succ, List.any_append]
  simp

theorem moreV_next (xs ys : List Int) (k : Nat) : moreV xs ys (k + 1) = (moreV xs ys k || decide (ys.getD k 0 < xs.getD k 0)) := by
  unfold moreV
  rw [List.range_succ, List.any_append]
  simp

def lm (l m : Bool) : Int := if l && m then 2 else if l then -1 else if m then 1 else 0

def cmpV (xs ys : List Int) : Int := if vecB xs && vecB ys then lm (lessV xs ys 4) (moreV xs ys 4) else 3

theorem cmpV_bad {xs ys : List Int} (h : (vecB xs && vecB ys) = false) : cmpV xs ys = 3 := by
  unfold cmpV
  rw [h]
  rfl

theorem cmpV_good {xs ys : List Int} (h : vecB xs = true) (h' : vecB ys = true) : cmpV xs ys = lm (lessV xs ys 4) (moreV xs ys 4) := by
  unfold cmpV
  rw [h, h']
  rfl

theorem cmpV_four (x0 x1 x2 x3 y0 y1 y2 y3 : Int) (h : vecB [x0, x1, x2, x3] = true) (h' : vecB [y0, y1, y2, y3] = true) :
    cmpV [x0, x1, x2, x3] [y0, y1, y2, y3] = cmp3 (decide (x0 = y0 ∧ x1 = y1 ∧ x2 = y2 ∧ x3 = y3)) (decide (max x0 y0 = y0 ∧ max x1 y1 = y1 ∧ max x2 y2 = y2 ∧ max x3 y3 = y3)) (decide (max x0 y0 = x0 ∧ max x1 y1 = x1 ∧ max x2 y2 = x2 ∧ max x3 y3 = x3)) := by
  rw [cmpV_good h h']
  have hl : lessV [x0, x1, x2, x3] [y0, y1, y2, y3] 4 = !decide (max x0 y0 = x0 ∧ max x1 y1 = x1 ∧ max x2 y2 = x2 ∧ max x3 y3 = x3) := by
    simp only [lessV_next, show lessV [x0, x1, x2, x3] [y0, y1, y2, y3] 0 = false from rfl]
    rw [Bool.eq_iff_iff]
    simp
    omega
  have hm : moreV [x0, x1, x2, x3] [y0, y1, y2, y3] 4 = !decide (max x0 y0 = y0 ∧ max x1 y1 = y1 ∧ max x2 y2 = y2 ∧ max x3 y3 = y3) := by
    simp only [moreV_next, show moreV [x0, x1, x2, x3] [y0, y1, y2, y3] 0 = false from rfl]
    rw [Bool.eq_iff_iff]
    simp
    omega
  have he : decide (x0 = y0 ∧ x1 = y1 ∧ x2 = y2 ∧ x3 = y3) = (decide (max x0 y0 = x0 ∧ max x1 y1 = x1 ∧ max x2 y2 = x2 ∧ max x3 y3 = x3) && decide (max x0 y0 = y0 ∧ max x1 y1 = y1 ∧ max x2 y2 = y2 ∧ max x3 y3 = y3)) := by
    rw [Bool.eq_iff_iff]
    simp
    omega
  rw [hl, hm, he]
  generalize decide (max x0 y0 = x0 ∧ max x1 y1 = x1 ∧ max x2 y2 = x2 ∧ max x3 y3 = x3) = d3
  generalize decide (max x0 y0 = y0 ∧ max x1 y1 = y1 ∧ max x2 y2 = y2 ∧ max x3 y3 = y3) = d2
  cases d3 <;> cases d2 <;> rfl

set_option maxRecDepth 100000 in
set_option maxHeartbeats 4000000 in
theorem implVecCmp_any (a a' : Option Addr) (n n' cap cap' : Nat) (xs ys : List Int) (w : World) (hl : xs.length = n) (hn : n ≤ maxLen) (hh : IsIs w a xs) (hl' : ys.length = n') (hn' : n' ≤ maxLen) (hh' : IsIs w a' ys) :
    Calls Try.prog 9 #[vecV a n cap, vecV a' n' cap'] w fun e w' => e = .returned (.int .i64 (cmpV xs ys)) ∧ Below w.heap.size w w' := by
  have HH : Hid (IsIs w a xs) := hh
  have HN : Hid (xs.length = n) := hl
  have HH' : Hid (IsIs w a' ys) := hh'
  have HN' : Hid (ys.length = n') := hl'
  have HB0 : Hid (Below w.heap.size w ((w.alloc (.cells #[.slice a n cap] 26)).alloc (.cells #[.slice a' n' cap'] 26))) := ((Below.refl _ _).alloc (Nat.le_refl _) _).alloc (by simp) _
  clear hh hl hh' hl'
  cases hv : vecB xs
  · have HV := Lib.hid hv
    have HJ : Hid (cmpV xs ys = 3) := cmpV_bad (by rw [hv]; rfl)
    clear hv
    go_enter Try.func9, Try.ntmps9
    go_wp2_with fail
    refine (ticksOf_bad a n cap xs _ HN.out hn (HH.out.below HB0.out) HV.out).mono ?_
    rintro e w1 ⟨⟨z0, z1, z2, z3, rfl⟩, hb⟩
    have HB1 := Lib.hid (below_step HB0.out HB0.out.size hb)
    obtain ⟨hc, hf⟩ := bcell hb
    have hz : w.heap.size + 1 < w1.heap.size := by have := hb.size; simp at this; omega
    clear hb
    have hA : Below w1.heap.size w1 (w1.alloc (.cells #[.int .i64 z0, .int .i64 z1, .int .i64 z2, .int .i64 z3] 52)) := (Below.refl _ _).alloc (Nat.le_refl _) _
    have HBA := Lib.hid (below_step HB1.out HB1.out.size hA)
    clear hA
    go_wp2_with fail
    refine (ticksOf_any a' n' cap' ys _ HN'.out hn' (HH'.out.below HBA.out)).mono ?_
    rintro e w2 ⟨⟨y0, y1, y2, y3, rfl, -⟩, hb⟩
    have HB2 := Lib.hid (below_step HBA.out HBA.out.size hb)
    obtain ⟨hc2, hf2⟩ := bcell hb
    have hz2 : w1.heap.size < w2.heap.size := by have := hb.size; simp at this; omega
    clear hb
    go_wp2
    go_ret
    exact ⟨ret_int HJ.out.symm, HB2.out.alloc HB2.out.size _⟩
  · obtain ⟨x0, x1, x2, x3, rfl, hx0, hx1, hx2, hx3⟩ := vecB_four hv
    have hn4 : n = 4 := HN.out.symm
    subst hn4
    have HV := Lib.hid hv
    cases hv' : vecB ys
    · have HV' := Lib.hid hv'
      have HJ : Hid (cmpV [x0, x1, x2, x3] ys = 3) := cmpV_bad (by rw [hv', Bool.and_false])
      clear hv hv' hx0 hx1 hx2 hx3
      go_enter Try.func9, Try.ntmps9
      go_wp2_with fail
      refine (ticksOf_good a cap x0 x1 x2 x3 _ (HH.out.below HB0.out) HV.out).mono ?_
      rintro e w1 ⟨rfl, hb⟩
      have HB1 := Lib.hid (below_step HB0.out HB0.out.size hb)
      obtain ⟨hc, hf⟩ := bcell hb
      have hz : w.heap.size + 1 < w1.heap.size := by have := hb.size; simp at this; omega
      clear hb
      have hA : Below w1.heap.size w1 (w1.alloc (.cells #[.int .i64 x0, .int .i64 x1, .int .i64 x2, .int .i64 x3] 52)) := (Below.refl _ _).alloc (Nat.le_refl _) _
      have HBA := Lib.hid (below_step HB1.out HB1.out.size hA)
      clear hA
      go_wp2_with fail
      refine (ticksOf_bad a' n' cap' ys _ HN'.out hn' (HH'.out.below HBA.out) HV'.out).mono ?_
      rintro e w2 ⟨⟨y0, y1, y2, y3, rfl⟩, hb⟩
      have HB2 := Lib.hid (below_step HBA.out HBA.out.size hb)
      obtain ⟨hc2, hf2⟩ := bcell hb
      have hz2 : w1.heap.size < w2.heap.size := by have := hb.size; simp at this; omega
      clear hb
      go_wp2
      go_ret
      exact ⟨ret_int HJ.out.symm, HB2.out.alloc HB2.out.size _⟩
    · obtain ⟨y0, y1, y2, y3, rfl, hy0, hy1, hy2, hy3⟩ := vecB_four hv'
      have hn4 : n' = 4 := HN'.out.symm
      subst hn4
      have HV' := Lib.hid hv'
      have HJ := Lib.hid (cmpV_four x0 x1 x2 x3 y0 y1 y2 y3 hv hv')
      clear hv hv' hx0 hx1 hx2 hx3 hy0 hy1 hy2 hy3
      have HE1 := Lib.hid (fun w => eql_tk 9998 w x0 x1 x2 x3 y0 y1 y2 y3)
      have HE2 := Lib.hid (fun w => eql_tk 9998 w (max x0 y0) (max x1 y1) (max x2 y2) (max x3 y3) y0 y1 y2 y3)
      have HE3 := Lib.hid (fun w => eql_tk 9998 w (max x0 y0) (max x1 y1) (max x2 y2) (max x3 y3) x0 x1 x2 x3)
      have HJN : Hid (∀ W, Calls Try.prog 25 #[tkV x0 x1 x2 x3, tkV y0 y1 y2 y3] W fun e w' => e = .returned (tkV (max x0 y0) (max x1 y1) (max x2 y2) (max x3 y3)) ∧ Below W.heap.size W w') := tkJoin_any x0 x1 x2 x3 y0 y1 y2 y3
      generalize decide (x0 = y0 ∧ x1 = y1 ∧ x2 = y2 ∧ x3 = y3) = d1 at *
      generalize decide (max x0 y0 = y0 ∧ max x1 y1 = y1 ∧ max x2 y2 = y2 ∧ max x3 y3 = y3) = d2 at *
      generalize decide (max x0 y0 = x0 ∧ max x1 y1 = x1 ∧ max x2 y2 = x2 ∧ max x3 y3 = x3) = d3 at *
      generalize max x0 y0 = m0 at *
      generalize max x1 y1 = m1 at *
      generalize max x2 y2 = m2 at *
      generalize max x3 y3 = m3 at *
      go_enter Try.func9, Try.ntmps9
      go_wp2_with fail
      refine (ticksOf_good a cap x0 x1 x2 x3 _ (HH.out.below HB0.out) HV.out).mono ?_
      rintro e w1 ⟨rfl, hb⟩
      have HB1 := Lib.hid (below_step HB0.out HB0.out.size hb)
      obtain ⟨hc, hf⟩ := bcell hb
      have hz : w.heap.size + 1 < w1.heap.size := by have := hb.size; simp at this; omega
      clear hb
      have hA : Below w1.heap.size w1 (w1.alloc (.cells #[.int .i64 x0, .int .i64 x1, .int .i64 x2, .int .i64 x3] 52)) := (Below.refl _ _).alloc (Nat.le_refl _) _
      have HBA := Lib.hid (below_step HB1.out HB1.out.size hA)
      clear hA
      go_wp2_with fail
      refine (ticksOf_good a' cap' y0 y1 y2 y3 _ (HH'.out.below HBA.out) HV'.out).mono ?_
      rintro e w2 ⟨rfl, hb⟩
      have HB2 := Lib.hid (below_step HBA.out HBA.out.size hb)
      obtain ⟨hc2, hf2⟩ := bcell hb
      have hz2 : w1.heap.size < w2.heap.size := by have := hb.size; simp at this; omega
      clear hb
      have HBC := Lib.hid (HB2.out.alloc HB2.out.size (.cells #[.int .i64 y0, .int .i64 y1, .int .i64 y2, .int .i64 y3] 52))
      go_wp2_with fail
      refine (HJN.out _).mono ?_
      rintro e w3 ⟨rfl, hb⟩
      have HB3 := Lib.hid (below_step HBC.out HBC.out.size hb)
      obtain ⟨hc3, hf3⟩ := bcell hb
      have hz5 : w1.heap.size < w3.heap.size := by have := hb.size; simp at this; omega
      have hz6 : w2.heap.size < w3.heap.size := by have := hb.size; simp at this; omega
      clear hb
      have e1 : ∀ w, (Op.equalIn 10000 52 (.agg #[.int .i64 x0, .int .i64 x1, .int .i64 x2, .int .i64 x3]) (.agg #[.int .i64 y0, .int .i64 y1, .int .i64 y2, .int .i64 y3])).run Try.prog w = .ok d1 w := HE1.out
      have e2 : ∀ w, (Op.equalIn 10000 52 (.agg #[.int .i64 m0, .int .i64 m1, .int .i64 m2, .int .i64 m3]) (.agg #[.int .i64 y0, .int .i64 y1, .int .i64 y2, .int .i64 y3])).run Try.prog w = .ok d2 w := HE2.out
      have e3 : ∀ w, (Op.equalIn 10000 52 (.agg #[.int .i64 m0, .int .i64 m1, .int .i64 m2, .int .i64 m3]) (.agg #[.int .i64 x0, .int .i64 x1, .int .i64 x2, .int .i64 x3])).run Try.prog w = .ok d3 w := HE3.out
      clear HE1 HE2 HE3
      cases d1
      · cases d2
        · cases d3
          · go_wp2
            go_ret
            exact ⟨ret_int HJ.out.symm, HB3.out.alloc HB3.out.size _⟩
          · go_wp2
            go_ret
            exact ⟨ret_int HJ.out.symm, HB3.out.alloc HB3.out.size _⟩
        · go_wp2
          go_ret
          exact ⟨ret_int HJ.out.symm, HB3.out.alloc HB3.out.size _⟩
      · go_wp2
        go_ret
        exact ⟨ret_int HJ.out.symm, HB3.out.alloc HB3.out.size _⟩

def tickOk (xs : List Int) (si : Int) : Bool := vecB xs && (btw si 0 3 && !(xs.getD si.toNat 0 == 1000000))

def tickV (xs : List Int) (si : Int) : List Int := if tickOk xs si then xs.set si.toNat (xs.getD si.toNat 0 + 1) else []

theorem tickV_bad {xs : List Int} {si : Int} (h : tickOk xs si = false) : tickV xs si = [] := by
  unfold tickV
  rw [h]
  rfl

theorem tickV_good {xs : List Int} {si : Int} (h : tickOk xs si = true) : tickV xs si = xs.set si.toNat (xs.getD si.toNat 0 + 1) := by
  unfold tickV
  rw [h]
  rfl

theorem tickOk_bad {xs : List Int} {si : Int} (h : vecB xs = false) : tickOk xs si = false := by
  unfold tickOk
  rw [h]
  rfl

theorem tickOk_off {xs : List Int} {si : Int} (h : btw si 0 3 = false) : tickOk xs si = false := by
  unfold tickOk
  rw [h]
  simp

theorem tickOk_at {xs : List Int} {si : Int} (h : vecB xs = true) (h' : btw si 0 3 = true) : tickOk xs si = !(xs.getD si.toNat 0 == 1000000) := by
  unfold tickOk
  rw [h, h']
  simp

theorem btw_site {si : Int} (h : btw si 0 3 = true) : si = 0 ∨ si = 1 ∨ si = 2 ∨ si = 3 := by
  unfold btw at h
  simp at h
  omega

set_option maxRecDepth 100000 in
theorem isSite_any (si : Int) (w : World) :
    Calls Try.prog 28 #[.int .i64 si] w fun e w' => e = .returned (.bool (btw si 0 3)) ∧ w' = w := by
  go_enter Try.func28, Try.ntmps28
  go_wp2_with fail
  refine (inRange_any _ _ _ _).mono ?_
  rintro e w1 ⟨rfl, hw⟩
  subst w1
  go_wp2
  go_ret
  exact ⟨rfl, rfl⟩

set_option maxRecDepth 100000 in
theorem specSite_any (si : Int) (w : World) :
    Calls Try.prog 40 #[.int .i64 si] w fun e w' => e = .returned (.bool (btw si 0 3)) ∧ w' = w := by
  go_enter Try.func40, Try.ntmps40
  go_wp2_with fail
  refine (between_any _ _ _ _).mono ?_
  rintro e w1 ⟨rfl, hw⟩
  subst w1
  go_wp2
  go_ret
  exact ⟨rfl, rfl⟩

set_option maxRecDepth 100000 in
set_option maxHeartbeats 8000000 in
theorem implVecTick_any (a : Option Addr) (n cap : Nat) (xs : List Int) (si : Int) (w : World) (hl : xs.length = n) (hn : n ≤ maxLen) (hh : IsIs w a xs) :
    Calls Try.prog 14 #[vecV a n cap, .int .i64 si] w fun e w' => ∃ g cp, e = .returned (.tuple #[vecV g (tickV xs si).length cp, .bool (tickOk xs si)]) ∧ OwnI w' w.heap.size w'.heap.size g (tickV xs si) ∧ Below w.heap.size w w' := by
  have HH : Hid (IsIs w a xs) := hh
  have HN : Hid (xs.length = n) := hl
  have hres : Try.f14.results = #[.cell 4 26, .tmp 5] := by kernel_rfl
  have HB0 : Hid (Below w.heap.size w ((w.alloc (.cells #[.slice a n cap] 26)).alloc (.cells #[.slice none 0 0] 26))) := ((Below.refl _ _).alloc (Nat.le_refl _) _).alloc (by simp) _
  clear hh hl
  cases hv : vecB xs
  · have HV := Lib.hid hv
    have HJ : Hid (tickOk xs si = false) := tickOk_bad hv
    clear hv
    go_enter Try.func14, Try.ntmps14
    go_wp2_with fail
    refine (ticksOf_bad a n cap xs _ HN.out hn (HH.out.below HB0.out) HV.out).mono ?_
    rintro e w1 ⟨⟨z0, z1, z2, z3, rfl⟩, hb⟩
    have HB1 := Lib.hid (below_step HB0.out HB0.out.size hb)
    obtain ⟨hc, hf⟩ := bcell hb
    have hz : w.heap.size + 1 < w1.heap.size := by have := hb.size; simp at this; omega
    have hz1 : w.heap.size < w1.heap.size := by omega
    clear hb
    have hA : Below w1.heap.size w1 (w1.alloc (.cells #[.int .i64 z0, .int .i64 z1, .int .i64 z2, .int .i64 z3] 52)) := (Below.refl _ _).alloc (Nat.le_refl _) _
    have HBA := Lib.hid (below_step HB1.out HB1.out.size hA)
    clear hA
    go_wp2
    refine bodyPost_ret (v := .tuple #[vecV none 0 0, .bool false]) (by simp only [results, hres]; go_simp) rfl ⟨none, 0, by rw [HJ.out, tickV_bad HJ.out]; rfl, by rw [tickV_bad HJ.out]; exact .inl rfl, ?_⟩
    exact (HB1.out.setCell (p := ⟨w.heap.size + 1, 0, none⟩) (Nat.le_add_right _ 1) _).alloc (by have := HB1.out.size; simpa using this) _
  · obtain ⟨x0, x1, x2, x3, rfl, hx0, hx1, hx2, hx3⟩ := vecB_four hv
    have hn4 : n = 4 := HN.out.symm
    subst hn4
    have HV := Lib.hid hv
    cases hs : btw si 0 3
    · have HJ : Hid (tickOk [x0, x1, x2, x3] si = false) := tickOk_off hs
      have HS : Hid (∀ W, Calls Try.prog 28 #[.int .i64 si] W fun e w' => e = .returned (.bool false) ∧ w' = W) := fun W => by
        rw [← hs]
        exact isSite_any si W
      clear hv hs hx0 hx1 hx2 hx3
      go_enter Try.func14, Try.ntmps14
      go_wp2_with fail
      refine (ticksOf_good a cap x0 x1 x2 x3 _ (HH.out.below HB0.out) HV.out).mono ?_
      rintro e w1 ⟨rfl, hb⟩
      have HB1 := Lib.hid (below_step HB0.out HB0.out.size hb)
      obtain ⟨hc, hf⟩ := bcell hb
      have hz : w.heap.size + 1 < w1.heap.size := by have := hb.size; simp at this; omega
      have hz1 : w.heap.size < w1.heap.size := by omega
      clear hb
      have hA : Below w1.heap.size w1 (w1.alloc (.cells #[.int .i64 x0, .int .i64 x1, .int .i64 x2, .int .i64 x3] 52)) := (Below.refl _ _).alloc (Nat.le_refl _) _
      have HBA := Lib.hid (below_step HB1.out HB1.out.size hA)
      clear hA
      go_wp2_with fail
      refine (HS.out _).mono ?_
      rintro e w2 ⟨rfl, hw⟩
      subst w2
      go_wp2
      refine bodyPost_ret (v := .tuple #[vecV none 0 0, .bool false]) (by simp only [results, hres]; go_simp) rfl ⟨none, 0, by rw [HJ.out, tickV_bad HJ.out]; rfl, by rw [tickV_bad HJ.out]; exact .inl rfl, ?_⟩
      exact (HB1.out.setCell (p := ⟨w.heap.size + 1, 0, none⟩) (Nat.le_add_right _ 1) _).alloc (by have := HB1.out.size; simpa using this) _
    · have HS0 := Lib.hid hs
      obtain rfl | rfl | rfl | rfl := btw_site hs
      · have HT : Hid (∀ W, Calls Try.prog 29 #[tkV x0 x1 x2 x3, .int .i64 0, .int .i64 1] W fun e w' => e = .returned (tkV (x0 + 1) x1 x2 x3) ∧ Below W.heap.size W w') := tkTick_any x0 x1 x2 x3 0 (by omega) hx0 hx1 hx2 hx3
        have HS : Hid (∀ W, Calls Try.prog 28 #[.int .i64 0] W fun e w' => e = .returned (.bool true) ∧ w' = W) := fun W => by
          rw [← HS0.out]
          exact isSite_any 0 W
        have hj := tickOk_at (si := 0) hv HS0.out
        clear HS0 hs hx0 hx1 hx2 hx3 hv
        by_cases hx : x0 = 1000000
        · subst hx
          have HJ : Hid (tickOk _ 0 = false) := hj
          clear hj
          go_enter Try.func14, Try.ntmps14
          go_wp2_with fail
          refine (ticksOf_good a cap 1000000 x1 x2 x3 _ (HH.out.below HB0.out) HV.out).mono ?_
          rintro e w1 ⟨rfl, hb⟩
          have HB1 := Lib.hid (below_step HB0.out HB0.out.size hb)
          obtain ⟨hc, hf⟩ := bcell hb
          have hz : w.heap.size + 1 < w1.heap.size := by have := hb.size; simp at this; omega
          have hz1 : w.heap.size < w1.heap.size := by omega
          clear hb
          have hA : Below w1.heap.size w1 (w1.alloc (.cells #[.int .i64 1000000, .int .i64 x1, .int .i64 x2, .int .i64 x3] 52)) := (Below.refl _ _).alloc (Nat.le_refl _) _
          have HBA := Lib.hid (below_step HB1.out HB1.out.size hA)
          clear hA
          go_wp2_with fail
          refine (HS.out _).mono ?_
          rintro e w2 ⟨rfl, hw⟩
          subst w2
          go_wp2
          refine bodyPost_ret (v := .tuple #[vecV none 0 0, .bool false]) (by simp only [results, hres]; go_simp) rfl ⟨none, 0, by rw [HJ.out, tickV_bad HJ.out]; rfl, by rw [tickV_bad HJ.out]; exact .inl rfl, ?_⟩
          exact (HB1.out.setCell (p := ⟨w.heap.size + 1, 0, none⟩) (Nat.le_add_right _ 1) _).alloc (by have := HB1.out.size; simpa using this) _
        · have HJ : Hid (tickOk [x0, x1, x2, x3] 0 = true) := hj.trans (by simpa using hx)
          have HL : Hid (tickV [x0, x1, x2, x3] 0 = [x0 + 1, x1, x2, x3]) := tickV_good HJ.out
          clear hj
          go_enter Try.func14, Try.ntmps14
          go_wp2_with fail
          refine (ticksOf_good a cap x0 x1 x2 x3 _ (HH.out.below HB0.out) HV.out).mono ?_
          rintro e w1 ⟨rfl, hb⟩
          have HB1 := Lib.hid (below_step HB0.out HB0.out.size hb)
          obtain ⟨hc, hf⟩ := bcell hb
          have hz : w.heap.size + 1 < w1.heap.size := by have := hb.size; simp at this; omega
          have hz1 : w.heap.size < w1.heap.size := by omega
          clear hb
          have hA : Below w1.heap.size w1 (w1.alloc (.cells #[.int .i64 x0, .int .i64 x1, .int .i64 x2, .int .i64 x3] 52)) := (Below.refl _ _).alloc (Nat.le_refl _) _
          have HBA := Lib.hid (below_step HB1.out HB1.out.size hA)
          clear hA
          go_wp2_with fail
          refine (HS.out _).mono ?_
          rintro e w2 ⟨rfl, hw⟩
          subst w2
          go_wp2_with fail
          refine (HT.out _).mono ?_
          rintro e w2 ⟨rfl, hb⟩
          have HB2 := Lib.hid (below_step HBA.out HBA.out.size hb)
          obtain ⟨hc2, hf2⟩ := bcell hb
          have hz2 : w.heap.size + 1 < w2.heap.size := by have := hb.size; simp at this; omega
          clear hb
          go_wp2_with fail
          refine (tkList_any _ _ _ _ _).mono ?_
          rintro e w4 ⟨rfl, rfl⟩
          go_wp2
          refine bodyPost_ret (v := .tuple #[vecV (some ⟨w2.heap.size, 0, none⟩) 4 4, .bool true]) (by simp only [results, hres]; go_simp) rfl ⟨some ⟨w2.heap.size, 0, none⟩, 4, by rw [HJ.out, HL.out]; rfl, ?_, ?_⟩
          · rw [HL.out]
            exact own4 _ _ (by have := HB2.out.size; simpa using this) _ _ _ _ _ _ (by simp)
          · exact (HB2.out.setCell (p := ⟨w.heap.size + 1, 0, none⟩) (Nat.le_add_right _ 1) _).alloc (by have := HB2.out.size; simpa using this) _
      · have HT : Hid (∀ W, Calls Try.prog 29 #[tkV x0 x1 x2 x3, .int .i64 1, .int .i64 1] W fun e w' => e = .returned (tkV x0 (x1 + 1) x2 x3) ∧ Below W.heap.size W w') := tkTick_any x0 x1 x2 x3 1 (by omega) hx0 hx1 hx2 hx3
        have HS : Hid (∀ W, Calls Try.prog 28 #[.int .i64 1] W fun e w' => e = .returned (.bool true) ∧ w' = W) := fun W => by
          rw [← HS0.out]
          exact isSite_any 1 W
        have hj := tickOk_at (si := 1) hv HS0.out
        clear HS0 hs hx0 hx1 hx2 hx3 hv
        by_cases hx : x1 = 1000000
        · subst hx
          have HJ : Hid (tickOk _ 1 = false) := hj
          clear hj
          go_enter Try.func14, Try.ntmps14
          go_wp2_with fail
          refine (ticksOf_good a cap x0 1000000 x2 x3 _ (HH.out.below HB0.out) HV.out).mono ?_
          rintro e w1 ⟨rfl, hb⟩
          have HB1 := Lib.hid (below_step HB0.out HB0.out.size hb)
          obtain ⟨hc, hf⟩ := bcell hb
          have hz : w.heap.size + 1 < w1.heap.size := by have := hb.size; simp at this; omega
          have hz1 : w.heap.size < w1.heap.size := by omega
          clear hb
          have hA : Below w1.heap.size w1 (w1.alloc (.cells #[.int .i64 x0, .int .i64 1000000, .int .i64 x2, .int .i64 x3] 52)) := (Below.refl _ _).alloc (Nat.le_refl _) _
          have HBA := Lib.hid (below_step HB1.out HB1.out.size hA)
          clear hA
          go_wp2_with fail
          refine (HS.out _).mono ?_
          rintro e w2 ⟨rfl, hw⟩
          subst w2
          go_wp2
          refine bodyPost_ret (v := .tuple #[vecV none 0 0, .bool false]) (by simp only [results, hres]; go_simp) rfl ⟨none, 0, by rw [HJ.out, tickV_bad HJ.out]; rfl, by rw [tickV_bad HJ.out]; exact .inl rfl, ?_⟩
          exact (HB1.out.setCell (p := ⟨w.heap.size + 1, 0, none⟩) (Nat.le_add_right _ 1) _).alloc (by have := HB1.out.size; simpa using this) _
        · have HJ : Hid (tickOk [x0, x1, x2, x3] 1 = true) := hj.trans (by simpa using hx)
          have HL : Hid (tickV [x0, x1, x2, x3] 1 = [x0, x1 + 1, x2, x3]) := tickV_good HJ.out
          clear hj
          go_enter Try.func14, Try.ntmps14
          go_wp2_with fail
          refine (ticksOf_good a cap x0 x1 x2 x3 _ (HH.out.below HB0.out) HV.out).mono ?_
          rintro e w1 ⟨rfl, hb⟩
          have HB1 := Lib.hid (below_step HB0.out HB0.out.size hb)
          obtain ⟨hc, hf⟩ := bcell hb
          have hz : w.heap.size + 1 < w1.heap.size := by have := hb.size; simp at this; omega
          have hz1 : w.heap.size < w1.heap.size := by omega
          clear hb
          have hA : Below w1.heap.size w1 (w1.alloc (.cells #[.int .i64 x0, .int .i64 x1, .int .i64 x2, .int .i64 x3] 52)) := (Below.refl _ _).alloc (Nat.le_refl _) _
          have HBA := Lib.hid (below_step HB1.out HB1.out.size hA)
          clear hA
          go_wp2_with fail
          refine (HS.out _).mono ?_
          rintro e w2 ⟨rfl, hw⟩
          subst w2
          go_wp2_with fail
          refine (HT.out _).mono ?_
          rintro e w2 ⟨rfl, hb⟩
          have HB2 := Lib.hid (below_step HBA.out HBA.out.size hb)
          obtain ⟨hc2, hf2⟩ := bcell hb
          have hz2 : w.heap.size + 1 < w2.heap.size := by have := hb.size; simp at this; omega
          clear hb
          go_wp2_with fail
          refine (tkList_any _ _ _ _ _).mono ?_
          rintro e w4 ⟨rfl, rfl⟩
          go_wp2
          refine bodyPost_ret (v := .tuple #[vecV (some ⟨w2.heap.size, 0, none⟩) 4 4, .bool true]) (by simp only [results, hres]; go_simp) rfl ⟨some ⟨w2.heap.size, 0, none⟩, 4, by rw [HJ.out, HL.out]; rfl, ?_, ?_⟩
          · rw [HL.out]
            exact own4 _ _ (by have := HB2.out.size; simpa using this) _ _ _ _ _ _ (by simp)
          · exact (HB2.out.setCell (p := ⟨w.heap.size + 1, 0, none⟩) (Nat.le_add_right _ 1) _).alloc (by have := HB2.out.size; simpa using this) _
      · have HT : Hid (∀ W, Calls Try.prog 29 #[tkV x0 x1 x2 x3, .int .i64 2, .int .i64 1] W fun e w' => e = .returned (tkV x0 x1 (x2 + 1) x3) ∧ Below W.heap.size W w') := tkTick_any x0 x1 x2 x3 2 (by omega) hx0 hx1 hx2 hx3
        have HS : Hid (∀ W, Calls Try.prog 28 #[.int .i64 2] W fun e w' => e = .returned (.bool true) ∧ w' = W) := fun W => by
          rw [← HS0.out]
          exact isSite_any 2 W
        have hj := tickOk_at (si := 2) hv HS0.out
        clear HS0 hs hx0 hx1 hx2 hx3 hv
        by_cases hx : x2 = 1000000
        · subst hx
          have HJ : Hid (tickOk _ 2 = false) := hj
          clear hj
          go_enter Try.func14, Try.ntmps14
          go_wp2_with fail
          refine (ticksOf_good a cap x0 x1 1000000 x3 _ (HH.out.below HB0.out) HV.out).mono ?_
          rintro e w1 ⟨rfl, hb⟩
          have HB1 := Lib.hid (below_step HB0.out HB0.out.size hb)
          obtain ⟨hc, hf⟩ := bcell hb
          have hz : w.heap.size + 1 < w1.heap.size := by have := hb.size; simp at this; omega
          have hz1 : w.heap.size < w1.heap.size := by omega
          clear hb
          have hA : Below w1.heap.size w1 (w1.alloc (.cells #[.int .i64 x0, .int .i64 x1, .int .i64 1000000, .int .i64 x3] 52)) := (Below.refl _ _).alloc (Nat.le_refl _) _
          have HBA := Lib.hid (below_step HB1.out HB1.out.size hA)
          clear hA
          go_wp2_with fail
          refine (HS.out _).mono ?_
          rintro e w2 ⟨rfl, hw⟩
          subst w2
          go_wp2
          refine bodyPost_ret (v := .tuple #[vecV none 0 0, .bool false]) (by simp only [results, hres]; go_simp) rfl ⟨none, 0, by rw [HJ.out, tickV_bad HJ.out]; rfl, by rw [tickV_bad HJ.out]; exact .inl rfl, ?_⟩
          exact (HB1.out.setCell (p := ⟨w.heap.size + 1, 0, none⟩) (Nat.le_add_right _ 1) _).alloc (by have := HB1.out.size; simpa using this) _
        · have HJ : Hid (tickOk [x0, x1, x2, x3] 2 = true) := hj.trans (by simpa using hx)
          have HL : Hid (tickV [x0, x1, x2, x3] 2 = [x0, x1, x2 + 1, x3]) := tickV_good HJ.out
          clear hj
          go_enter Try.func14, Try.ntmps14
          go_wp2_with fail
          refine (ticksOf_good a cap x0 x1 x2 x3 _ (HH.out.below HB0.out) HV.out).mono ?_
          rintro e w1 ⟨rfl, hb⟩
          have HB1 := Lib.hid (below_step HB0.out HB0.out.size hb)
          obtain ⟨hc, hf⟩ := bcell hb
          have hz : w.heap.size + 1 < w1.heap.size := by have := hb.size; simp at this; omega
          have hz1 : w.heap.size < w1.heap.size := by omega
          clear hb
          have hA : Below w1.heap.size w1 (w1.alloc (.cells #[.int .i64 x0, .int .i64 x1, .int .i64 x2, .int .i64 x3] 52)) := (Below.refl _ _).alloc (Nat.le_refl _) _
          have HBA := Lib.hid (below_step HB1.out HB1.out.size hA)
          clear hA
          go_wp2_with fail
          refine (HS.out _).mono ?_
          rintro e w2 ⟨rfl, hw⟩
          subst w2
          go_wp2_with fail
          refine (HT.out _).mono ?_
          rintro e w2 ⟨rfl, hb⟩
          have HB2 := Lib.hid (below_step HBA.out HBA.out.size hb)
          obtain ⟨hc2, hf2⟩ := bcell hb
          have hz2 : w.heap.size + 1 < w2.heap.size := by have := hb.size; simp at this; omega
          clear hb
          go_wp2_with fail
          refine (tkList_any _ _ _ _ _).mono ?_
          rintro e w4 ⟨rfl, rfl⟩
          go_wp2
          refine bodyPost_ret (v := .tuple #[vecV (some ⟨w2.heap.size, 0, none⟩) 4 4, .bool true]) (by simp only [results, hres]; go_simp) rfl ⟨some ⟨w2.heap.size, 0, none⟩, 4, by rw [HJ.out, HL.out]; rfl, ?_, ?_⟩
          · rw [HL.out]
            exact own4 _ _ (by have := HB2.out.size; simpa using this) _ _ _ _ _ _ (by simp)
          · exact (HB2.out.setCell (p := ⟨w.heap.size + 1, 0, none⟩) (Nat.le_add_right _ 1) _).alloc (by have := HB2.out.size; simpa using this) _
      · have HT : Hid (∀ W, Calls Try.prog 29 #[tkV x0 x1 x2 x3, .int .i64 3, .int .i64 1] W fun e w' => e = .returned (tkV x0 x1 x2 (x3 + 1)) ∧ Below W.heap.size W w') := tkTick_any x0 x1 x2 x3 3 (by omega) hx0 hx1 hx2 hx3
        have HS : Hid (∀ W, Calls Try.prog 28 #[.int .i64 3] W fun e w' => e = .returned (.bool true) ∧ w' = W) := fun W => by
          rw [← HS0.out]
          exact isSite_any 3 W
        have hj := tickOk_at (si := 3) hv HS0.out
        clear HS0 hs hx0 hx1 hx2 hx3 hv
        by_cases hx : x3 = 1000000
        · subst hx
          have HJ : Hid (tickOk _ 3 = false) := hj
          clear hj
          go_enter Try.func14, Try.ntmps14
          go_wp2_with fail
          refine (ticksOf_good a cap x0 x1 x2 1000000 _ (HH.out.below HB0.out) HV.out).mono ?_
          rintro e w1 ⟨rfl, hb⟩
          have HB1 := Lib.hid (below_step HB0.out HB0.out.size hb)
          obtain ⟨hc, hf⟩ := bcell hb
          have hz : w.heap.size + 1 < w1.heap.size := by have := hb.size; simp at this; omega
          have hz1 : w.heap.size < w1.heap.size := by omega
          clear hb
          have hA : Below w1.heap.size w1 (w1.alloc (.cells #[.int .i64 x0, .int .i64 x1, .int .i64 x2, .int .i64 1000000] 52)) := (Below.refl _ _).alloc (Nat.le_refl _) _
          have HBA := Lib.hid (below_step HB1.out HB1.out.size hA)
          clear hA
          go_wp2_with fail
          refine (HS.out _).mono ?_
          rintro e w2 ⟨rfl, hw⟩
          subst w2
          go_wp2
          refine bodyPost_ret (v := .tuple #[vecV none 0 0, .bool false]) (by simp only [results, hres]; go_simp) rfl ⟨none, 0, by rw [HJ.out, tickV_bad HJ.out]; rfl, by rw [tickV_bad HJ.out]; exact .inl rfl, ?_⟩
          exact (HB1.out.setCell (p := ⟨w.heap.size + 1, 0, none⟩) (Nat.le_add_right _ 1) _).alloc (by have := HB1.out.size; simpa using this) _
        · have HJ : Hid (tickOk [x0, x1, x2, x3] 3 = true) := hj.trans (by simpa using hx)
          have HL : Hid (tickV [x0, x1, x2, x3] 3 = [x0, x1, x2, x3 + 1]) := tickV_good HJ.out
          clear hj
          go_enter Try.func14, Try.ntmps14
          go_wp2_with fail
          refine (ticksOf_good a cap x0 x1 x2 x3 _ (HH.out.below HB0.out) HV.out).mono ?_
          rintro e w1 ⟨rfl, hb⟩
          have HB1 := Lib.hid (below_step HB0.out HB0.out.size hb)
          obtain ⟨hc, hf⟩ := bcell hb
          have hz : w.heap.size + 1 < w1.heap.size := by have := hb.size; simp at this; omega
          have hz1 : w.heap.size < w1.heap.size := by omega
          clear hb
          have hA : Below w1.heap.size w1 (w1.alloc (.cells #[.int .i64 x0, .int .i64 x1, .int .i64 x2, .int .i64 x3] 52)) := (Below.refl _ _).alloc (Nat.le_refl _) _
          have HBA := Lib.hid (below_step HB1.out HB1.out.size hA)
          clear hA
          go_wp2_with fail
          refine (HS.out _).mono ?_
          rintro e w2 ⟨rfl, hw⟩
          subst w2
          go_wp2_with fail
          refine (HT.out _).mono ?_
          rintro e w2 ⟨rfl, hb⟩
          have HB2 := Lib.hid (below_step HBA.out HBA.out.size hb)
          obtain ⟨hc2, hf2⟩ := bcell hb
          have hz2 : w.heap.size + 1 < w2.heap.size := by have := hb.size; simp at this; omega
          clear hb
          go_wp2_with fail
          refine (tkList_any _ _ _ _ _).mono ?_
          rintro e w4 ⟨rfl, rfl⟩
          go_wp2
          refine bodyPost_ret (v := .tuple #[vecV (some ⟨w2.heap.size, 0, none⟩) 4 4, .bool true]) (by simp only [results, hres]; go_simp) rfl ⟨some ⟨w2.heap.size, 0, none⟩, 4, by rw [HJ.out, HL.out]; rfl, ?_, ?_⟩
          · rw [HL.out]
            exact own4 _ _ (by have := HB2.out.size; simpa using this) _ _ _ _ _ _ (by simp)
          · exact (HB2.out.setCell (p := ⟨w.heap.size + 1, 0, none⟩) (Nat.le_add_right _ 1) _).alloc (by have := HB2.out.size; simpa using this) _

abbrev postV (f : Int) (a : Option Addr) (n cap : Nat) (y : Int) : Value := .agg #[.int .i64 f, .slice a n cap, .int .i64 y]

/-- What MayCome asks at one place. -/
def mayOne (xs ys : List Int) (q i : Nat) : Bool := if i = q then decide (ys.getD i 0 = xs.getD i 0 + 1) else decide (ys.getD i 0 ≤ xs.getD i 0)

def mayAt (xs ys : List Int) (q k : Nat) : Bool := (List.range k).all (mayOne xs ys q)

theorem mayAt_next (xs ys : List Int) (q k : Nat) : mayAt xs ys q (k + 1) = (mayAt xs ys q k && mayOne xs ys q k) := by
  unfold mayAt
  rw [List.range_succ, List.all_append]
  simp

def mayB (xs ys : List Int) (si : Int) : Bool := vecB xs && (vecB ys && (btw si 0 3 && mayAt xs ys si.toNat 4))

theorem mayB_bad {xs ys : List Int} {si : Int} (h : (vecB xs && vecB ys) = false) : mayB xs ys si = false := by
  unfold mayB
  rw [← Bool.and_assoc, h]
  rfl

theorem mayB_off {xs ys : List Int} {si : Int} (h : btw si 0 3 = false) : mayB xs ys si = false := by
  unfold mayB
  rw [h]
  simp

theorem mayB_at {xs ys : List Int} {si : Int} (h : vecB xs = true) (h' : vecB ys = true) (hs : btw si 0 3 = true) : mayB xs ys si = mayAt xs ys si.toNat 4 := by
  unfold mayB
  rw [h, h', hs]
  simp

theorem lets_may (x0 x1 x2 x3 y0 y1 y2 y3 : Int) (q : Nat) (hq : q < 4) : letsB x0 x1 x2 x3 y0 y1 y2 y3 q = mayAt [x0, x1, x2, x3] [y0, y1, y2, y3] q 4 := by
  simp only [mayAt_next, show mayAt [x0, x1, x2, x3] [y0, y1, y2, y3] q 0 = true from rfl, Bool.true_and]
  unfold letsB mayOne tk1
  rw [Bool.eq_iff_iff]
  match q, hq with
  | 0, _ | 1, _ | 2, _ | 3, _ =>
    simp
    omega

set_option maxRecDepth 100000 in
set_option maxHeartbeats 4000000 in
theorem implMayCome_any (a a' : Option Addr) (n n' cap cap' : Nat) (f y : Int) (xs ys : List Int) (w : World) (hl : xs.length = n) (hn : n ≤ maxLen) (hh : IsIs w a xs) (hl' : ys.length = n') (hn' : n' ≤ maxLen) (hh' : IsIs w a' ys) :
    Calls Try.prog 18 #[vecV a n cap, postV f a' n' cap' y] w fun e w' => e = .returned (.bool (mayB xs ys f)) ∧ Below w.heap.size w w' := by
  have HH : Hid (IsIs w a xs) := hh
  have HN : Hid (xs.length = n) := hl
  have HH' : Hid (IsIs w a' ys) := hh'
  have HN' : Hid (ys.length = n') := hl'
  have HB0 : Hid (Below w.heap.size w ((w.alloc (.cells #[.slice a n cap] 26)).alloc (.cells #[.int .i64 f, .slice a' n' cap', .int .i64 y] 43))) := ((Below.refl _ _).alloc (Nat.le_refl _) _).alloc (by simp) _
  clear hh hl hh' hl'
  cases hv : vecB xs
  · have HV := Lib.hid hv
    have HJ : Hid (mayB xs ys f = false) := mayB_bad (by rw [hv]; rfl)
    clear hv
    go_enter Try.func18, Try.ntmps18
    go_wp2_with fail
    refine (ticksOf_bad a n cap xs _ HN.out hn (HH.out.below HB0.out) HV.out).mono ?_
    rintro e w1 ⟨⟨z0, z1, z2, z3, rfl⟩, hb⟩
    have HB1 := Lib.hid (below_step HB0.out HB0.out.size hb)
    obtain ⟨hc, hf⟩ := bcell hb
    have hz : w.heap.size + 1 < w1.heap.size := by have := hb.size; simp at this; omega
    have hz1 : w.heap.size < w1.heap.size := by omega
    clear hb
    have hA : Below w1.heap.size w1 (w1.alloc (.cells #[.int .i64 z0, .int .i64 z1, .int .i64 z2, .int .i64 z3] 52)) := (Below.refl _ _).alloc (Nat.le_refl _) _
    have HBA := Lib.hid (below_step HB1.out HB1.out.size hA)
    clear hA
    go_wp2_with fail
    refine (ticksOf_any a' n' cap' ys _ HN'.out hn' (HH'.out.below HBA.out)).mono ?_
    rintro e w2 ⟨⟨y0, y1, y2, y3, rfl, -⟩, hb⟩
    have HB2 := Lib.hid (below_step HBA.out HBA.out.size hb)
    obtain ⟨hc2, hf2⟩ := bcell hb
    have hz2 : w1.heap.size < w2.heap.size := by have := hb.size; simp at this; omega
    have hz4 : w.heap.size + 1 < w2.heap.size := by omega
    have hz6 : w.heap.size < w2.heap.size := by omega
    clear hb
    go_wp2
    go_ret
    exact ⟨ret_bool HJ.out.symm, HB2.out.alloc HB2.out.size _⟩
  · obtain ⟨x0, x1, x2, x3, rfl, hx0, hx1, hx2, hx3⟩ := vecB_four hv
    have hn4 : n = 4 := HN.out.symm
    subst hn4
    have HV := Lib.hid hv
    cases hv' : vecB ys
    · have HV' := Lib.hid hv'
      have HJ : Hid (mayB [x0, x1, x2, x3] ys f = false) := mayB_bad (by rw [hv', Bool.and_false])
      clear hv hv' hx0 hx1 hx2 hx3
      go_enter Try.func18, Try.ntmps18
      go_wp2_with fail
      refine (ticksOf_good a cap x0 x1 x2 x3 _ (HH.out.below HB0.out) HV.out).mono ?_
      rintro e w1 ⟨rfl, hb⟩
      have HB1 := Lib.hid (below_step HB0.out HB0.out.size hb)
      obtain ⟨hc, hf⟩ := bcell hb
      have hz : w.heap.size + 1 < w1.heap.size := by have := hb.size; simp at this; omega
      have hz1 : w.heap.size < w1.heap.size := by omega
      clear hb
      have hA : Below w1.heap.size w1 (w1.alloc (.cells #[.int .i64 x0, .int .i64 x1, .int .i64 x2, .int .i64 x3] 52)) := (Below.refl _ _).alloc (Nat.le_refl _) _
      have HBA := Lib.hid (below_step HB1.out HB1.out.size hA)
      clear hA
      go_wp2_with fail
      refine (ticksOf_bad a' n' cap' ys _ HN'.out hn' (HH'.out.below HBA.out) HV'.out).mono ?_
      rintro e w2 ⟨⟨y0, y1, y2, y3, rfl⟩, hb⟩
      have HB2 := Lib.hid (below_step HBA.out HBA.out.size hb)
      obtain ⟨hc2, hf2⟩ := bcell hb
      have hz2 : w1.heap.size < w2.heap.size := by have := hb.size; simp at this; omega
      have hz4 : w.heap.size + 1 < w2.heap.size := by omega
      have hz6 : w.heap.size < w2.heap.size := by omega
      clear hb
      go_wp2
      go_ret
      exact ⟨ret_bool HJ.out.symm, HB2.out.alloc HB2.out.size _⟩
    · obtain ⟨y0, y1, y2, y3, rfl, hy0, hy1, hy2, hy3⟩ := vecB_four hv'
      have hn4 : n' = 4 := HN'.out.symm
      subst hn4
      have HV' := Lib.hid hv'
      cases hs : btw f 0 3
      · have HJ : Hid (mayB [x0, x1, x2, x3] [y0, y1, y2, y3] f = false) := mayB_off hs
        have HS : Hid (∀ W, Calls Try.prog 28 #[.int .i64 f] W fun e w' => e = .returned (.bool false) ∧ w' = W) := fun W => by
          rw [← hs]
          exact isSite_any f W
        clear hv hv' hs hx0 hx1 hx2 hx3 hy0 hy1 hy2 hy3
        go_enter Try.func18, Try.ntmps18
        go_wp2_with fail
        refine (ticksOf_good a cap x0 x1 x2 x3 _ (HH.out.below HB0.out) HV.out).mono ?_
        rintro e w1 ⟨rfl, hb⟩
        have HB1 := Lib.hid (below_step HB0.out HB0.out.size hb)
        obtain ⟨hc, hf⟩ := bcell hb
        have hz : w.heap.size + 1 < w1.heap.size := by have := hb.size; simp at this; omega
        have hz1 : w.heap.size < w1.heap.size := by omega
        clear hb
        have hA : Below w1.heap.size w1 (w1.alloc (.cells #[.int .i64 x0, .int .i64 x1, .int .i64 x2, .int .i64 x3] 52)) := (Below.refl _ _).alloc (Nat.le_refl _) _
        have HBA := Lib.hid (below_step HB1.out HB1.out.size hA)
        clear hA
        go_wp2_with fail
        refine (ticksOf_good a' cap' y0 y1 y2 y3 _ (HH'.out.below HBA.out) HV'.out).mono ?_
        rintro e w2 ⟨rfl, hb⟩
        have HB2 := Lib.hid (below_step HBA.out HBA.out.size hb)
        obtain ⟨hc2, hf2⟩ := bcell hb
        have hz2 : w1.heap.size < w2.heap.size := by have := hb.size; simp at this; omega
        have hz4 : w.heap.size + 1 < w2.heap.size := by omega
        have hz6 : w.heap.size < w2.heap.size := by omega
        clear hb
        go_wp2_with fail
        refine (HS.out _).mono ?_
        rintro e w3 ⟨rfl, hw⟩
        subst w3
        go_wp2
        go_ret
        exact ⟨ret_bool HJ.out.symm, HB2.out.alloc HB2.out.size _⟩
      · obtain ⟨q, hq, rfl⟩ : ∃ q : Nat, q < 4 ∧ f = (q : Int) := ⟨f.toNat, by have := btw_site hs; omega, by have := btw_site hs; omega⟩
        have HJ : Hid (mayB [x0, x1, x2, x3] [y0, y1, y2, y3] (q : Int) = letsB x0 x1 x2 x3 y0 y1 y2 y3 q) := (mayB_at hv hv' hs).trans (lets_may x0 x1 x2 x3 y0 y1 y2 y3 q hq).symm
        have HS : Hid (∀ W, Calls Try.prog 28 #[.int .i64 (q : Int)] W fun e w' => e = .returned (.bool true) ∧ w' = W) := fun W => by
          rw [← hs]
          exact isSite_any (q : Int) W
        have HL : Hid (∀ W, Calls Try.prog 34 #[tkV x0 x1 x2 x3, tkV y0 y1 y2 y3, .int .i64 (q : Int)] W fun e w' => e = .returned (.bool (letsB x0 x1 x2 x3 y0 y1 y2 y3 q)) ∧ Below W.heap.size W w') := tkLets_any x0 x1 x2 x3 y0 y1 y2 y3 q hq hx0 hx1 hx2 hx3
        clear hv hv' hs hx0 hx1 hx2 hx3 hy0 hy1 hy2 hy3
        generalize letsB x0 x1 x2 x3 y0 y1 y2 y3 q = z at *
        go_enter Try.func18, Try.ntmps18
        go_wp2_with fail
        refine (ticksOf_good a cap x0 x1 x2 x3 _ (HH.out.below HB0.out) HV.out).mono ?_
        rintro e w1 ⟨rfl, hb⟩
        have HB1 := Lib.hid (below_step HB0.out HB0.out.size hb)
        obtain ⟨hc, hf⟩ := bcell hb
        have hz : w.heap.size + 1 < w1.heap.size := by have := hb.size; simp at this; omega
        have hz1 : w.heap.size < w1.heap.size := by omega
        clear hb
        have hA : Below w1.heap.size w1 (w1.alloc (.cells #[.int .i64 x0, .int .i64 x1, .int .i64 x2, .int .i64 x3] 52)) := (Below.refl _ _).alloc (Nat.le_refl _) _
        have HBA := Lib.hid (below_step HB1.out HB1.out.size hA)
        clear hA
        go_wp2_with fail
        refine (ticksOf_good a' cap' y0 y1 y2 y3 _ (HH'.out.below HBA.out) HV'.out).mono ?_
        rintro e w2 ⟨rfl, hb⟩
        have HB2 := Lib.hid (below_step HBA.out HBA.out.size hb)
        obtain ⟨hc2, hf2⟩ := bcell hb
        have hz2 : w1.heap.size < w2.heap.size := by have := hb.size; simp at this; omega
        have hz4 : w.heap.size + 1 < w2.heap.size := by omega
        have hz6 : w.heap.size < w2.heap.size := by omega
        clear hb
        go_wp2_with fail
        refine (HS.out _).mono ?_
        rintro e w3 ⟨rfl, hw⟩
        subst w3
        go_wp2_with fail
        refine (HL.out _).mono ?_
        rintro e w3 ⟨rfl, hb⟩
        have HB3 := Lib.hid (below_step (HB2.out.alloc HB2.out.size _) (HB2.out.alloc HB2.out.size _).size hb)
        clear hb
        go_wp2
        go_ret
        exact ⟨ret_bool HJ.out.symm, HB3.out⟩

end Go.Proofs.Ytolmlcbgdihcbab
