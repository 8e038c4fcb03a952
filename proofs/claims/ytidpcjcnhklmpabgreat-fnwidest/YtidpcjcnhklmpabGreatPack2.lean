import Derived.Test.YtidpcjcnhklmpabGreatPack1
import Derived.Deep.OwnRows
import Derived.Deep.RegionHeld3
import Derived.Laws.BitsAllLaws
import Derived.Lib.Hide
/- The contracts of toDepS and eqDepS. -/
namespace Go.Proofs.YtidpcjcnhklmpabGreat
open Go.ChangeShapes Go.WideShapes Go.ChangeAt Go.RowKit Go.Joins
attribute [local go_sem ↓] Go.wp_at_zero Go.wp_at_succ

def depCell (xs : List Dp) (j : Nat) : Int :=
  if j % 4 = 0 then (xs.getD (j / 4) dz).k else if j % 4 = 1 then (xs.getD (j / 4) dz).c else if j % 4 = 2 then (xs.getD (j / 4) dz).s else (xs.getD (j / 4) dz).q

def depFill (xs : List Dp) (k j : Nat) : Value := .int .i64 (if j < k * 4 then depCell xs j else 0)

theorem depCell0 (xs : List Dp) (k : Nat) : depCell xs (k * 4) = (xs.getD k dz).k := by
  unfold depCell
  rw [if_pos (by omega), show k * 4 / 4 = k by omega]

theorem depCell1 (xs : List Dp) (k : Nat) : depCell xs (k * 4 + 1) = (xs.getD k dz).c := by
  unfold depCell
  rw [if_neg (by omega), if_pos (by omega), show (k * 4 + 1) / 4 = k by omega]

theorem depCell2 (xs : List Dp) (k : Nat) : depCell xs (k * 4 + 2) = (xs.getD k dz).s := by
  unfold depCell
  rw [if_neg (by omega), if_neg (by omega), if_pos (by omega), show (k * 4 + 2) / 4 = k by omega]

theorem depCell3 (xs : List Dp) (k : Nat) : depCell xs (k * 4 + 3) = (xs.getD k dz).q := by
  unfold depCell
  rw [if_neg (by omega), if_neg (by omega), if_neg (by omega), show (k * 4 + 3) / 4 = k by omega]

theorem fill_step (xs : List Dp) (k j : Nat) :
    (if j = k * 4 + 3 then Value.int .i64 (xs.getD k dz).q else if j = k * 4 + 2 then Value.int .i64 (xs.getD k dz).s else if j = k * 4 + 1 then Value.int .i64 (xs.getD k dz).c else if j = k * 4 then Value.int .i64 (xs.getD k dz).k else depFill xs k j) = depFill xs (k + 1) j := by
  unfold depFill
  by_cases h3 : j = k * 4 + 3
  · rw [if_pos h3, if_pos (by omega), h3, depCell3]
  rw [if_neg h3]
  by_cases h2 : j = k * 4 + 2
  · rw [if_pos h2, if_pos (by omega), h2, depCell2]
  rw [if_neg h2]
  by_cases h1 : j = k * 4 + 1
  · rw [if_pos h1, if_pos (by omega), h1, depCell1]
  rw [if_neg h1]
  by_cases h0 : j = k * 4
  · rw [if_pos h0, if_pos (by omega), h0, depCell0]
  rw [if_neg h0]
  by_cases hl : j < k * 4
  · rw [if_pos hl, if_pos (by omega)]
  · rw [if_neg hl, if_neg (by omega)]

theorem holds_of_row {w : World} {g t : Nat} {xs : List Dp} (h : w.rowIs g t (xs.length * 4) (depFill xs xs.length)) : HoldsDeps w g 0 xs := by
  intro i hi
  rw [Nat.zero_add]
  refine ⟨?_, ?_, ?_, ?_⟩
  · rw [h.cell (by omega), depFill, if_pos (by omega), depCell0]
  · rw [h.cell (by omega), depFill, if_pos (by omega), depCell1]
  · rw [h.cell (by omega), depFill, if_pos (by omega), depCell2]
  · rw [h.cell (by omega), depFill, if_pos (by omega), depCell3]

theorem row_start (w : World) (t n : Nat) (xs : List Dp) : (w.alloc (.cells (madeCells #[.int .i64 0, .int .i64 0, .int .i64 0, .int .i64 0] (n * 4)) t)).rowIs w.heap.size t (n * 4) (depFill xs 0) := by
  refine ⟨_, Go.Deep.blk_alloc_new _ _, size_madeCells _ _, fun i hi => ?_⟩
  have e : depFill xs 0 i = .int .i64 0 := by unfold depFill; rw [if_neg (by omega)]
  rw [e]
  have h4 : i % 4 = 0 ∨ i % 4 = 1 ∨ i % 4 = 2 ∨ i % 4 = 3 := by omega
  rcases h4 with h | h | h | h <;> simp [madeCells, hi, h]

theorem row_step {w : World} {g t n : Nat} {xs : List Dp} {k : Nat} (h : w.rowIs g t n (depFill xs k)) :
    ((((w.setCell ⟨g, k * 4, none⟩ (.int .i64 (xs.getD k dz).k)).setCell ⟨g, k * 4 + 1, none⟩ (.int .i64 (xs.getD k dz).c)).setCell ⟨g, k * 4 + 2, none⟩ (.int .i64 (xs.getD k dz).s)).setCell ⟨g, k * 4 + 3, none⟩ (.int .i64 (xs.getD k dz).q)).rowIs g t n (depFill xs (k + 1)) :=
  ((((h.set _ _).set _ _).set _ _).set _ _).congr (fun j _ => fill_step xs k j)

theorem infoDep : (Tryz.prog.info? 63).map (fun i => (i.zero, i.size, i.bytes)) = some (some (depV 0 0 0 0), 4, 32) := by kernel_rfl

theorem run_make_deps (n : Nat) (hn : n ≤ 1048576) (w : World) :
    (Instr.makeSlice 33 (.int .i64 (n : Int)) (.int .i64 (n : Int))).run Tryz.prog w = .ok (.slice (some ⟨w.heap.size, 0, none⟩) n n) (w.alloc (.cells (madeCells #[.int .i64 0, .int .i64 0, .int .i64 0, .int .i64 0] (n * 4)) 63)) := by
  obtain ⟨i, hi, hzz⟩ := Option.map_eq_some_iff.1 infoDep
  simp only [Prod.mk.injEq] at hzz
  obtain ⟨hz, hs, hb⟩ := hzz
  have hr := run_make (P := Tryz.prog) w 33 63 i _ Tryz.underlying33 hi hz .i64 .i64 n n (by omega) (Int.le_refl _) (by rw [hb]; omega) (by omega)
  simp only [Int.toNat_natCast, hs] at hr
  exact hr

/-- Below a block that is being written. -/
theorem below_set4 {B : Nat} {a w : World} {g : Nat} (h : Below B a w) (hg : B ≤ g) (o0 o1 o2 o3 : Nat) (v0 v1 v2 v3 : Value) : Below B a ((((w.setCell ⟨g, o0, none⟩ v0).setCell ⟨g, o1, none⟩ v1).setCell ⟨g, o2, none⟩ v2).setCell ⟨g, o3, none⟩ v3) :=
  (((h.setCell (p := ⟨g, o0, none⟩) hg v0).setCell (p := ⟨g, o1, none⟩) hg v1).setCell (p := ⟨g, o2, none⟩) hg v2).setCell (p := ⟨g, o3, none⟩) hg v3

end Go.Proofs.YtidpcjcnhklmpabGreat

/- The contract of impl.DepsOk. -/
namespace Go.Proofs.YtidpcjcnhklmpabGreat
open Go.ChangeShapes Go.WideShapes Go.ChangeAt Go.RowKit Go.Joins

def lastOf (xs : List Dp) (k : Nat) : Int := if k = 0 then -1 else (xs.getD (k - 1) dz).k

theorem depGood_bad {xs : List Dp} {k : Nat} (h1 : btw (xs.getD k dz).k 0 5 = true) (h : (xs.getD k dz).k ≤ lastOf xs k) : depGood xs k = false := by
  have e : depGood xs k = (btw (xs.getD k dz).k 0 5 && (tagOkB (xs.getD k dz).c (xs.getD k dz).s (xs.getD k dz).q && decide (k = 0 ∨ (xs.getD (k - 1) dz).k < (xs.getD k dz).k))) := rfl
  have hd : decide (k = 0 ∨ (xs.getD (k - 1) dz).k < (xs.getD k dz).k) = false := by
    apply decide_eq_false
    unfold lastOf at h
    have h1' := h1
    unfold btw at h1'
    have h1'' := of_decide_eq_true h1'
    split at h
    · omega
    · omega
  rw [e, hd, h1, Bool.and_false, Bool.and_false]

theorem depGood_good {xs : List Dp} {k : Nat} (h1 : btw (xs.getD k dz).k 0 5 = true) (h2 : tagOkB (xs.getD k dz).c (xs.getD k dz).s (xs.getD k dz).q = true) (h : lastOf xs k < (xs.getD k dz).k) : depGood xs k = true := by
  have e : depGood xs k = (btw (xs.getD k dz).k 0 5 && (tagOkB (xs.getD k dz).c (xs.getD k dz).s (xs.getD k dz).q && decide (k = 0 ∨ (xs.getD (k - 1) dz).k < (xs.getD k dz).k))) := rfl
  have hd : decide (k = 0 ∨ (xs.getD (k - 1) dz).k < (xs.getD k dz).k) = true := by
    apply decide_eq_true
    unfold lastOf at h
    split at h
    · exact Or.inl ‹_›
    · exact Or.inr h
  rw [e, hd, h1, h2]
  rfl

theorem depGood_tag {xs : List Dp} {k : Nat} (h2 : tagOkB (xs.getD k dz).c (xs.getD k dz).s (xs.getD k dz).q = false) : depGood xs k = false := by
  have e : depGood xs k = (btw (xs.getD k dz).k 0 5 && (tagOkB (xs.getD k dz).c (xs.getD k dz).s (xs.getD k dz).q && decide (k = 0 ∨ (xs.getD (k - 1) dz).k < (xs.getD k dz).k))) := rfl
  rw [e, h2, Bool.false_and, Bool.and_false]

theorem depGood_key {xs : List Dp} {k : Nat} (h1 : btw (xs.getD k dz).k 0 5 = false) : depGood xs k = false := by
  have e : depGood xs k = (btw (xs.getD k dz).k 0 5 && (tagOkB (xs.getD k dz).c (xs.getD k dz).s (xs.getD k dz).q && decide (k = 0 ∨ (xs.getD (k - 1) dz).k < (xs.getD k dz).k))) := rfl
  rw [e, h1, Bool.false_and]

set_option maxHeartbeats 1000000 in
theorem implDepsOk_gen (a : Option Addr) (xs : List Dp) (cap : Nat) (w : World) (hn : xs.length ≤ 1048576) (hh : IsDeps w a xs) :
    Calls Tryz.prog 80 #[.slice a xs.length cap] w fun e w' => e = .returned (.bool (depsOkB xs)) ∧ Below w.heap.size w w' := by
  have HH : Hid (IsDeps w a xs) := hh
  clear hh
  go_enter Tryz.func80, Tryz.ntmps80
  go_wp2
  go_loopw [3, 8] (fun l i wr => ∃ k : Nat, ∃ la : Int, k ≤ xs.length ∧ i = .int .i64 k ∧ l = .int .i64 la ∧ Hid (lastOf xs k = la) ∧ Hid (∀ j, j < k → depGood xs j = true) ∧ Hid (Below w.heap.size w wr)) (fun _ i _ => xs.length - (intOf i).toNat)
  case atStart => exact ⟨0, -1, Nat.zero_le _, rfl, rfl, rfl, fun j hj => by omega, Below.refl _ _⟩
  case round =>
    obtain ⟨k, la, hk, rfl, rfl, HL, HG, HB⟩ := hrel
    by_cases hk' : k < xs.length
    · obtain ⟨b, o, rfl, hz, e0, e1, e2, e3⟩ := HH.out.at HB.out hk'
      have i1 : (0 : Int) ≤ (k : Int) := by omega
      have i2 : (k : Int) < (xs.length : Int) := by omega
      have HS : Hid (lastOf xs (k + 1) = (xs.getD k dz).k) := by unfold lastOf; simp [Hid]
      cases h1 : btw (xs.getD k dz).k 0 5
      · have HF : Hid (depsOkB xs = false) := depsOk_false hk' (depGood_key h1)
        clear HS
        generalize (xs.getD k dz).k = x at *
        generalize (xs.getD k dz).c = c at *
        generalize (xs.getD k dz).s = s at *
        generalize (xs.getD k dz).q = q at *
        go_wp2_with (go_at_call 77; refine (keyOk_is _ false h1 _).mono ?_; rintro e w' ⟨rfl, rfl⟩)
        go_ret
        exact ⟨ret_bool HF.out.symm, HB.out.alloc HB.out.size _⟩
      · by_cases h3 : (xs.getD k dz).k ≤ la
        · have HF : Hid (depsOkB xs = false) := depsOk_false hk' (depGood_bad h1 (by rw [HL.out]; exact h3))
          clear HS
          generalize (xs.getD k dz).k = x at *
          generalize (xs.getD k dz).c = c at *
          generalize (xs.getD k dz).s = s at *
          generalize (xs.getD k dz).q = q at *
          go_wp2_with (go_at_call 77; refine (keyOk_is _ true h1 _).mono ?_; rintro e w' ⟨rfl, rfl⟩)
          go_ret
          exact ⟨ret_bool HF.out.symm, HB.out.alloc HB.out.size _⟩
        · cases h2 : tagOkB (xs.getD k dz).c (xs.getD k dz).s (xs.getD k dz).q
          · have HF : Hid (depsOkB xs = false) := depsOk_false hk' (depGood_tag h2)
            clear HS
            generalize (xs.getD k dz).k = x at *
            generalize (xs.getD k dz).c = c at *
            generalize (xs.getD k dz).s = s at *
            generalize (xs.getD k dz).q = q at *
            go_wp2_with (first | (go_at_call 77; refine (keyOk_is _ true h1 _).mono ?_; rintro e w' ⟨rfl, rfl⟩) | (go_at_call 78; refine (implTagOk_is _ _ _ false h2 _).mono ?_; rintro e w' ⟨rfl, hb⟩))
            go_ret
            exact ⟨ret_bool HF.out.symm, below_step (HB.out.alloc HB.out.size _) (by have := HB.out.size; simp; omega) hb⟩
          · have HF : Hid (depGood xs k = true) := depGood_good h1 h2 (by rw [HL.out]; omega)
            have HG' : Hid (∀ j, j < k + 1 → depGood xs j = true) := fun j hj => by
              by_cases h : j < k
              · exact HG.out j h
              · have : j = k := by omega
                rw [this]
                exact HF.out
            clear HF
            generalize (xs.getD k dz).k = x at *
            generalize (xs.getD k dz).c = c at *
            generalize (xs.getD k dz).s = s at *
            generalize (xs.getD k dz).q = q at *
            go_wp2_with fail
            refine (keyOk_is _ true h1 _).mono ?_
            rintro e w' ⟨rfl, rfl⟩
            go_wp2_with fail
            refine (implTagOk_is _ _ _ true h2 _).mono ?_
            rintro e w' ⟨rfl, hb⟩
            have HB' : Hid (Below w.heap.size w w') := below_step (HB.out.alloc HB.out.size _) (by have := HB.out.size; simp; omega) hb
            obtain ⟨hc, _⟩ := bcell hb
            clear hb
            go_wp2
            exact ⟨⟨k + 1, x, by omega, by go_num, rfl, HS, HG', HB'⟩, by simp [intOf]; omega⟩
    · go_wp2
      go_ret
      exact ⟨ret_bool (depsOk_true fun i hi => HG.out i (by omega)).symm, HB.out⟩

theorem implDepsOk_any (b o : Nat) (xs : List Dp) (cap : Nat) (w : World) (hn : xs.length ≤ 1048576) (hlt : b < w.heap.size) (hh : HoldsDeps w b o xs) :
    Calls Tryz.prog 80 #[.slice (some ⟨b, o, none⟩) xs.length cap] w fun e w' => e = .returned (.bool (depsOkB xs)) ∧ Below w.heap.size w w' :=
  implDepsOk_gen _ xs cap w hn (.inr ⟨b, o, rfl, hlt, hh⟩)

end Go.Proofs.YtidpcjcnhklmpabGreat

/- Contracts of TagCmp (spec and impl) and of what they call. -/
namespace Go.Proofs.YtidpcjcnhklmpabGreat
open Go.ChangeShapes Go.WideShapes Go.ChangeAt Go.RowKit

theorem sign_any (a b : Int) (w : World) :
    Calls Tryz.prog 55 #[.int .i64 a, .int .i64 b] w fun e w' => e = .returned (.int .i64 (sgn a b)) ∧ w' = w := by
  rcases Int.lt_trichotomy a b with h | h | h
  · have e : sgn a b = -1 := by simp [sgn, h]
    rw [e]
    go_enter Tryz.func55, Tryz.ntmps55
    go_wp2
    go_ret
    exact ⟨rfl, rfl⟩
  · subst h
    rw [sgn_self]
    go_enter Tryz.func55, Tryz.ntmps55
    go_wp2
    go_ret
    exact ⟨rfl, rfl⟩
  · have h' : ¬ a < b := by omega
    have e : sgn a b = 1 := by simp [sgn, h, h']
    rw [e]
    go_enter Tryz.func55, Tryz.ntmps55
    go_wp2
    go_ret
    exact ⟨rfl, rfl⟩

theorem isNaN_any (a : Int) (w : World) :
    Calls Tryz.prog 76 #[.int .i64 a] w fun e w' => e = .returned (.bool false) ∧ w' = w := by
  go_enter Tryz.func76, Tryz.ntmps76
  go_wp2
  go_ret
  exact ⟨by simp, rfl⟩

theorem compare_any (a b : Int) (w : World) :
    Calls Tryz.prog 66 #[.int .i64 a, .int .i64 b] w fun e w' => e = .returned (.int .i64 (sgn a b)) ∧ w' = w := by
  rcases Int.lt_trichotomy a b with h | h | h
  · have e : sgn a b = -1 := by simp [sgn, h]
    rw [e]
    go_enter Tryz.func66, Tryz.ntmps66
    go_wp2_with (go_at_call 76; refine (isNaN_any _ _).mono ?_; rintro e w' ⟨rfl, rfl⟩)
    go_ret
    exact ⟨rfl, rfl⟩
  · subst h
    rw [sgn_self]
    go_enter Tryz.func66, Tryz.ntmps66
    go_wp2_with (go_at_call 76; refine (isNaN_any _ _).mono ?_; rintro e w' ⟨rfl, rfl⟩)
    go_ret
    exact ⟨rfl, rfl⟩
  · have h' : ¬ a < b := by omega
    have e : sgn a b = 1 := by simp [sgn, h, h']
    rw [e]
    go_enter Tryz.func66, Tryz.ntmps66
    go_wp2_with (go_at_call 76; refine (isNaN_any _ _).mono ?_; rintro e w' ⟨rfl, rfl⟩)
    go_ret
    exact ⟨rfl, rfl⟩

set_option maxHeartbeats 400000 in
theorem specTagCmp_any (c s q c' s' q' : Int) (w : World) :
    Calls Tryz.prog 54 #[tagV c s q, tagV c' s' q'] w fun e w' => e = .returned (.int .i64 (tcmp c s q c' s' q')) ∧ Below w.heap.size w w' := by
  by_cases h1 : c = c'
  · by_cases h2 : s = s'
    · subst h1 h2
      have e : tcmp c s q c s q' = sgn q q' := by simp [tcmp]
      rw [e]
      go_enter Tryz.func54, Tryz.ntmps54
      go_wp2_with (go_at_call 55; refine (sign_any _ _ _).mono ?_; rintro e w' ⟨rfl, rfl⟩)
      go_ret
      exact ⟨rfl, ((Below.refl _ _).alloc (Nat.le_refl _) _).alloc (by simp) _⟩
    · subst h1
      have e : tcmp c s q c s' q' = sgn s s' := by simp [tcmp, h2]
      rw [e]
      have h2' : (s != s') = true := by rw [bne_iff_ne]; exact h2
      go_enter Tryz.func54, Tryz.ntmps54
      go_wp2_with (go_at_call 55; refine (sign_any _ _ _).mono ?_; rintro e w' ⟨rfl, rfl⟩)
      go_ret
      exact ⟨rfl, ((Below.refl _ _).alloc (Nat.le_refl _) _).alloc (by simp) _⟩
  · have e : tcmp c s q c' s' q' = sgn c c' := by simp [tcmp, h1]
    rw [e]
    have h1' : (c != c') = true := by rw [bne_iff_ne]; exact h1
    go_enter Tryz.func54, Tryz.ntmps54
    go_wp2_with (go_at_call 55; refine (sign_any _ _ _).mono ?_; rintro e w' ⟨rfl, rfl⟩)
    go_ret
    exact ⟨rfl, ((Below.refl _ _).alloc (Nat.le_refl _) _).alloc (by simp) _⟩

def orTo (zs : List Int) (k : Nat) : Prop := ∀ i, i < k → zs.getD i 0 = 0

theorem orI_of_first : ∀ (zs : List Int) (k : Nat), k < zs.length → (∀ i, i < k → zs.getD i 0 = 0) → zs.getD k 0 ≠ 0 → orI zs = zs.getD k 0
  | [], _, h, _, _ => by simp at h
  | x :: r, 0, _, _, hn => by
    have hn' : x ≠ 0 := hn
    simp [orI, hn']
  | x :: r, k + 1, h, hz, hn => by
    have hx : x = 0 := hz 0 (by omega)
    have := orI_of_first r k (by simpa using h) (fun i hi => by simpa using hz (i + 1) (by omega)) (by simpa using hn)
    simp [orI, hx]
    simpa using this

theorem orI_of_none : ∀ (zs : List Int), (∀ i, i < zs.length → zs.getD i 0 = 0) → orI zs = 0
  | [], _ => rfl
  | x :: r, h => by
    have hx : x = 0 := h 0 (by simp)
    have := orI_of_none r (fun i hi => by simpa using h (i + 1) (by simpa using hi))
    simp [orI, hx, this]

theorem ret_i64 {a b : Int} (h : a = b) : Ending.returned (.int .i64 a) = .returned (.int .i64 b) := by rw [h]

set_option maxHeartbeats 400000 in
theorem or_any (b : Nat) (zs : List Int) (cap : Nat) (w : World) (hn : zs.length ≤ 1000) (hcl : ∀ i, i < zs.length → w.cell? ⟨b, i, none⟩ = some (.int .i64 (zs.getD i 0))) :
    Calls Tryz.prog 65 #[.slice (some ⟨b, 0, none⟩) zs.length cap] w fun e w' => e = .returned (.int .i64 (orI zs)) ∧ w' = w := by
  have HC : Hid (∀ i, i < zs.length → w.cell? ⟨b, i, none⟩ = some (.int .i64 (zs.getD i 0))) := hcl
  clear hcl
  go_enter Tryz.func65, Tryz.ntmps65
  go_wp2
  go_loop [8] (fun i => ∃ k : Nat, k ≤ zs.length ∧ i = .int .i64 k ∧ orTo zs k) (fun i => zs.length - (intOf i).toNat)
  case atStart => exact ⟨0, Nat.zero_le _, rfl, fun i hi => by omega⟩
  case round =>
    obtain ⟨k, hk, rfl, HZ⟩ := hrel
    by_cases hlt : k < zs.length
    · have hcell := HC.out k hlt
      by_cases hz : zs.getD k 0 = 0
      · rw [hz] at hcell
        have HZ0 : Hid (zs.getD k 0 = 0) := hz
        clear hz
        go_wp2
        go_round
        case rel => exact ⟨k + 1, by omega, by go_num, fun i hi => by
          by_cases h : i < k
          · exact HZ i h
          · have : i = k := by omega
            rw [this]
            exact HZ0.out⟩
        case measure => simp [intOf]; omega
      · have HF : Hid (orI zs = zs.getD k 0) := orI_of_first zs k hlt HZ hz
        have hz' : (zs.getD k 0 != 0) = true := by rw [bne_iff_ne]; exact hz
        clear hz
        generalize zs.getD k 0 = z at hcell hz' HF
        go_wp2
        go_ret
        exact ⟨ret_i64 HF.out.symm, rfl⟩
    · have HF : Hid (orI zs = 0) := orI_of_none zs (fun i hi => HZ i (by omega))
      go_wp2
      go_ret
      exact ⟨ret_i64 HF.out.symm, rfl⟩

end Go.Proofs.YtidpcjcnhklmpabGreat

/- Writes: contracts of szWrite, toWrite, eqWrite, valOk, tagWord. -/
namespace Go.Proofs.YtidpcjcnhklmpabGreat
open Go.ChangeShapes Go.WideShapes Go.ChangeAt Go.RowKit Go.Joins
attribute [local go_sem ↓] Go.wp_at_zero Go.wp_at_succ

theorem HoldsDeps.set {w : World} {b o : Nat} {xs : List Dp} {a : Addr} (h : HoldsDeps w b o xs) (hne : a.block ≠ b) (v : Value) : HoldsDeps (w.setCell a v) b o xs := by
  intro i hi
  obtain ⟨h0, h1, h2, h3⟩ := h i hi
  have hn : ∀ o', a ≠ ⟨b, o', none⟩ := fun o' e => hne (by rw [e])
  exact ⟨(World.cell?_setCell_other _ _ _ _ (hn _)).trans h0, (World.cell?_setCell_other _ _ _ _ (hn _)).trans h1, (World.cell?_setCell_other _ _ _ _ (hn _)).trans h2, (World.cell?_setCell_other _ _ _ _ (hn _)).trans h3⟩

abbrev wrV (k c s q v : Int) (de : Bool) (a : Option Addr) (len cap : Nat) : Value := .agg #[.int .i64 k, .int .i64 c, .int .i64 s, .int .i64 q, .int .i64 v, .bool de, .slice a len cap]

def valOkB (v : Int) (de : Bool) : Bool := if de then v == 0 else btw v (-1000000) 1000000

theorem valOk_any (v : Int) (de : Bool) (w : World) :
    Calls Tryz.prog 79 #[.int .i64 v, .bool de] w fun e w' => e = .returned (.bool (valOkB v de)) ∧ w' = w := by
  cases de
  · go_enter Tryz.func79, Tryz.ntmps79
    go_wp2_with (go_at_call 87; refine (inRange_any _ _ _ _).mono ?_; rintro e w' ⟨rfl, rfl⟩)
    go_ret
    exact ⟨rfl, rfl⟩
  · go_enter Tryz.func79, Tryz.ntmps79
    go_wp2_with (go_at_call 87; refine (inRange_any _ _ _ _).mono ?_; rintro e w' ⟨rfl, rfl⟩)
    go_ret
    exact ⟨rfl, rfl⟩

theorem word_or (c s q : Int) (h1 : 1 ≤ c) (h2 : c ≤ 100000) (h3 : 0 ≤ s) (h4 : s ≤ 3) (h5 : 1 ≤ q) (h6 : q ≤ 1000) :
    bits BinOp.or IntKind.u64 (bits BinOp.or IntKind.u64 (c * 4096) (s * 1024)) q = c * 4096 + s * 1024 + q := by
  obtain ⟨c, rfl⟩ := Int.eq_ofNat_of_zero_le (show 0 ≤ c by omega)
  obtain ⟨s, rfl⟩ := Int.eq_ofNat_of_zero_le h3
  obtain ⟨q, rfl⟩ := Int.eq_ofNat_of_zero_le (show 0 ≤ q by omega)
  have e1 : bits BinOp.or IntKind.u64 ((c : Int) * 4096) ((s : Int) * 1024) = ((4096 * c + s * 1024 : Nat) : Int) := by
    rw [u64_or _ _ (by omega) (by omega) (by omega) (by omega), show ((c : Int) * 4096).toNat = 2 ^ 12 * c by omega, show ((s : Int) * 1024).toNat = s * 1024 by omega,
      ← Nat.two_pow_add_eq_or_of_lt (show s * 1024 < 2 ^ 12 by omega) c]
  rw [e1, u64_or _ _ (by omega) (by omega) (by omega) (by omega), Int.toNat_natCast, Int.toNat_natCast, show 4096 * c + s * 1024 = 2 ^ 10 * (4 * c + s) by omega,
    ← Nat.two_pow_add_eq_or_of_lt (show q < 2 ^ 10 by omega) (4 * c + s)]
  omega

set_option maxHeartbeats 400000 in
theorem tagWord_raw (c s q : Int) (w : World) (h1 : 1 ≤ c) (h2 : c ≤ 100000) (h3 : 0 ≤ s) (h4 : s ≤ 3) (h5 : 1 ≤ q) (h6 : q ≤ 1000) :
    Calls Tryz.prog 74 #[tagV c s q] w fun e w' => e = .returned (.int .u64 (c * 4096 + s * 1024 + q)) ∧ Below w.heap.size w w' := by
  have HE : Hid (bits BinOp.or IntKind.u64 (bits BinOp.or IntKind.u64 (c * 4096) (s * 1024)) q = c * 4096 + s * 1024 + q) := word_or c s q h1 h2 h3 h4 h5 h6
  go_enter Tryz.func74, Tryz.ntmps74
  go_wp2
  go_ret
  exact ⟨by rw [HE.out]; rfl, (Below.refl _ _).alloc (Nat.le_refl _) _⟩

theorem tagOk_bounds {c s q : Int} (h : tagOkB c s q = true) : 1 ≤ c ∧ c ≤ 100000 ∧ 0 ≤ s ∧ s ≤ 3 ∧ 1 ≤ q ∧ q ≤ 1000 := by
  unfold tagOkB btw at h
  simp only [Bool.and_eq_true, decide_eq_true_eq] at h
  omega

theorem tagWord_any (c s q : Int) (w : World) (h : tagOkB c s q = true) :
    Calls Tryz.prog 74 #[tagV c s q] w fun e w' => e = .returned (.int .u64 (c * 4096 + s * 1024 + q)) ∧ Below w.heap.size w w' := by
  obtain ⟨h1, h2, h3, h4, h5, h6⟩ := tagOk_bounds h
  exact tagWord_raw c s q w h1 h2 h3 h4 h5 h6

/-- The packed words stand as the tags do. -/
theorem word_order {c s q c' s' q' : Int} (h : tagOkB c s q = true) (h' : tagOkB c' s' q' = true) : (c' * 4096 + s' * 1024 + q' ≤ c * 4096 + s * 1024 + q) ↔ 0 ≤ tcmp c s q c' s' q' := by
  obtain ⟨h1, h2, h3, h4, h5, h6⟩ := tagOk_bounds h
  obtain ⟨g1, g2, g3, g4, g5, g6⟩ := tagOk_bounds h'
  unfold tcmp sgn
  by_cases e1 : c = c'
  · rw [if_neg (by simpa using e1)]
    by_cases e2 : s = s'
    · rw [if_neg (by simpa using e2)]
      split
      · omega
      · split <;> omega
    · rw [if_pos e2]
      split
      · omega
      · split <;> omega
  · rw [if_pos e1]
    split
    · omega
    · split <;> omega

end Go.Proofs.YtidpcjcnhklmpabGreat

/- The contract of the cursor's write. -/
namespace Go.Proofs.YtidpcjcnhklmpabGreat
open Go.ChangeShapes Go.WideShapes Go.ChangeAt Go.RowKit Go.Joins

/-- A write in a block of its own. -/
structure WBox (w : World) (b : Nat) (k c s q v : Int) (de : Bool) (x : Option Addr) (len cap : Nat) : Prop where
  lt : b < w.heap.size
  c0 : w.cell? ⟨b, 0, none⟩ = some (.int .i64 k)
  c1 : w.cell? ⟨b, 1, none⟩ = some (.int .i64 c)
  c2 : w.cell? ⟨b, 2, none⟩ = some (.int .i64 s)
  c3 : w.cell? ⟨b, 3, none⟩ = some (.int .i64 q)
  c4 : w.cell? ⟨b, 4, none⟩ = some (.int .i64 v)
  c5 : w.cell? ⟨b, 5, none⟩ = some (.bool de)
  c6 : w.cell? ⟨b, 6, none⟩ = some (.slice x len cap)
  fz : ∀ o, w.frozen? ⟨b, o, none⟩ = false

theorem WBox.start (w : World) (k c s q v : Int) (de : Bool) (x : Option Addr) (len cap : Nat) (t : Nat) : WBox (w.alloc (.cells #[.int .i64 k, .int .i64 c, .int .i64 s, .int .i64 q, .int .i64 v, .bool de, .slice x len cap] t)) w.heap.size k c s q v de x len cap :=
  ⟨by simp, by simp [go_sem], by simp [go_sem], by simp [go_sem], by simp [go_sem], by simp [go_sem], by simp [go_sem], by simp [go_sem], fun o => by simp [go_sem]⟩

theorem WBox.hole {w w' : World} {B b : Nat} {k c s q v : Int} {de : Bool} {x : Option Addr} {len cap : Nat} (h : WBox w b k c s q v de x len cap) (hh : Hole B w w') (hn : b ≠ B) : WBox w' b k c s q v de x len cap :=
  ⟨Nat.lt_of_lt_of_le h.lt hh.size, (hh.cell h.lt hn).trans h.c0, (hh.cell h.lt hn).trans h.c1, (hh.cell h.lt hn).trans h.c2, (hh.cell h.lt hn).trans h.c3, (hh.cell h.lt hn).trans h.c4, (hh.cell h.lt hn).trans h.c5, (hh.cell h.lt hn).trans h.c6, fun o => (hh.frozen h.lt hn).trans (h.fz o)⟩

theorem WBox.other {w : World} {R b : Nat} {k c s q v : Int} {de : Bool} {x : Option Addr} {len cap : Nat} (h : WBox w b k c s q v de x len cap) (hn : R ≠ b) (o : Nat) (y : Value) : WBox (w.setCell ⟨R, o, none⟩ y) b k c s q v de x len cap := by
  have hne : ∀ o', (Addr.mk R o none) ≠ ⟨b, o', none⟩ := fun o' e => hn (by injection e)
  exact ⟨by simpa [World.setCell] using h.lt, (World.cell?_setCell_other _ _ _ _ (hne _)).trans h.c0, (World.cell?_setCell_other _ _ _ _ (hne _)).trans h.c1, (World.cell?_setCell_other _ _ _ _ (hne _)).trans h.c2, (World.cell?_setCell_other _ _ _ _ (hne _)).trans h.c3, (World.cell?_setCell_other _ _ _ _ (hne _)).trans h.c4, (World.cell?_setCell_other _ _ _ _ (hne _)).trans h.c5, (World.cell?_setCell_other _ _ _ _ (hne _)).trans h.c6, fun o => by rw [World.frozen?_setCell]; exact h.fz o⟩

theorem WBox.set0 {w : World} {b : Nat} {k c s q v : Int} {de : Bool} {x : Option Addr} {len cap : Nat} (h : WBox w b k c s q v de x len cap) (y : Int) : WBox (w.setCell ⟨b, 0, none⟩ (.int .i64 y)) b y c s q v de x len cap :=
  ⟨by simpa [World.setCell] using h.lt, cell_set_same h.c0, cell_set_off h.c1 (by omega), cell_set_off h.c2 (by omega), cell_set_off h.c3 (by omega), cell_set_off h.c4 (by omega), cell_set_off h.c5 (by omega), cell_set_off h.c6 (by omega), fun o => by rw [World.frozen?_setCell]; exact h.fz o⟩

theorem WBox.set1 {w : World} {b : Nat} {k c s q v : Int} {de : Bool} {x : Option Addr} {len cap : Nat} (h : WBox w b k c s q v de x len cap) (y : Int) : WBox (w.setCell ⟨b, 1, none⟩ (.int .i64 y)) b k y s q v de x len cap :=
  ⟨by simpa [World.setCell] using h.lt, cell_set_off h.c0 (by omega), cell_set_same h.c1, cell_set_off h.c2 (by omega), cell_set_off h.c3 (by omega), cell_set_off h.c4 (by omega), cell_set_off h.c5 (by omega), cell_set_off h.c6 (by omega), fun o => by rw [World.frozen?_setCell]; exact h.fz o⟩

theorem WBox.set4 {w : World} {b : Nat} {k c s q v : Int} {de : Bool} {x : Option Addr} {len cap : Nat} (h : WBox w b k c s q v de x len cap) (y : Int) : WBox (w.setCell ⟨b, 4, none⟩ (.int .i64 y)) b k c s q y de x len cap :=
  ⟨by simpa [World.setCell] using h.lt, cell_set_off h.c0 (by omega), cell_set_off h.c1 (by omega), cell_set_off h.c2 (by omega), cell_set_off h.c3 (by omega), cell_set_same h.c4, cell_set_off h.c5 (by omega), cell_set_off h.c6 (by omega), fun o => by rw [World.frozen?_setCell]; exact h.fz o⟩

theorem WBox.set5 {w : World} {b : Nat} {k c s q v : Int} {de : Bool} {x : Option Addr} {len cap : Nat} (h : WBox w b k c s q v de x len cap) (y : Bool) : WBox (w.setCell ⟨b, 5, none⟩ (.bool y)) b k c s q v y x len cap :=
  ⟨by simpa [World.setCell] using h.lt, cell_set_off h.c0 (by omega), cell_set_off h.c1 (by omega), cell_set_off h.c2 (by omega), cell_set_off h.c3 (by omega), cell_set_off h.c4 (by omega), cell_set_same h.c5, cell_set_off h.c6 (by omega), fun o => by rw [World.frozen?_setCell]; exact h.fz o⟩

theorem WBox.set6 {w : World} {b : Nat} {k c s q v : Int} {de : Bool} {x : Option Addr} {len cap : Nat} (h : WBox w b k c s q v de x len cap) (y : Option Addr) (l' c' : Nat) : WBox (w.setCell ⟨b, 6, none⟩ (.slice y l' c')) b k c s q v de y l' c' :=
  ⟨by simpa [World.setCell] using h.lt, cell_set_off h.c0 (by omega), cell_set_off h.c1 (by omega), cell_set_off h.c2 (by omega), cell_set_off h.c3 (by omega), cell_set_off h.c4 (by omega), cell_set_off h.c5 (by omega), cell_set_same h.c6, fun o => by rw [World.frozen?_setCell]; exact h.fz o⟩

theorem HoldsDeps.hole {w w' : World} {B g : Nat} {ds : List Dp} (h : HoldsDeps w g 0 ds) (hh : Hole B w w') (hg : g < w.heap.size) (hn : g ≠ B) : HoldsDeps w' g 0 ds := by
  intro i hi
  obtain ⟨h0, h1, h2, h3⟩ := h i hi
  exact ⟨(hh.cell hg hn).trans h0, (hh.cell hg hn).trans h1, (hh.cell hg hn).trans h2, (hh.cell hg hn).trans h3⟩

/-- What is carried through the drawing of a write: the cursor, what was there, the two boxes, the dependencies. -/
structure Draw (w W : World) (B R T g : Nat) (a : Option Addr) (len cap : Nat) (N : Int) (k c s q v : Int) (de : Bool) (ds : List Dp) (cp : Nat) : Prop where
  cur : Cur W B a len cap N
  hole : Hole B w W
  box : WBox W T k c s q v de (some ⟨g, 0, none⟩) ds.length cp
  res : WBox W R 0 0 0 0 0 false none 0 0
  deps : HoldsDeps W g 0 ds
  glt : g < W.heap.size

theorem Draw.step {w W W' : World} {B R T g : Nat} {a : Option Addr} {len cap : Nat} {N M : Int} {k c s q v : Int} {de : Bool} {ds : List Dp} {cp : Nat} (h : Draw w W B R T g a len cap N k c s q v de ds cp) (hc : Cur W' B a len cap M) (hh : Hole B W W') (hT : T ≠ B) (hR : R ≠ B) (hg : g ≠ B) : Draw w W' B R T g a len cap M k c s q v de ds cp :=
  ⟨hc, h.hole.trans hh, h.box.hole hh hT, h.res.hole hh hR, h.deps.hole hh h.glt hg, Nat.lt_of_lt_of_le h.glt hh.size⟩

theorem Draw.set {w W : World} {B R T g : Nat} {a : Option Addr} {len cap : Nat} {N : Int} {k c s q v k' c' s' q' v' : Int} {de de' : Bool} {ds : List Dp} {cp : Nat} (h : Draw w W B R T g a len cap N k c s q v de ds cp) (o : Nat) (y : Value) (hb : WBox (W.setCell ⟨T, o, none⟩ y) T k' c' s' q' v' de' (some ⟨g, 0, none⟩) ds.length cp) (hT : B < T) (hw : w.heap.size ≤ T) (hR : T ≠ R) (hg : T ≠ g) : Draw w (W.setCell ⟨T, o, none⟩ y) B R T g a len cap N k' c' s' q' v' de' ds cp :=
  ⟨h.cur.setOther hT o y, h.hole.setNew hw o y, hb, h.res.other hR o y, h.deps.set hg y, by simpa [World.setCell] using h.glt⟩

theorem write_end {w W : World} {B R T g : Nat} {a : Option Addr} {len cap : Nat} {N M : Int} {k c s q v : Int} {de : Bool} {ds : List Dp} {cp : Nat} (h : Draw w W B R T g a len cap N k c s q v de ds cp) (hR : w.heap.size ≤ R) (hB : B < w.heap.size) (hg : R ≠ g) (hM : N ≤ M) :
    let W' := ((((((W.setCell ⟨R, 0, none⟩ (.int .i64 k)).setCell ⟨R, 1, none⟩ (.int .i64 c)).setCell ⟨R, 2, none⟩ (.int .i64 s)).setCell ⟨R, 3, none⟩ (.int .i64 q)).setCell ⟨R, 4, none⟩ (.int .i64 v)).setCell ⟨R, 5, none⟩ (.bool de)).setCell ⟨R, 6, none⟩ (.slice (some ⟨g, 0, none⟩) ds.length cp)
    g < W'.heap.size ∧ HoldsDeps W' g 0 ds ∧ Cur W' B a len cap M ∧ Hole B w W' :=
  ⟨by simpa [World.setCell] using h.glt, ((((((h.deps.set hg _).set hg _).set hg _).set hg _).set hg _).set hg _).set hg _,
    (((((((h.cur.setOther (by omega) _ _).setOther (by omega) _ _).setOther (by omega) _ _).setOther (by omega) _ _).setOther (by omega) _ _).setOther (by omega) _ _).setOther (by omega) _ _).more hM,
    ((((((h.hole.setNew hR _ _).setNew hR _ _).setNew hR _ _).setNew hR _ _).setNew hR _ _).setNew hR _ _).setNew hR _ _⟩

set_option maxRecDepth 100000 in
set_option maxHeartbeats 8000000 in
theorem write_any (B : Nat) (a : Option Addr) (len cap : Nat) (N : Int) (w : World) (hN : N ≤ 2000) (h : Cur w B a len cap N) :
    Calls Tryz.prog 46 #[.pointer (some ⟨B, 0, none⟩)] w fun e w' => ∃ (k c s q v : Int) (de : Bool) (g cp : Nat) (ds : List Dp), e = .returned (wrV k c s q v de (some ⟨g, 0, none⟩) ds.length cp) ∧ ds.length ≤ 7 ∧ w.heap.size ≤ g ∧ g < w'.heap.size ∧ HoldsDeps w' g 0 ds ∧ Cur w' B a len cap (N + 80) ∧ Hole B w w' := by
  have HC : Hid (Cur w B a len cap N) := h
  have hB := h.lt
  clear h
  go_enter Tryz.func46, Tryz.ntmps46
  go_wp2_with fail
  have HA : Hid (Below w.heap.size w (w.alloc (.cells #[.int .i64 0, .int .i64 0, .int .i64 0, .int .i64 0, .int .i64 0, .bool false, .slice none 0 0] 35))) := (Below.refl _ _).alloc (Nat.le_refl _) _
  have HR0 : Hid (WBox (w.alloc (.cells #[.int .i64 0, .int .i64 0, .int .i64 0, .int .i64 0, .int .i64 0, .bool false, .slice none 0 0] 35)) w.heap.size 0 0 0 0 0 false none 0 0) := WBox.start _ _ _ _ _ _ _ _ _ _ _
  refine (pick_any B a len cap N 6 _ (by omega) (by omega) (by omega) (HC.out.below HA.out)).mono ?_
  rintro e w1 ⟨k, rfl, q10, q11, hc1, hh1⟩
  have HC1 : Hid (Cur w1 B a len cap (N + 1)) := hc1
  have HR1 : Hid (WBox w1 w.heap.size 0 0 0 0 0 false none 0 0) := HR0.out.hole hh1 (by omega)
  have HH1 : Hid (Hole B w w1) := (Hole.of_below HA.out).trans hh1
  clear hc1 hh1 HR0 HA HC
  go_wp2_with fail
  refine (tag_any B a len cap (N + 1) _ (by omega) HC1.out).mono ?_
  rintro e w2 ⟨c0, s, q, rfl, hc2, hh2⟩
  have HC2 : Hid (Cur w2 B a len cap (N + 10)) := hc2.more (by omega)
  have HR2 : Hid (WBox w2 w.heap.size 0 0 0 0 0 false none 0 0) := HR1.out.hole hh2 (by omega)
  have HH2 : Hid (Hole B w w2) := HH1.out.trans hh2
  clear hc2 hh2 HR1 HH1 HC1
  go_wp2_with fail
  refine (pick_any B a len cap (N + 10) 9 _ (by omega) (by omega) (by omega) HC2.out).mono ?_
  rintro e w3 ⟨r3, rfl, q30, q31, hc3, hh3⟩
  have HC3 : Hid (Cur w3 B a len cap (N + 11)) := hc3.more (by omega)
  have HR3 : Hid (WBox w3 w.heap.size 0 0 0 0 0 false none 0 0) := HR2.out.hole hh3 (by omega)
  have HH3 : Hid (Hole B w w3) := HH2.out.trans hh3
  clear hc3 hh3 HR2 HH2 HC2
  have hz3 := HR3.out.lt
  go_wp2_with fail
  have HA : Hid (Below w3.heap.size w3 (w3.alloc (.cells #[.int .i64 k, .int .i64 (wrap64 (c0 + 4)), .int .i64 s, .int .i64 q, .int .i64 (r3 - 2), .bool false, .slice none 0 0] 35))) := (Below.refl _ _).alloc (Nat.le_refl _) _
  have HT0 : Hid (WBox (w3.alloc (.cells #[.int .i64 k, .int .i64 (wrap64 (c0 + 4)), .int .i64 s, .int .i64 q, .int .i64 (r3 - 2), .bool false, .slice none 0 0] 35)) w3.heap.size k (wrap64 (c0 + 4)) s q (r3 - 2) false none 0 0) := WBox.start _ _ _ _ _ _ _ _ _ _ _
  refine (deps_any B a len cap (N + 11) _ (by omega) (HC3.out.below HA.out)).mono ?_
  rintro e w5 ⟨g, cp, ds, rfl, hds, hO, hc5, hh5⟩
  have hle := hO.le
  have hglt := hO.lt
  have hgT : w3.heap.size < g := by simp at hle; omega
  have HD5 : Hid (HoldsDeps w5 g 0 ds) := hO.holds
  have HC5 : Hid (Cur w5 B a len cap (N + 51)) := hc5.more (by omega)
  have HT5 : Hid (WBox w5 w3.heap.size k (wrap64 (c0 + 4)) s q (r3 - 2) false none 0 0) := HT0.out.hole hh5 (by omega)
  have HR5 : Hid (WBox w5 w.heap.size 0 0 0 0 0 false none 0 0) := (HR3.out.hole (Hole.of_below (B := B) HA.out) (by omega)).hole hh5 (by omega)
  have HH5 : Hid (Hole B w w5) := (HH3.out.trans (Hole.of_below HA.out)).trans hh5
  clear hO hc5 hh5 HA HT0 HC3 HR3 HH3 hle
  generalize wrap64 (c0 + 4) = c at *
  generalize r3 - 2 = v at *
  have H5 : Hid (Draw w (w5.setCell ⟨w3.heap.size, 6, none⟩ (.slice (some ⟨g, 0, none⟩) ds.length cp)) B w.heap.size w3.heap.size g a len cap (N + 51) k c s q v false ds cp) :=
    ⟨HC5.out.setOther (by omega) _ _, HH5.out.setNew (by omega) _ _, HT5.out.set6 _ _ _, HR5.out.other (by omega) _ _, HD5.out.set (by show w3.heap.size ≠ g; omega) _, by simpa [World.setCell] using hglt⟩
  have y6 := HT5.out.c6
  have yf := HT5.out.fz
  go_wp2_with fail
  refine (pick_any B a len cap (N + 51) 5 _ (by omega) (by omega) (by omega) H5.out.cur).mono ?_
  rintro e w6 ⟨r6, rfl, q60, q61, hc6, hh6⟩
  have H6 : Hid (Draw w w6 B w.heap.size w3.heap.size g a len cap (N + 51 + 1) k c s q v false ds cp) := H5.out.step hc6 hh6 (by omega) (by omega) (by omega)
  clear hc6 hh6 H5 HC5 HT5 HR5 HH5 HD5 y6 yf
  by_cases j0 : r6 = 0
  · subst j0
    have y4 := H6.out.box.c4
    have y5 := H6.out.box.c5
    have yf := H6.out.box.fz
    have H7 : Hid (Draw w ((w6.setCell ⟨w3.heap.size, 5, none⟩ (.bool true)).setCell ⟨w3.heap.size, 4, none⟩ (.int .i64 0)) B w.heap.size w3.heap.size g a len cap (N + 51 + 1) k c s q 0 true ds cp) := (H6.out.set 5 (.bool true) (H6.out.box.set5 true) (by omega) (by omega) (by omega) (by omega)).set 4 (.int .i64 0) ((H6.out.box.set5 true).set4 0) (by omega) (by omega) (by omega) (by omega)
    clear H6
    go_wp2_with fail
    refine (once_any B a len cap (N + 51 + 1) 14 _ (by omega) (by omega) (by omega) H7.out.cur).mono ?_
    rintro e w7 ⟨b7, rfl, hc7, hh7⟩
    have H7' : Hid (Draw w w7 B w.heap.size w3.heap.size g a len cap (N + 51 + 1 + 1) k c s q 0 true ds cp) := H7.out.step hc7 hh7 (by omega) (by omega) (by omega)
    clear hc7 hh7 H7 y4 y5 yf
    cases b7
    · have x0 := H7'.out.res.c0
      have x1 := H7'.out.res.c1
      have x2 := H7'.out.res.c2
      have x3 := H7'.out.res.c3
      have x4 := H7'.out.res.c4
      have x5 := H7'.out.res.c5
      have x6 := H7'.out.res.c6
      have xf := H7'.out.res.fz
      have y0 := H7'.out.box.c0
      have y1 := H7'.out.box.c1
      have y2 := H7'.out.box.c2
      have y3 := H7'.out.box.c3
      have y4 := H7'.out.box.c4
      have y5 := H7'.out.box.c5
      have y6 := H7'.out.box.c6
      have yf := H7'.out.box.fz
      go_wp2
      obtain ⟨z1, z2, z3, z4⟩ := write_end (M := N + 80) H7'.out (Nat.le_refl _) hB (by omega) (by omega)
      exact bodyPost_ret (v := wrV k c s q 0 true (some ⟨g, 0, none⟩) ds.length cp) (by simp [results, Tryz.results46, go_sem, x0, x1, x2, x3, x4, x5, x6]) rfl ⟨k, c, s, q, 0, true, g, cp, ds, rfl, hds, by omega, z1, z2, z3, z4⟩
    · go_wp2_with fail
      refine (pick_any B a len cap (N + 51 + 1 + 1) 3 _ (by omega) (by omega) (by omega) H7'.out.cur).mono ?_
      rintro e w8 ⟨r8, rfl, q80, q81, hc8, hh8⟩
      have H8 : Hid (Draw w w8 B w.heap.size w3.heap.size g a len cap (N + 51 + 1 + 1 + 1) k c s q 0 true ds cp) := H7'.out.step hc8 hh8 (by omega) (by omega) (by omega)
      clear hc8 hh8 H7'
      by_cases k0 : r8 = 0
      · subst k0
        go_wp2_with fail
        refine (raw_any B a len cap (N + 51 + 1 + 1 + 1) _ (by omega) H8.out.cur).mono ?_
        rintro e w9 ⟨u, rfl, hc9, hh9⟩
        have H9 : Hid (Draw w w9 B w.heap.size w3.heap.size g a len cap (N + 51 + 1 + 1 + 1 + 2) k c s q 0 true ds cp) := H8.out.step hc9 hh9 (by omega) (by omega) (by omega)
        clear hc9 hh9 H8
        have x0 := H9.out.res.c0
        have x1 := H9.out.res.c1
        have x2 := H9.out.res.c2
        have x3 := H9.out.res.c3
        have x4 := H9.out.res.c4
        have x5 := H9.out.res.c5
        have x6 := H9.out.res.c6
        have xf := H9.out.res.fz
        have y0 := H9.out.box.c0
        have y1 := H9.out.box.c1
        have y2 := H9.out.box.c2
        have y3 := H9.out.box.c3
        have y4 := H9.out.box.c4
        have y5 := H9.out.box.c5
        have y6 := H9.out.box.c6
        have yf := H9.out.box.fz
        go_wp2
        obtain ⟨z1, z2, z3, z4⟩ := write_end (M := N + 80) (H9.out.set 0 (.int .i64 u) (H9.out.box.set0 u) (by omega) (by omega) (by omega) (by omega)) (Nat.le_refl _) hB (by omega) (by omega)
        exact bodyPost_ret (v := wrV u c s q 0 true (some ⟨g, 0, none⟩) ds.length cp) (by simp [results, Tryz.results46, go_sem, x0, x1, x2, x3, x4, x5, x6]) rfl ⟨u, c, s, q, 0, true, g, cp, ds, rfl, hds, by omega, z1, z2, z3, z4⟩
      · by_cases k1 : r8 = 1
        · subst k1
          go_wp2_with fail
          refine (raw_any B a len cap (N + 51 + 1 + 1 + 1) _ (by omega) H8.out.cur).mono ?_
          rintro e w9 ⟨u, rfl, hc9, hh9⟩
          have H9 : Hid (Draw w w9 B w.heap.size w3.heap.size g a len cap (N + 51 + 1 + 1 + 1 + 2) k c s q 0 true ds cp) := H8.out.step hc9 hh9 (by omega) (by omega) (by omega)
          clear hc9 hh9 H8
          have hB9 := H9.out.cur.lt
          go_wp2_with fail
          have HA : Hid (Below w9.heap.size w9 (w9.alloc (.cells ((([u, 1000000, 1000001] : List Int).map (Value.int .i64)).toArray) 3))) := (Below.refl _ _).alloc (Nat.le_refl _) _
          refine (pick_any B a len cap (N + 51 + 1 + 1 + 1 + 2) 3 _ (by omega) (by omega) (by omega) (H9.out.cur.below HA.out)).mono ?_
          rintro e w10 ⟨r10, rfl, q100, q101, hc10, hh10⟩
          have hcell : w10.cell? ⟨w9.heap.size, r10.toNat, none⟩ = some (.int .i64 _) := (hh10.cell (by simp) (by omega)).trans (ints_cell w9 [u, 1000000, 1000001] _ r10.toNat (by simp; omega))
          generalize List.getD [u, 1000000, 1000001] r10.toNat 0 = y at hcell
          have H10 : Hid (Draw w w10 B w.heap.size w3.heap.size g a len cap (N + 51 + 1 + 1 + 1 + 2 + 1) k c s q 0 true ds cp) := H9.out.step hc10 ((Hole.of_below HA.out).trans hh10) (by omega) (by omega) (by omega)
          clear hc10 hh10 H9 HA
          have x0 := H10.out.res.c0
          have x1 := H10.out.res.c1
          have x2 := H10.out.res.c2
          have x3 := H10.out.res.c3
          have x4 := H10.out.res.c4
          have x5 := H10.out.res.c5
          have x6 := H10.out.res.c6
          have xf := H10.out.res.fz
          have y0 := H10.out.box.c0
          have y1 := H10.out.box.c1
          have y2 := H10.out.box.c2
          have y3 := H10.out.box.c3
          have y4 := H10.out.box.c4
          have y5 := H10.out.box.c5
          have y6 := H10.out.box.c6
          have yf := H10.out.box.fz
          go_wp2
          obtain ⟨z1, z2, z3, z4⟩ := write_end (M := N + 80) (H10.out.set 4 (.int .i64 y) (H10.out.box.set4 y) (by omega) (by omega) (by omega) (by omega)) (Nat.le_refl _) hB (by omega) (by omega)
          exact bodyPost_ret (v := wrV k c s q y true (some ⟨g, 0, none⟩) ds.length cp) (by simp [results, Tryz.results46, go_sem, x0, x1, x2, x3, x4, x5, x6]) rfl ⟨k, c, s, q, y, true, g, cp, ds, rfl, hds, by omega, z1, z2, z3, z4⟩
        · have k0' : (r8 == 0) = false := by simp [k0]
          have k1' : (r8 == 1) = false := by simp [k1]
          clear k0 k1
          have x0 := H8.out.res.c0
          have x1 := H8.out.res.c1
          have x2 := H8.out.res.c2
          have x3 := H8.out.res.c3
          have x4 := H8.out.res.c4
          have x5 := H8.out.res.c5
          have x6 := H8.out.res.c6
          have xf := H8.out.res.fz
          have y0 := H8.out.box.c0
          have y1 := H8.out.box.c1
          have y2 := H8.out.box.c2
          have y3 := H8.out.box.c3
          have y4 := H8.out.box.c4
          have y5 := H8.out.box.c5
          have y6 := H8.out.box.c6
          have yf := H8.out.box.fz
          go_wp2
          obtain ⟨z1, z2, z3, z4⟩ := write_end (M := N + 80) (H8.out.set 5 (.bool (!true)) (H8.out.box.set5 (!true)) (by omega) (by omega) (by omega) (by omega)) (Nat.le_refl _) hB (by omega) (by omega)
          exact bodyPost_ret (v := wrV k c s q 0 (!true) (some ⟨g, 0, none⟩) ds.length cp) (by simp [results, Tryz.results46, go_sem, x0, x1, x2, x3, x4, x5, x6]) rfl ⟨k, c, s, q, 0, (!true), g, cp, ds, rfl, hds, by omega, z1, z2, z3, z4⟩
  · have j0' : (r6 == 0) = false := by simp [j0]
    clear j0
    go_wp2_with fail
    refine (once_any B a len cap (N + 51 + 1) 14 _ (by omega) (by omega) (by omega) H6.out.cur).mono ?_
    rintro e w7 ⟨b7, rfl, hc7, hh7⟩
    have H7 : Hid (Draw w w7 B w.heap.size w3.heap.size g a len cap (N + 51 + 1 + 1) k c s q v false ds cp) := H6.out.step hc7 hh7 (by omega) (by omega) (by omega)
    clear hc7 hh7 H6
    cases b7
    · have x0 := H7.out.res.c0
      have x1 := H7.out.res.c1
      have x2 := H7.out.res.c2
      have x3 := H7.out.res.c3
      have x4 := H7.out.res.c4
      have x5 := H7.out.res.c5
      have x6 := H7.out.res.c6
      have xf := H7.out.res.fz
      have y0 := H7.out.box.c0
      have y1 := H7.out.box.c1
      have y2 := H7.out.box.c2
      have y3 := H7.out.box.c3
      have y4 := H7.out.box.c4
      have y5 := H7.out.box.c5
      have y6 := H7.out.box.c6
      have yf := H7.out.box.fz
      go_wp2
      obtain ⟨z1, z2, z3, z4⟩ := write_end (M := N + 80) H7.out (Nat.le_refl _) hB (by omega) (by omega)
      exact bodyPost_ret (v := wrV k c s q v false (some ⟨g, 0, none⟩) ds.length cp) (by simp [results, Tryz.results46, go_sem, x0, x1, x2, x3, x4, x5, x6]) rfl ⟨k, c, s, q, v, false, g, cp, ds, rfl, hds, by omega, z1, z2, z3, z4⟩
    · go_wp2_with fail
      refine (pick_any B a len cap (N + 51 + 1 + 1) 3 _ (by omega) (by omega) (by omega) H7.out.cur).mono ?_
      rintro e w8 ⟨r8, rfl, q80, q81, hc8, hh8⟩
      have H8 : Hid (Draw w w8 B w.heap.size w3.heap.size g a len cap (N + 51 + 1 + 1 + 1) k c s q v false ds cp) := H7.out.step hc8 hh8 (by omega) (by omega) (by omega)
      clear hc8 hh8 H7
      by_cases k0 : r8 = 0
      · subst k0
        go_wp2_with fail
        refine (raw_any B a len cap (N + 51 + 1 + 1 + 1) _ (by omega) H8.out.cur).mono ?_
        rintro e w9 ⟨u, rfl, hc9, hh9⟩
        have H9 : Hid (Draw w w9 B w.heap.size w3.heap.size g a len cap (N + 51 + 1 + 1 + 1 + 2) k c s q v false ds cp) := H8.out.step hc9 hh9 (by omega) (by omega) (by omega)
        clear hc9 hh9 H8
        have x0 := H9.out.res.c0
        have x1 := H9.out.res.c1
        have x2 := H9.out.res.c2
        have x3 := H9.out.res.c3
        have x4 := H9.out.res.c4
        have x5 := H9.out.res.c5
        have x6 := H9.out.res.c6
        have xf := H9.out.res.fz
        have y0 := H9.out.box.c0
        have y1 := H9.out.box.c1
        have y2 := H9.out.box.c2
        have y3 := H9.out.box.c3
        have y4 := H9.out.box.c4
        have y5 := H9.out.box.c5
        have y6 := H9.out.box.c6
        have yf := H9.out.box.fz
        go_wp2
        obtain ⟨z1, z2, z3, z4⟩ := write_end (M := N + 80) (H9.out.set 0 (.int .i64 u) (H9.out.box.set0 u) (by omega) (by omega) (by omega) (by omega)) (Nat.le_refl _) hB (by omega) (by omega)
        exact bodyPost_ret (v := wrV u c s q v false (some ⟨g, 0, none⟩) ds.length cp) (by simp [results, Tryz.results46, go_sem, x0, x1, x2, x3, x4, x5, x6]) rfl ⟨u, c, s, q, v, false, g, cp, ds, rfl, hds, by omega, z1, z2, z3, z4⟩
      · by_cases k1 : r8 = 1
        · subst k1
          go_wp2_with fail
          refine (raw_any B a len cap (N + 51 + 1 + 1 + 1) _ (by omega) H8.out.cur).mono ?_
          rintro e w9 ⟨u, rfl, hc9, hh9⟩
          have H9 : Hid (Draw w w9 B w.heap.size w3.heap.size g a len cap (N + 51 + 1 + 1 + 1 + 2) k c s q v false ds cp) := H8.out.step hc9 hh9 (by omega) (by omega) (by omega)
          clear hc9 hh9 H8
          have hB9 := H9.out.cur.lt
          go_wp2_with fail
          have HA : Hid (Below w9.heap.size w9 (w9.alloc (.cells ((([u, 1000000, 1000001] : List Int).map (Value.int .i64)).toArray) 3))) := (Below.refl _ _).alloc (Nat.le_refl _) _
          refine (pick_any B a len cap (N + 51 + 1 + 1 + 1 + 2) 3 _ (by omega) (by omega) (by omega) (H9.out.cur.below HA.out)).mono ?_
          rintro e w10 ⟨r10, rfl, q100, q101, hc10, hh10⟩
          have hcell : w10.cell? ⟨w9.heap.size, r10.toNat, none⟩ = some (.int .i64 _) := (hh10.cell (by simp) (by omega)).trans (ints_cell w9 [u, 1000000, 1000001] _ r10.toNat (by simp; omega))
          generalize List.getD [u, 1000000, 1000001] r10.toNat 0 = y at hcell
          have H10 : Hid (Draw w w10 B w.heap.size w3.heap.size g a len cap (N + 51 + 1 + 1 + 1 + 2 + 1) k c s q v false ds cp) := H9.out.step hc10 ((Hole.of_below HA.out).trans hh10) (by omega) (by omega) (by omega)
          clear hc10 hh10 H9 HA
          have x0 := H10.out.res.c0
          have x1 := H10.out.res.c1
          have x2 := H10.out.res.c2
          have x3 := H10.out.res.c3
          have x4 := H10.out.res.c4
          have x5 := H10.out.res.c5
          have x6 := H10.out.res.c6
          have xf := H10.out.res.fz
          have y0 := H10.out.box.c0
          have y1 := H10.out.box.c1
          have y2 := H10.out.box.c2
          have y3 := H10.out.box.c3
          have y4 := H10.out.box.c4
          have y5 := H10.out.box.c5
          have y6 := H10.out.box.c6
          have yf := H10.out.box.fz
          go_wp2
          obtain ⟨z1, z2, z3, z4⟩ := write_end (M := N + 80) (H10.out.set 4 (.int .i64 y) (H10.out.box.set4 y) (by omega) (by omega) (by omega) (by omega)) (Nat.le_refl _) hB (by omega) (by omega)
          exact bodyPost_ret (v := wrV k c s q y false (some ⟨g, 0, none⟩) ds.length cp) (by simp [results, Tryz.results46, go_sem, x0, x1, x2, x3, x4, x5, x6]) rfl ⟨k, c, s, q, y, false, g, cp, ds, rfl, hds, by omega, z1, z2, z3, z4⟩
        · have k0' : (r8 == 0) = false := by simp [k0]
          have k1' : (r8 == 1) = false := by simp [k1]
          clear k0 k1
          have x0 := H8.out.res.c0
          have x1 := H8.out.res.c1
          have x2 := H8.out.res.c2
          have x3 := H8.out.res.c3
          have x4 := H8.out.res.c4
          have x5 := H8.out.res.c5
          have x6 := H8.out.res.c6
          have xf := H8.out.res.fz
          have y0 := H8.out.box.c0
          have y1 := H8.out.box.c1
          have y2 := H8.out.box.c2
          have y3 := H8.out.box.c3
          have y4 := H8.out.box.c4
          have y5 := H8.out.box.c5
          have y6 := H8.out.box.c6
          have yf := H8.out.box.fz
          go_wp2
          obtain ⟨z1, z2, z3, z4⟩ := write_end (M := N + 80) (H8.out.set 5 (.bool (!false)) (H8.out.box.set5 (!false)) (by omega) (by omega) (by omega) (by omega)) (Nat.le_refl _) hB (by omega) (by omega)
          exact bodyPost_ret (v := wrV k c s q v (!false) (some ⟨g, 0, none⟩) ds.length cp) (by simp [results, Tryz.results46, go_sem, x0, x1, x2, x3, x4, x5, x6]) rfl ⟨k, c, s, q, v, (!false), g, cp, ds, rfl, hds, by omega, z1, z2, z3, z4⟩

end Go.Proofs.YtidpcjcnhklmpabGreat

/- The contract of the cursor's size. -/
namespace Go.Proofs.YtidpcjcnhklmpabGreat
open Go.ChangeShapes Go.WideShapes Go.ChangeAt Go.RowKit Go.Joins

set_option maxHeartbeats 1000000 in
theorem size_any (B : Nat) (a : Option Addr) (len cap : Nat) (N n : Int) (w : World) (hN : N ≤ 1000000) (hn : 1 ≤ n) (hn' : n ≤ 1000) (h : Cur w B a len cap N) :
    Calls Tryz.prog 40 #[.pointer (some ⟨B, 0, none⟩), .int .i64 n] w fun e w' => ∃ r : Int, e = .returned (.int .i64 r) ∧ 0 ≤ r ∧ r ≤ n ∧ Cur w' B a len cap (N + 1) ∧ Hole B w w' := by
  have HC : Hid (Cur w B a len cap N) := h
  obtain ⟨at_, seed, hc, _, _, hl⟩ := h
  have c0 := hc.c0
  clear hc
  go_enter Tryz.func40, Tryz.ntmps40
  by_cases hb : n < 1 + ((len / 8 : Nat) : Int)
  · go_wp2_with fail
    refine (pick_any B a len cap N (n + 1) _ hN (by omega) (by omega) HC.out).mono ?_
    rintro e w1 ⟨r, rfl, r0, r1, hc1, hh1⟩
    have HC1 := Lib.hid hc1
    have HH1 := Lib.hid hh1
    clear hc1 hh1
    go_wp2
    go_ret
    exact ⟨r, rfl, r0, by omega, HC1.out, HH1.out⟩
  · go_wp2_with fail
    refine (pick_any B a len cap N _ _ hN (by omega) (by omega) HC.out).mono ?_
    rintro e w1 ⟨r, rfl, r0, r1, hc1, hh1⟩
    have HC1 := Lib.hid hc1
    have HH1 := Lib.hid hh1
    clear hc1 hh1
    go_wp2
    go_ret
    exact ⟨r, rfl, r0, by omega, HC1.out, HH1.out⟩

end Go.Proofs.YtidpcjcnhklmpabGreat
