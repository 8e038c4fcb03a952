import Derived.Test.YtojgahcogpediaaPack2
import Derived.Test.YtojgahcogpediaaPack1
import Derived.Deep.DrawnRows
/- The contracts of the specification's MapAt and MapHas. -/
namespace Go.Proofs.Ytojgahcogpediaa
open Go.ChangeShapes Go.WideShapes Go.ChangeAt Go.RowKit Go.Joins
attribute [local go_sem ↓] Go.wp_at_zero Go.wp_at_succ

/-- Number i is the first write of this key. -/
def FirstAt (ws : List Wr) (key : Int) (i : Nat) : Prop := i < ws.length ∧ (ws.getD i wz).k = key ∧ ∀ j, j < i → (ws.getD j wz).k ≠ key
/-- There is none of this key. -/
def NoneAt (ws : List Wr) (key : Int) : Prop := ∀ j, j < ws.length → (ws.getD j wz).k ≠ key

theorem FirstAt.same {ws : List Wr} {key : Int} {i j : Nat} (h : FirstAt ws key i) (h' : FirstAt ws key j) : i = j := by
  by_cases h1 : i < j
  · exact absurd h.2.1 (h'.2.2 i h1)
  · by_cases h2 : j < i
    · exact absurd h'.2.1 (h.2.2 j h2)
    · omega

theorem FirstAt.no {ws : List Wr} {key : Int} {i : Nat} (h : FirstAt ws key i) (h' : NoneAt ws key) : False := h' i h.1 h.2.1

/-- What a look at a map tells: a write of one's own, or nothing. -/
def Told (ws : List Wr) (key : Int) (w w' : World) (v : Value) : Prop :=
  (∃ i g cp, FirstAt ws key i ∧ v = .tuple #[wrOf (ws.getD i wz) (some ⟨g, 0, none⟩) cp, .bool true] ∧ w.heap.size ≤ g ∧ g < w'.heap.size ∧ HoldsDeps w' g 0 (ws.getD i wz).xs) ∨
  (NoneAt ws key ∧ v = .tuple #[wrV 0 0 0 0 0 false none 0 0, .bool false])

def findW (ws : List Wr) (key : Int) : Option Wr := ws.find? fun x => x.k == key

theorem find_first : ∀ {ws : List Wr} {key : Int} {i : Nat}, FirstAt ws key i → findW ws key = some (ws.getD i wz)
  | [], _, _, h => by simp [FirstAt] at h
  | x :: r, key, 0, h => by
    have hk : x.k = key := h.2.1
    simp [findW, hk]
  | x :: r, key, i + 1, h => by
    have hk : x.k ≠ key := h.2.2 0 (by omega)
    have : FirstAt r key i := ⟨by simpa using h.1, h.2.1, fun j hj => h.2.2 (j + 1) (by omega)⟩
    have := find_first this
    simp only [findW, List.find?_cons, beq_eq_false_iff_ne.2 hk] at this ⊢
    exact this

theorem find_none {ws : List Wr} {key : Int} (h : NoneAt ws key) : findW ws key = none := by
  induction ws with
  | nil => rfl
  | cons x r ih =>
    have hk : x.k ≠ key := h 0 (by simp)
    have := ih fun j hj => h (j + 1) (by simpa using hj)
    simp only [findW, List.find?_cons, beq_eq_false_iff_ne.2 hk] at this ⊢
    exact this

def hasB (ws : List Wr) (key c s q : Int) : Bool := match findW ws key with | some x => decide (0 ≤ tcmp x.c x.s x.q c s q) | none => false

end Go.Proofs.Ytojgahcogpediaa

/- The contract of impl.WriteOk. -/
namespace Go.Proofs.Ytojgahcogpediaa
open Go.ChangeShapes Go.WideShapes Go.ChangeAt Go.RowKit Go.Joins

set_option maxHeartbeats 1000000 in
theorem implWriteOk_ends (k c s q v : Int) (de : Bool) (a : Option Addr) (xs : List Dp) (cap : Nat) (w : World)
    (hbad : btw k 0 5 = false ∨ tagOkB c s q = false ∨ valOkB v de = false) :
    Calls Try.prog 39 #[wrV k c s q v de a xs.length cap] w fun e w' => e = .returned (.bool (writeOkB k c s q v de xs)) ∧ Below w.heap.size w w' := by
  cases h1 : btw k 0 5
  · rw [wok_key h1]
    clear hbad
    go_enter Try.func39, Try.ntmps39
    go_wp2_with (go_at_call 77; refine (keyOk_is _ false h1 _).mono ?_; rintro e w' ⟨rfl, rfl⟩)
    go_ret
    exact ⟨rfl, (Below.refl _ _).alloc (Nat.le_refl _) _⟩
  cases h2 : tagOkB c s q
  · rw [wok_tag h2]
    clear hbad
    go_enter Try.func39, Try.ntmps39
    go_wp2_with (first | (go_at_call 77; refine (keyOk_is _ true h1 _).mono ?_; rintro e w' ⟨rfl, rfl⟩) | (go_at_call 78; refine (implTagOk_is _ _ _ false h2 _).mono ?_; rintro e w' ⟨rfl, hb⟩))
    go_ret
    exact ⟨rfl, below_step ((Below.refl _ _).alloc (Nat.le_refl _) _) (by simp) hb⟩
  have h3 : valOkB v de = false := by
    rcases hbad with h | h | h
    · rw [h1] at h; cases h
    · rw [h2] at h; cases h
    · exact h
  rw [wok_val h3]
  clear hbad
  go_enter Try.func39, Try.ntmps39
  go_wp2_with fail
  refine (keyOk_is _ true h1 _).mono ?_
  rintro e w1 ⟨rfl, rfl⟩
  go_wp2_with fail
  refine (implTagOk_is _ _ _ true h2 _).mono ?_
  rintro e w2 ⟨rfl, hb⟩
  have HX := BoxIn.start hb
  have b4 := HX.c4
  have b5 := HX.c5
  clear hb
  go_wp2_with (go_at_call 79; refine (valOk_is _ _ false h3 _).mono ?_; rintro e w' ⟨rfl, rfl⟩)
  go_ret
  exact ⟨rfl, HX.below⟩

set_option maxHeartbeats 1000000 in
theorem implWriteOk_deps (k c s q v : Int) (de : Bool) (a : Option Addr) (xs : List Dp) (cap : Nat) (w : World) (hn : xs.length ≤ 1048576) (hh : IsDeps w a xs)
    (h1 : btw k 0 5 = true) (h2 : tagOkB c s q = true) (h3 : valOkB v de = true) (h4 : depsOkB xs = false) :
    Calls Try.prog 39 #[wrV k c s q v de a xs.length cap] w fun e w' => e = .returned (.bool (writeOkB k c s q v de xs)) ∧ Below w.heap.size w w' := by
  rw [wok_deps h4]
  have HH : Hid (IsDeps w a xs) := hh
  clear hh
  go_enter Try.func39, Try.ntmps39
  go_wp2_with fail
  refine (keyOk_is _ true h1 _).mono ?_
  rintro e w1 ⟨rfl, rfl⟩
  go_wp2_with fail
  refine (implTagOk_is _ _ _ true h2 _).mono ?_
  rintro e w2 ⟨rfl, hb⟩
  have HX := BoxIn.start hb
  have b4 := HX.c4
  have b5 := HX.c5
  have b6 := HX.c6
  clear hb
  go_wp2_with fail
  refine (valOk_is _ _ true h3 _).mono ?_
  rintro e w3 ⟨rfl, rfl⟩
  go_wp2_with fail
  refine (implDepsOk_is false _ xs h4 _ _ hn (HH.out.below HX.below)).mono ?_
  rintro e w4 ⟨rfl, hb4⟩
  have HB : Hid (Below w.heap.size w w4) := below_step HX.below HX.below.size hb4
  clear hb4
  go_wp2
  go_ret
  exact ⟨rfl, HB.out⟩

set_option maxHeartbeats 2000000 in
theorem implWriteOk_rest (k c s q v : Int) (de : Bool) (a : Option Addr) (xs : List Dp) (cap : Nat) (w : World) (hn : xs.length ≤ 1048576) (hh : IsDeps w a xs)
    (h1 : btw k 0 5 = true) (h2 : tagOkB c s q = true) (h3 : valOkB v de = true) (h4 : depsOkB xs = true) :
    Calls Try.prog 39 #[wrV k c s q v de a xs.length cap] w fun e w' => e = .returned (.bool (writeOkB k c s q v de xs)) ∧ Below w.heap.size w w' := by
  rw [wok_rest h1 h2 h3 h4]
  have HH : Hid (IsDeps w a xs) := hh
  have HT : Hid (∀ i, i < xs.length → tagOkB (xs.getD i dz).c (xs.getD i dz).s (xs.getD i dz).q = true) := fun i hi => depsOk_tag h4 hi
  clear hh
  go_enter Try.func39, Try.ntmps39
  go_wp2_with fail
  refine (keyOk_is _ true h1 _).mono ?_
  rintro e w1 ⟨rfl, rfl⟩
  go_wp2_with fail
  refine (implTagOk_is _ _ _ true h2 _).mono ?_
  rintro e w2 ⟨rfl, hb⟩
  have HX := BoxIn.start hb
  have b1 := HX.c1
  have b2 := HX.c2
  have b3 := HX.c3
  have b4 := HX.c4
  have b5 := HX.c5
  have b6 := HX.c6
  clear hb
  go_wp2_with fail
  refine (valOk_is _ _ true h3 _).mono ?_
  rintro e w3 ⟨rfl, rfl⟩
  go_wp2_with fail
  refine (implDepsOk_is true _ xs h4 _ _ hn (HH.out.below HX.below)).mono ?_
  rintro e w4 ⟨rfl, hb4⟩
  have HX4 : Hid (BoxIn w w4 k c s q v de a xs.length cap) := HX.step hb4
  clear hb4 HX b1 b2 b3 b4 b5 b6 h4 h3
  have b1 := HX4.out.c1
  have b2 := HX4.out.c2
  have b3 := HX4.out.c3
  have b6 := HX4.out.c6
  go_wp2_with fail
  refine (tagWord_any _ _ _ _ h2).mono ?_
  rintro e w5 ⟨rfl, hb5⟩
  have HX5 : Hid (BoxIn w w5 k c s q v de a xs.length cap) := HX4.out.step hb5
  clear hb5 b1 b2 b3 b6 HX4
  have b6 := HX5.out.c6
  go_wp2
  clear b6
  go_loopw [36] (fun i wr => ∃ j : Nat, j ≤ xs.length ∧ i = .int .i64 j ∧ Hid (∀ l, l < j → ahead xs c s q l = true) ∧ Hid (Below w.heap.size w wr)) (fun i _ => xs.length - (intOf i).toNat)
  case atStart => exact ⟨0, Nat.zero_le _, rfl, fun l hl => by omega, HX5.out.below⟩
  case round =>
    clear HX5
    obtain ⟨j, hj, rfl, HG, HB⟩ := hrel
    by_cases hj' : j < xs.length
    · obtain ⟨g, o, rfl, hz, e0, e1, e2, e3⟩ := HH.out.at HB.out hj'
      have HA : Hid (ahead xs c s q j = decide (tcmp (xs.getD j dz).c (xs.getD j dz).s (xs.getD j dz).q c s q < 0)) := rfl
      have h6 := HT.out j hj'
      have i1 : (0 : Int) ≤ (j : Int) := by omega
      have i2 : (j : Int) < (xs.length : Int) := by omega
      generalize (xs.getD j dz).k = x0 at *
      generalize (xs.getD j dz).c = x1 at *
      generalize (xs.getD j dz).s = x2 at *
      generalize (xs.getD j dz).q = x3 at *
      have HW := word_order h6 h2
      have HBA : Hid (Below w.heap.size w (wr.alloc (.cells #[.int .i64 x0, .int .i64 x1, .int .i64 x2, .int .i64 x3] 98))) := HB.out.alloc HB.out.size _
      by_cases hs : tcmp x1 x2 x3 c s q < 0
      · have HG' : Hid (∀ l, l < j + 1 → ahead xs c s q l = true) := fun l hl => by
          by_cases h : l < j
          · exact HG.out l h
          · have : l = j := by omega
            rw [this, HA.out]
            exact decide_eq_true hs
        have hw : x1 * 4096 + x2 * 1024 + x3 < c * 4096 + s * 1024 + q := by omega
        clear HA HW hs
        go_wp2_with fail
        refine (tagWord_any _ _ _ _ h6).mono ?_
        rintro e wq ⟨rfl, hq⟩
        have HBQ : Hid (Below w.heap.size w wq) := below_step HBA.out HBA.out.size hq
        clear hq
        go_wp2
        exact ⟨⟨j + 1, by omega, by go_num, HG', HBQ⟩, by simp [intOf]; omega⟩
      · have HF : Hid (aheadAll xs c s q = false) := ahead_false hj' (by rw [HA.out]; exact decide_eq_false hs)
        have hw : c * 4096 + s * 1024 + q ≤ x1 * 4096 + x2 * 1024 + x3 := by omega
        clear HA HW hs
        go_wp2_with fail
        refine (tagWord_any _ _ _ _ h6).mono ?_
        rintro e wq ⟨rfl, hq⟩
        have HBQ : Hid (Below w.heap.size w wq) := below_step HBA.out HBA.out.size hq
        clear hq
        go_wp2
        go_ret
        exact ⟨ret_bool HF.out.symm, HBQ.out⟩
    · go_wp2
      go_ret
      exact ⟨ret_bool (ahead_true fun i hi => HG.out i (by omega)).symm, HB.out⟩

theorem implWriteOk_gen (k c s q v : Int) (de : Bool) (a : Option Addr) (xs : List Dp) (len cap : Nat) (w : World) (hl : xs.length = len) (hn : len ≤ 1048576) (hh : IsDeps w a xs) :
    Calls Try.prog 39 #[wrV k c s q v de a len cap] w fun e w' => e = .returned (.bool (writeOkB k c s q v de xs)) ∧ Below w.heap.size w w' := by
  subst hl
  by_cases h : btw k 0 5 = false ∨ tagOkB c s q = false ∨ valOkB v de = false
  · exact implWriteOk_ends k c s q v de a xs cap w h
  · simp only [not_or, Bool.not_eq_false] at h
    obtain ⟨h1, h2, h3⟩ := h
    cases h4 : depsOkB xs
    · exact implWriteOk_deps k c s q v de a xs cap w hn hh h1 h2 h3 h4
    · exact implWriteOk_rest k c s q v de a xs cap w hn hh h1 h2 h3 h4

theorem implWriteOk_any (k c s q v : Int) (de : Bool) (g : Nat) (xs : List Dp) (len cap : Nat) (w : World) (hl : xs.length = len) (hn : len ≤ 1048576) (hlt : g < w.heap.size) (hh : HoldsDeps w g 0 xs) :
    Calls Try.prog 39 #[wrV k c s q v de (some ⟨g, 0, none⟩) len cap] w fun e w' => e = .returned (.bool (writeOkB k c s q v de xs)) ∧ Below w.heap.size w w' :=
  implWriteOk_gen k c s q v de _ xs len cap w hl hn (.inr ⟨g, 0, rfl, hlt, hh⟩)

end Go.Proofs.Ytojgahcogpediaa

/- The contract of impl.TagCmp. -/
namespace Go.Proofs.Ytojgahcogpediaa
open Go.ChangeShapes Go.WideShapes Go.ChangeAt Go.RowKit
attribute [local go_sem ↓] Go.wp_at_zero Go.wp_at_succ

set_option maxHeartbeats 400000 in
theorem implTagCmp_eq (c s q : Int) (w : World) :
    Calls Try.prog 65 #[tagV c s q, tagV c s q] w fun e w' => e = .returned (.int .i64 0) ∧ Below w.heap.size w w' := by
  go_enter Try.func65, Try.ntmps65
  go_wp2_with fail
  go_ret
  exact ⟨rfl, ((Below.refl _ _).alloc (Nat.le_refl _) _).alloc (by simp) _⟩

theorem three_cells (W : World) (x y z : Int) (t b : Nat) (hb : W.heap.size = b) : ∀ i, i < [x, y, z].length → (W.alloc (Obj.cells #[.int .i64 x, .int .i64 y, .int .i64 z] t)).drew.cell? ⟨b, i, none⟩ = some (.int .i64 ([x, y, z].getD i 0)) := by
  subst hb
  intro i hi
  match i, hi with
  | 0, _ => simp [go_sem]
  | 1, _ => simp [go_sem]
  | 2, _ => simp [go_sem]

set_option maxHeartbeats 1000000 in
theorem implTagCmp_ne1 (c s q c' s' q' : Int) (w : World) (h : ¬ c = c') :
    Calls Try.prog 65 #[tagV c s q, tagV c' s' q'] w fun e w' => e = .returned (.int .i64 (orI [sgn c c', sgn s s', sgn q q'])) ∧ Below w.heap.size w w' := by
  go_enter Try.func65, Try.ntmps65
  go_wp2_with fail
  go_region_held3 (fun w' => w'.cell? ⟨w.heap.size, 0, none⟩ = some (.int .i64 c) ∧ w'.cell? ⟨w.heap.size, 1, none⟩ = some (.int .i64 s) ∧ w'.cell? ⟨w.heap.size, 2, none⟩ = some (.int .i64 q) ∧ w'.cell? ⟨w.heap.size + 1, 0, none⟩ = some (.int .i64 c') ∧ w'.cell? ⟨w.heap.size + 1, 1, none⟩ = some (.int .i64 s') ∧ w'.cell? ⟨w.heap.size + 1, 2, none⟩ = some (.int .i64 q')) (go_keep)
    (first | (go_at_call 66; refine (compare_any _ _ _).mono ?_; rintro e w' ⟨rfl, rfl⟩) | (go_at_call 64; refine (or_any _ [sgn c c', sgn s s', sgn q q'] _ _ (by simp) (by exact three_cells _ _ _ _ _ _ (by simp))).mono ?_; rintro e w' ⟨rfl, rfl⟩))
  all_goals
    go_wp2
    go_ret
    exact ⟨rfl, ((((Below.refl _ _).alloc (Nat.le_refl _) _).alloc (by simp) _).alloc (by simp; omega) _).drew⟩

set_option maxHeartbeats 1000000 in
theorem implTagCmp_ne2 (c s q s' q' : Int) (w : World) (h : ¬ s = s') :
    Calls Try.prog 65 #[tagV c s q, tagV c s' q'] w fun e w' => e = .returned (.int .i64 (orI [sgn c c, sgn s s', sgn q q'])) ∧ Below w.heap.size w w' := by
  go_enter Try.func65, Try.ntmps65
  go_wp2_with fail
  go_region_held3 (fun w' => w'.cell? ⟨w.heap.size, 0, none⟩ = some (.int .i64 c) ∧ w'.cell? ⟨w.heap.size, 1, none⟩ = some (.int .i64 s) ∧ w'.cell? ⟨w.heap.size, 2, none⟩ = some (.int .i64 q) ∧ w'.cell? ⟨w.heap.size + 1, 0, none⟩ = some (.int .i64 c) ∧ w'.cell? ⟨w.heap.size + 1, 1, none⟩ = some (.int .i64 s') ∧ w'.cell? ⟨w.heap.size + 1, 2, none⟩ = some (.int .i64 q')) (go_keep)
    (first | (go_at_call 66; refine (compare_any _ _ _).mono ?_; rintro e w' ⟨rfl, rfl⟩) | (go_at_call 64; refine (or_any _ [sgn c c, sgn s s', sgn q q'] _ _ (by simp) (by exact three_cells _ _ _ _ _ _ (by simp))).mono ?_; rintro e w' ⟨rfl, rfl⟩))
  all_goals
    go_wp2
    go_ret
    exact ⟨rfl, ((((Below.refl _ _).alloc (Nat.le_refl _) _).alloc (by simp) _).alloc (by simp; omega) _).drew⟩

set_option maxHeartbeats 1000000 in
theorem implTagCmp_ne3 (c s q q' : Int) (w : World) (h : ¬ q = q') :
    Calls Try.prog 65 #[tagV c s q, tagV c s q'] w fun e w' => e = .returned (.int .i64 (orI [sgn c c, sgn s s, sgn q q'])) ∧ Below w.heap.size w w' := by
  go_enter Try.func65, Try.ntmps65
  go_wp2_with fail
  go_region_held3 (fun w' => w'.cell? ⟨w.heap.size, 0, none⟩ = some (.int .i64 c) ∧ w'.cell? ⟨w.heap.size, 1, none⟩ = some (.int .i64 s) ∧ w'.cell? ⟨w.heap.size, 2, none⟩ = some (.int .i64 q) ∧ w'.cell? ⟨w.heap.size + 1, 0, none⟩ = some (.int .i64 c) ∧ w'.cell? ⟨w.heap.size + 1, 1, none⟩ = some (.int .i64 s) ∧ w'.cell? ⟨w.heap.size + 1, 2, none⟩ = some (.int .i64 q')) (go_keep)
    (first | (go_at_call 66; refine (compare_any _ _ _).mono ?_; rintro e w' ⟨rfl, rfl⟩) | (go_at_call 64; refine (or_any _ [sgn c c, sgn s s, sgn q q'] _ _ (by simp) (by exact three_cells _ _ _ _ _ _ (by simp))).mono ?_; rintro e w' ⟨rfl, rfl⟩))
  all_goals
    go_wp2
    go_ret
    exact ⟨rfl, ((((Below.refl _ _).alloc (Nat.le_refl _) _).alloc (by simp) _).alloc (by simp; omega) _).drew⟩

theorem implTagCmp_any (c s q c' s' q' : Int) (w : World) :
    Calls Try.prog 65 #[tagV c s q, tagV c' s' q'] w fun e w' => e = .returned (.int .i64 (tcmp c s q c' s' q')) ∧ Below w.heap.size w w' := by
  rw [← orI_three]
  by_cases h1 : c = c'
  · by_cases h2 : s = s'
    · by_cases h3 : q = q'
      · subst h1 h2 h3
        rw [orI_three, tcmp_self]
        exact implTagCmp_eq c s q w
      · subst h1 h2
        exact implTagCmp_ne3 c s q q' w h3
    · subst h1
      exact implTagCmp_ne2 c s q s' q' w h2
  · exact implTagCmp_ne1 c s q c' s' q' w h1

end Go.Proofs.Ytojgahcogpediaa

/- Contracts of impl.MapOk, placeOfKey, copyWrite, MapAt, MapHas. -/
namespace Go.Proofs.Ytojgahcogpediaa
open Go.ChangeShapes Go.WideShapes Go.ChangeAt Go.RowKit Go.Joins
attribute [local go_sem ↓] Go.wp_at_zero Go.wp_at_succ

def lastW (ws : List Wr) (k : Nat) : Int := if k = 0 then -1 else (ws.getD (k - 1) wz).k

theorem okW_key {x : Wr} (h : okW x = true) : 0 ≤ x.k ∧ x.k ≤ 5 := by
  unfold okW writeOkB btw at h
  simp only [Bool.and_eq_true, decide_eq_true_eq] at h
  exact h.1

theorem wrGood_bad {ws : List Wr} {k : Nat} (h1 : okW (ws.getD k wz) = true) (h : (ws.getD k wz).k ≤ lastW ws k) : wrGood ws k = false := by
  unfold wrGood
  rw [h1, Bool.true_and]
  refine decide_eq_false ?_
  have := okW_key h1
  unfold lastW at h
  by_cases hk : k = 0
  · rw [if_pos hk] at h
    omega
  · rw [if_neg hk] at h
    omega

theorem wrGood_good {ws : List Wr} {k : Nat} (h1 : okW (ws.getD k wz) = true) (h : lastW ws k < (ws.getD k wz).k) : wrGood ws k = true := by
  unfold wrGood
  rw [h1, Bool.true_and]
  refine decide_eq_true ?_
  unfold lastW at h
  by_cases hk : k = 0
  · exact .inl hk
  · rw [if_neg hk] at h
    exact .inr h

theorem wrGood_not {ws : List Wr} {k : Nat} (h1 : okW (ws.getD k wz) = false) : wrGood ws k = false := by
  unfold wrGood
  rw [h1, Bool.false_and]

set_option maxHeartbeats 2000000 in
theorem implMapOk_any (a : Option Addr) (n cap : Nat) (ws : List Wr) (w : World) (hn : ws.length = n) (hm : n ≤ 1048576) (hx : Few ws) (hh : IsWs w a ws) :
    Calls Try.prog 38 #[.slice a n cap] w fun e w' => e = .returned (.bool (mapOkB ws)) ∧ Below w.heap.size w w' := by
  have HH : Hid (IsWs w a ws) := hh
  have HN : Hid (ws.length = n) := hn
  have HX : Hid (Few ws) := hx
  clear hh hn hx
  go_enter Try.func38, Try.ntmps38
  go_wp2
  go_loopw [3, 8] (fun l i wr => ∃ k : Nat, ∃ la : Int, k ≤ n ∧ i = .int .i64 k ∧ l = .int .i64 la ∧ Hid (lastW ws k = la) ∧ Hid (∀ j, j < k → wrGood ws j = true) ∧ Hid (Below w.heap.size w wr)) (fun _ i _ => n - (intOf i).toNat)
  case atStart => exact ⟨0, -1, Nat.zero_le _, rfl, rfl, rfl, fun j hj => by omega, Below.refl _ _⟩
  case round =>
    obtain ⟨k, la, hk, rfl, rfl, HL, HG, HB⟩ := hrel
    by_cases hk' : k < n
    · obtain ⟨b, o, ad, cp, rfl, hz, ⟨e0, e1, e2, e3, e4, e5, e6⟩, hd⟩ := HH.out.at HB.out HN.out hk'
      have i1 : (0 : Int) ≤ (k : Int) := by omega
      have i2 : (k : Int) < (n : Int) := by omega
      have HS : Hid (lastW ws (k + 1) = (ws.getD k wz).k) := by unfold lastW; simp [Hid]
      have HC : Hid (∀ W, Below wr.heap.size wr W → Calls Try.prog 39 #[wrOf (ws.getD k wz) ad cp] W fun e w' => e = .returned (.bool (okW (ws.getD k wz))) ∧ Below W.heap.size W w') := fun W hW =>
        implWriteOk_gen _ _ _ _ _ _ _ (ws.getD k wz).xs _ _ _ rfl (HX.out k (by rw [HN.out]; exact hk')) (hd.below hW)
      clear hd HH
      cases h1 : okW (ws.getD k wz)
      · have HF : Hid (mapOkB ws = false) := mapOk_false (by rw [HN.out]; exact hk') (wrGood_not h1)
        clear HS
        rw [h1] at HC
        clear h1
        generalize ws.getD k wz = x at *
        obtain ⟨xk, xc, xs', xq, xv, xd, xx⟩ := x
        simp only at e0 e1 e2 e3 e4 e5 e6 HC
        go_wp2_with fail
        refine (HC.out _ ((Below.refl _ _).alloc (Nat.le_refl _) _)).mono ?_
        rintro e w2 ⟨rfl, hb⟩
        have HB2 : Hid (Below w.heap.size w w2) := below_step HB.out HB.out.size (BoxIn.start hb).below
        clear hb
        go_wp2
        go_ret
        exact ⟨ret_bool HF.out.symm, HB2.out⟩
      · by_cases h3 : (ws.getD k wz).k ≤ la
        · have HF : Hid (mapOkB ws = false) := mapOk_false (by rw [HN.out]; exact hk') (wrGood_bad h1 (by rw [HL.out]; exact h3))
          clear HS
          rw [h1] at HC
          clear h1
          generalize ws.getD k wz = x at *
          obtain ⟨xk, xc, xs', xq, xv, xd, xx⟩ := x
          simp only at e0 e1 e2 e3 e4 e5 e6 HC h3
          go_wp2_with fail
          refine (HC.out _ ((Below.refl _ _).alloc (Nat.le_refl _) _)).mono ?_
          rintro e w2 ⟨rfl, hb⟩
          have HX2 := Lib.hid (BoxIn.start hb)
          have HB2 : Hid (Below w.heap.size w w2) := below_step HB.out HB.out.size HX2.out.below
          have b0 := HX2.out.c0
          clear hb
          go_wp2
          go_ret
          exact ⟨ret_bool HF.out.symm, HB2.out⟩
        · have HG' : Hid (∀ j, j < k + 1 → wrGood ws j = true) := good_next HG.out (wrGood_good h1 (by rw [HL.out]; omega))
          rw [h1] at HC
          clear h1
          generalize ws.getD k wz = x at *
          obtain ⟨xk, xc, xs', xq, xv, xd, xx⟩ := x
          simp only at e0 e1 e2 e3 e4 e5 e6 HC h3 HS
          go_wp2_with fail
          refine (HC.out _ ((Below.refl _ _).alloc (Nat.le_refl _) _)).mono ?_
          rintro e w2 ⟨rfl, hb⟩
          have HX2 := Lib.hid (BoxIn.start hb)
          have HB2 : Hid (Below w.heap.size w w2) := below_step HB.out HB.out.size HX2.out.below
          have b0 := HX2.out.c0
          clear hb
          go_wp2
          exact ⟨⟨k + 1, xk, by omega, by go_num, rfl, HS, HG', HB2⟩, by simp [intOf]; omega⟩
    · have hkk : k = n := by omega
      subst hkk
      have HF : Hid (mapOkB ws = true) := mapOk_true (fun i hi => HG.out i (by rw [← HN.out]; exact hi))
      go_wp2
      go_ret
      exact ⟨ret_bool HF.out.symm, HB.out⟩

theorem kept_new {W w1 : World} {b t : Nat} {vs : Array Value} (hg : W.grownBy w1 none) (h : W.heap[b]? = some (.cells vs t (0, 0))) : (∀ j v, vs[j]? = some v → w1.cell? ⟨b, j, none⟩ = some v) ∧ ∀ j, w1.frozen? ⟨b, j, none⟩ = false := by
  have hb : b < W.heap.size := (Array.getElem?_eq_some_iff.1 h).1
  have e := hg.block b hb (by simp)
  rw [h] at e
  exact ⟨fun j v hv => by rw [cell_of_row w1 b j vs t (0, 0) e]; exact hv, fun j => frozen_of_row w1 b j vs t e⟩

theorem heap_one (w : World) (o1 o2 : Obj) : ((w.alloc o1).alloc o2).heap[w.heap.size]? = some o1 ∧ ((w.alloc o1).alloc o2).heap[w.heap.size + 1]? = some o2 := by
  constructor
  · rw [Below.heap_alloc _ _ _ (by simp)]
    exact heap_alloc_new w o1
  · have := heap_alloc_new (w.alloc o1) o2
    simpa using this

/-- A place, or none. -/
def PlaceAt (ws : List Wr) (key r : Int) : Prop := (∃ i : Nat, FirstAt ws key i ∧ r = i) ∨ (NoneAt ws key ∧ r = -1)

/-- Dependencies of one's own, from block number B on, where there are some. -/
def FreshDeps (B : Nat) (w : World) (a : Option Addr) (g : Nat) (xs : List Dp) : Prop := 0 < xs.length → a = some ⟨g, 0, none⟩ ∧ B ≤ g ∧ g < w.heap.size ∧ HoldsDeps w g 0 xs ∧ ∀ o, w.frozen? ⟨g, o, none⟩ = false

theorem FreshDeps.below {B : Nat} {w w' : World} {a : Option Addr} {g : Nat} {xs : List Dp} (h : FreshDeps B w a g xs) (hb : Below w.heap.size w w') : FreshDeps B w' a g xs := fun hp => by
  obtain ⟨h1, h2, h3, h4, h5⟩ := h hp
  exact ⟨h1, h2, Nat.lt_of_lt_of_le h3 hb.size, h4.below hb h3, fun o => (hb.frozen (p := ⟨g, o, none⟩) h3).trans (h5 o)⟩

theorem FreshDeps.isDeps {B : Nat} {w : World} {a : Option Addr} {g : Nat} {xs : List Dp} (h : FreshDeps B w a g xs) : IsDeps w a xs := by
  by_cases hp : 0 < xs.length
  · obtain ⟨h1, _, h3, h4, _⟩ := h hp
    exact .inr ⟨g, 0, h1, h3, h4⟩
  · exact .inl (List.length_eq_zero_iff.1 (by omega))

theorem fresh_set {w : World} {g : Nat} {xs : List Dp} {p : Addr} (h : g < w.heap.size ∧ HoldsDeps w g 0 xs ∧ ∀ o, w.frozen? ⟨g, o, none⟩ = false) (hne : p.block ≠ g) (v : Value) : g < (w.setCell p v).heap.size ∧ HoldsDeps (w.setCell p v) g 0 xs ∧ ∀ o, (w.setCell p v).frozen? ⟨g, o, none⟩ = false :=
  ⟨by simpa using h.1, h.2.1.set hne v, fun o => by rw [World.frozen?_setCell]; exact h.2.2 o⟩

set_option maxHeartbeats 2000000 in
theorem icopy_some (x : Wr) (b o cap : Nat) (w : World) (hn : x.xs.length ≤ 1048576) (hp : 0 < x.xs.length) (hlt : b < w.heap.size) (hh : HoldsDeps w b o x.xs) :
    Calls Try.prog 45 #[wrOf x (some ⟨b, o, none⟩) cap] w fun e w' => ∃ a g cp, e = .returned (wrOf x a cp) ∧ FreshDeps w.heap.size w' a g x.xs ∧ Below w.heap.size w w' := by
  obtain ⟨xk, xc, xs', xq, xv, xd, xx⟩ := x
  simp only at hn hp hh ⊢
  have HH : Hid (HoldsDeps w b o xx) := hh
  clear hh
  obtain ⟨i0, hi0, hx0⟩ := Option.map_eq_some_iff.1 infoDep
  simp only [Prod.mk.injEq] at hx0
  have HI0 := Lib.hid hi0
  have HX0 := Lib.hid hx0
  clear hi0 hx0
  go_enter Try.func45, Try.ntmps45
  have HB0 : Hid (Below w.heap.size w ((w.alloc (.cells #[.int .i64 xk, .int .i64 xc, .int .i64 xs', .int .i64 xq, .int .i64 xv, .bool xd, .slice (some ⟨b, o, none⟩) xx.length cap] 41)).alloc (.cells #[.int .i64 0, .int .i64 0, .int .i64 0, .int .i64 0, .int .i64 0, .bool false, .slice none 0 0] 41))) :=
    ((Below.refl _ _).alloc (Nat.le_refl _) _).alloc (by simp) _
  go_wp2_with (at_builtin; refine wpList_append_lies _ (by rfl) _ _ _ (by rfl) (w.heap.size + 1 + 1) 98 i0 (depV 0 0 0 0) 4 32 Try.underlying39 HI0.out HX0.out.1 HX0.out.2.1 HX0.out.2.2 (by rfl) (by omega) (.slice none 0 0) 0 [] (by rfl) (World.ownsRow_nil _ _ _ _) ⟨b, o, none⟩ xx.length cap (depVals xx) (by rfl) (depVals_len xx) (depVals_cells (HH.out.below HB0.out hlt)) (depVals_one xx) hp (by unfold maxLen; omega) (by omega) (by simp) _ rfl ?_; intro g cp w5 hown hgrow _ hg5; refine Hid.out ?_)
  refine Lib.hid ?_
  rw [Nat.zero_add] at hown
  obtain ⟨hg4, -⟩ := (fun h => (hown.lt g h) : _ → _ ∧ _) rfl
  have HD5 : Hid (g < w5.heap.size ∧ HoldsDeps w5 g 0 xx ∧ ∀ o, w5.frozen? ⟨g, o, none⟩ = false) := ⟨hg5, depVals_holds rfl hown, fun o => hown.frozenAt o⟩
  have HB5 : Hid (Below w.heap.size w w5) := HB0.out.grown hgrow HB0.out.size fun k hk => by simp [Value.ownBlock] at hk
  have hk0 := Lib.hid (heap_one w (.cells #[.int .i64 xk, .int .i64 xc, .int .i64 xs', .int .i64 xq, .int .i64 xv, .bool xd, .slice (some ⟨b, o, none⟩) xx.length cap] 41) (.cells #[.int .i64 0, .int .i64 0, .int .i64 0, .int .i64 0, .int .i64 0, .bool false, .slice none 0 0] 41))
  obtain ⟨hb0, hf0⟩ := kept_new hgrow hk0.out.1
  obtain ⟨hb1, hf1⟩ := kept_new hgrow hk0.out.2
  have b0 := hb0 0 _ rfl
  have b1 := hb0 1 _ rfl
  have b2 := hb0 2 _ rfl
  have b3 := hb0 3 _ rfl
  have b4 := hb0 4 _ rfl
  have b5 := hb0 5 _ rfl
  have b6 := hb0 6 _ rfl
  have z0 := hb1 0 _ rfl
  have z1 := hb1 1 _ rfl
  have z2 := hb1 2 _ rfl
  have z3 := hb1 3 _ rfl
  have z4 := hb1 4 _ rfl
  have z5 := hb1 5 _ rfl
  have z6 := hb1 6 _ rfl
  clear hb0 hb1
  have hz5 : w.heap.size + 1 < w5.heap.size := by have := hgrow.size; simp at this; omega
  clear hown hgrow HB0 hk0
  go_wp2
  refine bodyPost_ret (v := wrV xk xc xs' xq xv xd (some ⟨g, 0, none⟩) xx.length cp) (by simp [results, Try.results45, go_sem, z0, z1, z2, z3, z4, z5, z6]) rfl ⟨_, g, cp, rfl, fun _ => ⟨rfl, by omega, ?_⟩, ?_⟩
  · exact fresh_set (fresh_set (fresh_set (fresh_set (fresh_set (fresh_set (fresh_set (fresh_set HD5.out (by simp; omega) _) (by simp; omega) _) (by simp; omega) _) (by simp; omega) _) (by simp; omega) _) (by simp; omega) _) (by simp; omega) _) (by simp; omega) _
  · exact (((((((HB5.out.setCell (by simp) _).setCell (by simp) _).setCell (by simp) _).setCell (by simp) _).setCell (by simp) _).setCell (by simp) _).setCell (by simp) _).setCell (by simp) _

set_option maxHeartbeats 2000000 in
theorem icopy_none (x : Wr) (a : Option Addr) (cap : Nat) (w : World) (hx : x.xs = []) :
    Calls Try.prog 45 #[wrOf x a cap] w fun e w' => ∃ a' g cp, e = .returned (wrOf x a' cp) ∧ FreshDeps w.heap.size w' a' g x.xs ∧ Below w.heap.size w w' := by
  obtain ⟨xk, xc, xs', xq, xv, xd, xx⟩ := x
  simp only at hx
  subst hx
  obtain ⟨i0, hi0, -⟩ := Option.map_eq_some_iff.1 infoDep
  have HI0 := Lib.hid hi0
  clear hi0
  go_enter Try.func45, Try.ntmps45
  go_wp2_with (at_builtin; refine wpList_append_zero (by rfl) _ _ _ (by rfl) 98 i0 Try.underlying39 HI0.out none 0 0 (by omega) (by rfl) a cap (by rfl) ?_)
  exact bodyPost_ret (v := wrV xk xc xs' xq xv xd none 0 0) (by simp [results, Try.results45, go_sem]) rfl ⟨none, 0, 0, rfl, fun h => absurd h (by simp), ((Below.refl _ _).alloc (Nat.le_refl _) _).alloc (by simp) _⟩

theorem icopy_any (x : Wr) (a : Option Addr) (cap : Nat) (w : World) (hn : x.xs.length ≤ 1048576) (h : IsDeps w a x.xs) :
    Calls Try.prog 45 #[wrOf x a cap] w fun e w' => ∃ a' g cp, e = .returned (wrOf x a' cp) ∧ FreshDeps w.heap.size w' a' g x.xs ∧ Below w.heap.size w w' := by
  rcases h with h | ⟨b, o, rfl, hlt, hh⟩
  · exact icopy_none x a cap w h
  · by_cases hp : 0 < x.xs.length
    · exact icopy_some x b o cap w hn hp hlt hh
    · exact icopy_none x _ cap w (List.length_eq_zero_iff.1 (by omega))

end Go.Proofs.Ytojgahcogpediaa

/- Contracts of impl.MapAt and impl.MapHas. -/
namespace Go.Proofs.Ytojgahcogpediaa
open Go.ChangeShapes Go.WideShapes Go.ChangeAt Go.RowKit Go.Joins
attribute [local go_sem ↓] Go.wp_at_zero Go.wp_at_succ

/-- What a look at a map tells: a write of one's own, or nothing. -/
def ToldG (ws : List Wr) (key : Int) (B : Nat) (w' : World) (v : Value) : Prop :=
  (∃ i a g cp, FirstAt ws key i ∧ v = .tuple #[wrOf (ws.getD i wz) a cp, .bool true] ∧ FreshDeps B w' a g (ws.getD i wz).xs) ∨
  (NoneAt ws key ∧ v = .tuple #[wrV 0 0 0 0 0 false none 0 0, .bool false])

theorem fresh_set7 {B : Nat} {w : World} {g : Nat} {xs : List Dp} {a : Option Addr} (h : FreshDeps B w a g xs) {b : Nat} (hne : b < B) (o0 o1 o2 o3 o4 o5 o6 : Nat) (v0 v1 v2 v3 v4 v5 v6 : Value) :
    FreshDeps B (((((((w.setCell ⟨b, o0, none⟩ v0).setCell ⟨b, o1, none⟩ v1).setCell ⟨b, o2, none⟩ v2).setCell ⟨b, o3, none⟩ v3).setCell ⟨b, o4, none⟩ v4).setCell ⟨b, o5, none⟩ v5).setCell ⟨b, o6, none⟩ v6) a g xs := fun hp => by
  obtain ⟨h1, h2, h3⟩ := h hp
  have hn : b ≠ g := by omega
  exact ⟨h1, h2, fresh_set (fresh_set (fresh_set (fresh_set (fresh_set (fresh_set (fresh_set h3 hn _) hn _) hn _) hn _) hn _) hn _) hn _⟩

theorem FreshDeps.mono {B B' : Nat} {w : World} {a : Option Addr} {g : Nat} {xs : List Dp} (h : FreshDeps B w a g xs) (hb : B' ≤ B) : FreshDeps B' w a g xs := fun hp => by
  obtain ⟨h1, h2, h3⟩ := h hp
  exact ⟨h1, Nat.le_trans hb h2, h3⟩

end Go.Proofs.Ytojgahcogpediaa

/- Plain facts on the order of writes: no Go in sight. -/
namespace Go.Proofs.Ytojgahcogpediaa

def dcmp (d e : Dp) : Int := if d.k ≠ e.k then sgn d.k e.k else tcmp d.c d.s d.q e.c e.s e.q

def depsCmp : List Dp → List Dp → Int
  | [], [] => 0
  | [], _ :: _ => -1
  | _ :: _, [] => 1
  | d :: r, e :: t => if dcmp d e ≠ 0 then dcmp d e else depsCmp r t

def bit (b : Bool) : Int := if b then 1 else 0

def wcmp (k c s q v : Int) (de : Bool) (xs : List Dp) (k' c' s' q' v' : Int) (de' : Bool) (ys : List Dp) : Int :=
  if tcmp c s q c' s' q' ≠ 0 then tcmp c s q c' s' q' else if k ≠ k' then sgn k k' else if v ≠ v' then sgn v v' else if de ≠ de' then sgn (bit de) (bit de') else depsCmp xs ys

theorem dcmp_or (d e : Dp) : orI [sgn d.k e.k, tcmp d.c d.s d.q e.c e.s e.q] = dcmp d e := by
  unfold dcmp
  by_cases h : d.k = e.k
  · have hs : sgn e.k e.k = 0 := sgn_self _
    simp only [orI, h]
    by_cases ht : tcmp d.c d.s d.q e.c e.s e.q = 0
    · simp [ht, hs]
    · simp [ht, hs]
  · have hs : sgn d.k e.k ≠ 0 := fun e0 => h (sgn_zero.1 e0)
    simp [orI, hs, h]

theorem depsCmp_first : ∀ (xs ys : List Dp) (j : Nat), j < xs.length → j < ys.length → (∀ i, i < j → dcmp (xs.getD i dz) (ys.getD i dz) = 0) → dcmp (xs.getD j dz) (ys.getD j dz) ≠ 0 → depsCmp xs ys = dcmp (xs.getD j dz) (ys.getD j dz)
  | [], _, _, h, _, _, _ => by simp at h
  | _ :: _, [], _, _, h, _, _ => by simp at h
  | d :: r, e :: t, 0, _, _, _, hn => by
    have hn' : dcmp d e ≠ 0 := hn
    simp [depsCmp, hn']
  | d :: r, e :: t, j + 1, h1, h2, hz, hn => by
    have h0 : dcmp d e = 0 := hz 0 (by omega)
    have ih := depsCmp_first r t j (by simpa using h1) (by simpa using h2) (fun i hi => by simpa using hz (i + 1) (by omega)) (by simpa using hn)
    simp only [depsCmp, h0, ne_eq, not_true_eq_false, if_false]
    simpa using ih

theorem depsCmp_none : ∀ (xs ys : List Dp), (∀ i, i < xs.length → i < ys.length → dcmp (xs.getD i dz) (ys.getD i dz) = 0) → depsCmp xs ys = sgn xs.length ys.length
  | [], [], _ => by simp [depsCmp, sgn]
  | [], e :: t, _ => by
    simp only [depsCmp, sgn, List.length_nil, List.length_cons]
    rw [if_pos (by omega)]
  | d :: r, [], _ => by
    simp only [depsCmp, sgn, List.length_nil, List.length_cons]
    rw [if_neg (by omega), if_pos (by omega)]
  | d :: r, e :: t, h => by
    have h0 : dcmp d e = 0 := h 0 (by simp) (by simp)
    have ih := depsCmp_none r t (fun i h1 h2 => by simpa using h (i + 1) (by simpa using h1) (by simpa using h2))
    simp only [depsCmp, h0, ne_eq, not_true_eq_false, if_false, ih, List.length_cons]
    unfold sgn
    by_cases h1 : (r.length : Int) < t.length
    · rw [if_pos h1, if_pos (by omega)]
    · rw [if_neg h1]
      by_cases h2 : (t.length : Int) < r.length
      · rw [if_pos h2, if_neg (by omega), if_pos (by omega)]
      · rw [if_neg h2, if_neg (by omega), if_neg (by omega)]

theorem bit_sgn {a b : Bool} : sgn (bit a) (bit b) = 0 ↔ a = b := by
  rw [sgn_zero]
  cases a <;> cases b <;> simp [bit]

theorem wcmp_or (k c s q v : Int) (de : Bool) (xs : List Dp) (k' c' s' q' v' : Int) (de' : Bool) (ys : List Dp) :
    orI [tcmp c s q c' s' q', sgn k k', sgn v v', sgn (bit de) (bit de'), depsCmp xs ys] = wcmp k c s q v de xs k' c' s' q' v' de' ys := by
  simp only [orI, wcmp, ne_eq, sgn_zero (a := k), sgn_zero (a := v), bit_sgn]
  by_cases h : depsCmp xs ys = 0
  · simp [h]
  · simp [h]

theorem wcmp_tag {k c s q v : Int} {de : Bool} {xs : List Dp} {k' c' s' q' v' : Int} {de' : Bool} {ys : List Dp} (h : ¬ (c = c' ∧ s = s' ∧ q = q')) : wcmp k c s q v de xs k' c' s' q' v' de' ys = tcmp c s q c' s' q' := by
  unfold wcmp
  rw [if_pos]
  intro e
  exact h (tcmp_zero.1 e)

theorem wcmp_key {k c s q v : Int} {de : Bool} {xs : List Dp} {k' v' : Int} {de' : Bool} {ys : List Dp} (h : k ≠ k') : wcmp k c s q v de xs k' c s q v' de' ys = sgn k k' := by
  unfold wcmp
  rw [tcmp_self, if_neg (by simp), if_pos h]

theorem wcmp_val {k c s q v : Int} {de : Bool} {xs : List Dp} {v' : Int} {de' : Bool} {ys : List Dp} (h : v ≠ v') : wcmp k c s q v de xs k c s q v' de' ys = sgn v v' := by
  unfold wcmp
  rw [tcmp_self, if_neg (by simp), if_neg (by simp), if_pos h]

theorem wcmp_dead {k c s q v : Int} {de : Bool} {xs : List Dp} {de' : Bool} {ys : List Dp} (h : de ≠ de') : wcmp k c s q v de xs k c s q v de' ys = sgn (bit de) (bit de') := by
  unfold wcmp
  rw [tcmp_self, if_neg (by simp), if_neg (by simp), if_neg (by simp), if_pos h]

theorem wcmp_deps {k c s q v : Int} {de : Bool} {xs ys : List Dp} : wcmp k c s q v de xs k c s q v de ys = depsCmp xs ys := by
  unfold wcmp
  rw [tcmp_self, if_neg (by simp), if_neg (by simp), if_neg (by simp), if_neg (by simp)]

end Go.Proofs.Ytojgahcogpediaa

/- Contracts of impl.flagNum, spec.l01Bit, impl.depCmp, slices.CompareFunc over dependencies. -/
namespace Go.Proofs.Ytojgahcogpediaa
open Go.ChangeShapes Go.WideShapes Go.ChangeAt Go.RowKit Go.Joins
attribute [local go_sem ↓] Go.wp_at_zero Go.wp_at_succ

theorem flagNum_any (b : Bool) (w : World) :
    Calls Try.prog 67 #[.bool b] w fun e w' => e = .returned (.int .i64 (bit b)) ∧ w' = w := by
  cases b
  · go_enter Try.func67, Try.ntmps67
    go_wp2
    go_ret
    exact ⟨rfl, rfl⟩
  · go_enter Try.func67, Try.ntmps67
    go_wp2
    go_ret
    exact ⟨rfl, rfl⟩

theorem bit_any (b : Bool) (w : World) :
    Calls Try.prog 63 #[.bool b] w fun e w' => e = .returned (.int .i64 (bit b)) ∧ w' = w := by
  cases b
  · go_enter Try.func63, Try.ntmps63
    go_wp2
    go_ret
    exact ⟨rfl, rfl⟩
  · go_enter Try.func63, Try.ntmps63
    go_wp2
    go_ret
    exact ⟨rfl, rfl⟩

theorem two_cells (W : World) (x y : Int) (t b : Nat) (hb : W.heap.size = b) : ∀ i, i < [x, y].length → (W.alloc (Obj.cells #[.int .i64 x, .int .i64 y] t)).cell? ⟨b, i, none⟩ = some (.int .i64 ([x, y].getD i 0)) := by
  subst hb
  intro i hi
  match i, hi with
  | 0, _ => simp [go_sem]
  | 1, _ => simp [go_sem]

theorem alloc_held {W : World} {b o : Nat} {v : Value} (X : Obj) (h : W.cell? ⟨b, o, none⟩ = some v) (hz : b < W.heap.size) : (W.alloc X).cell? ⟨b, o, none⟩ = some v :=
  held_cell ((Below.refl _ _).alloc (Nat.le_refl _) X) h hz

theorem alloc_lt {W : World} {b : Nat} (X : Obj) (h : b < W.heap.size) : b < (W.alloc X).heap.size := by simp; omega

theorem alloc_below {w W : World} (X : Obj) (h : Below w.heap.size w W) : Below w.heap.size w (W.alloc X) := h.alloc h.size X

set_option maxHeartbeats 1000000 in
theorem depCmp_any (k c s q k' c' s' q' : Int) (w : World) :
    Calls Try.prog 69 #[depV k c s q, depV k' c' s' q'] w fun e w' => e = .returned (.int .i64 (dcmp ⟨k, c, s, q⟩ ⟨k', c', s', q'⟩)) ∧ Below w.heap.size w w' := by
  rw [← dcmp_or]
  go_enter Try.func69, Try.ntmps69
  go_wp2_with fail
  go_region_held3 (fun w' => w'.cell? ⟨w.heap.size, 0, none⟩ = some (.int .i64 k) ∧ w'.cell? ⟨w.heap.size, 1, none⟩ = some (.int .i64 c) ∧ w'.cell? ⟨w.heap.size, 2, none⟩ = some (.int .i64 s) ∧ w'.cell? ⟨w.heap.size, 3, none⟩ = some (.int .i64 q) ∧ w'.cell? ⟨w.heap.size + 1, 0, none⟩ = some (.int .i64 k') ∧ w'.cell? ⟨w.heap.size + 1, 1, none⟩ = some (.int .i64 c') ∧ w'.cell? ⟨w.heap.size + 1, 2, none⟩ = some (.int .i64 s') ∧ w'.cell? ⟨w.heap.size + 1, 3, none⟩ = some (.int .i64 q') ∧ w.heap.size + 1 < w'.heap.size ∧ Below w.heap.size w w')
    (first | (refine ⟨?_, ?_, ?_, ?_, ?_, ?_, ?_, ?_, ?_, ?_⟩ <;> first | (simp; done) | (simp; omega) | exact (((Below.refl _ _).alloc (Nat.le_refl _) _).alloc (by simp) _).drew) | (go_split_ands; refine ⟨?_, ?_, ?_, ?_, ?_, ?_, ?_, ?_, ?_, ?_⟩ <;> first | assumption | exact held_cell (by assumption) (by assumption) (by omega) | exact Nat.lt_of_lt_of_le (by assumption) (Below.size (by assumption)) | exact below_step (by assumption) (by omega) (by assumption) | exact alloc_held _ (by assumption) (by omega) | exact alloc_lt _ (by assumption) | exact alloc_below _ (by assumption)))
    (first | (go_at_call 66; refine (compare_any _ _ _).mono ?_; rintro e w1 ⟨rfl, rfl⟩) | (go_at_call 65; refine (implTagCmp_any _ _ _ _ _ _ _).mono ?_; rintro e w2 ⟨rfl, hb2⟩) | (go_at_call 64; refine (or_any _ [sgn k k', tcmp c s q c' s' q'] _ _ (by simp) (by exact two_cells _ _ _ _ _ (by simp))).mono ?_; rintro e w3 ⟨rfl, rfl⟩))
  obtain ⟨-, -, -, -, -, -, -, -, -, HB0⟩ := ‹_ ∧ _›
  have HB : Hid (Below w.heap.size w _) := HB0
  clear HB0 hb2
  go_wp2
  go_ret
  exact ⟨rfl, HB.out⟩

theorem depCmp_is (d e : Dp) (z : Int) (h : dcmp d e = z) (w : World) :
    Calls Try.prog 69 #[depV d.k d.c d.s d.q, depV e.k e.c e.s e.q] w fun r w' => r = .returned (.int .i64 z) ∧ Below w.heap.size w w' := by
  subst h
  exact depCmp_any d.k d.c d.s d.q e.k e.c e.s e.q w

set_option maxHeartbeats 1000000 in
theorem compareFunc_gen (a a' : Option Addr) (xs ys : List Dp) (cap cap' : Nat) (w : World) (hn : xs.length ≤ 1048576) (_hm : ys.length ≤ 1048576) (hh : IsDeps w a xs) (hh' : IsDeps w a' ys) :
    Calls Try.prog 68 #[.slice a xs.length cap, .slice a' ys.length cap', .func (.func 69) #[] #[]] w fun e w' => e = .returned (.int .i64 (depsCmp xs ys)) ∧ Below w.heap.size w w' := by
  have HH : Hid (IsDeps w a xs) := hh
  have HH' : Hid (IsDeps w a' ys) := hh'
  clear hh hh'
  go_enter Try.func68, Try.ntmps68
  go_wp2
  go_loopw [13] (fun i wr => ∃ k : Nat, k ≤ xs.length ∧ k ≤ ys.length ∧ i = .int .i64 k ∧ Hid (∀ j, j < k → dcmp (xs.getD j dz) (ys.getD j dz) = 0) ∧ Hid (Below w.heap.size w wr)) (fun i _ => xs.length - (intOf i).toNat)
  case atStart => exact ⟨0, Nat.zero_le _, Nat.zero_le _, rfl, fun j hj => by omega, Below.refl _ _⟩
  case round =>
    obtain ⟨k, hk, hky, rfl, HG, HB⟩ := hrel
    have i1 : (0 : Int) ≤ (k : Int) := by omega
    by_cases hk' : k < xs.length
    · obtain ⟨b, o, rfl, hz, e0, e1, e2, e3⟩ := HH.out.at HB.out hk'
      have i2 : (k : Int) < (xs.length : Int) := by omega
      by_cases hy' : k < ys.length
      · obtain ⟨b', o', rfl, hz', f0, f1, f2, f3⟩ := HH'.out.at HB.out hy'
        have i3 : (k : Int) < (ys.length : Int) := by omega
        have HBA : ∀ X Y, Hid (Below w.heap.size w ((wr.alloc X).alloc Y)) := fun X Y => (HB.out.alloc HB.out.size X).alloc (HB.out.alloc HB.out.size X).size Y
        have HN : Hid (dcmp (xs.getD k dz) (ys.getD k dz) ≠ 0 → depsCmp xs ys = dcmp (xs.getD k dz) (ys.getD k dz)) := fun h => depsCmp_first xs ys k hk' hy' HG.out h
        have HG' : Hid (dcmp (xs.getD k dz) (ys.getD k dz) = 0 → ∀ j, j < k + 1 → dcmp (xs.getD j dz) (ys.getD j dz) = 0) := fun h0 j hj => by
          by_cases h : j < k
          · exact HG.out j h
          · have : j = k := by omega
            rw [this]
            exact h0
        generalize xs.getD k dz = d at *
        generalize ys.getD k dz = e at *
        by_cases hd : dcmp d e = 0
        · have HD : Hid (dcmp d e = 0) := hd
          clear hd
          go_wp2_with fail
          refine (depCmp_is d e 0 HD.out _).mono ?_
          rintro r wq ⟨rfl, hq⟩
          have HBQ : Hid (Below w.heap.size w wq) := below_step (HBA _ _).out (HBA _ _).out.size hq
          clear hq HBA
          go_wp2
          exact ⟨⟨k + 1, by omega, by omega, by go_num, HG'.out HD.out, HBQ⟩, by simp [intOf]; omega⟩
        · have HD : Hid (depsCmp xs ys = dcmp d e) := HN.out hd
          have hd' : (dcmp d e != 0) = true := by rw [bne_iff_ne]; exact hd
          clear hd
          go_wp2_with fail
          refine (depCmp_is d e _ rfl _).mono ?_
          rintro r wq ⟨rfl, hq⟩
          have HBQ : Hid (Below w.heap.size w wq) := below_step (HBA _ _).out (HBA _ _).out.size hq
          clear hq HBA
          go_wp2
          go_ret
          exact ⟨ret_i64 HD.out.symm, HBQ.out⟩
      · have HF : Hid (depsCmp xs ys = 1) := by
          show depsCmp xs ys = 1
          have h := depsCmp_none xs ys (fun i h1 h2 => HG.out i (by omega))
          rw [h]
          unfold sgn
          rw [if_neg (by omega), if_pos (by omega)]
        go_wp2
        go_ret
        exact ⟨ret_i64 HF.out.symm, HB.out.alloc HB.out.size _⟩
    · have HF : Hid (depsCmp xs ys = sgn xs.length ys.length) := depsCmp_none xs ys (fun i h1 h2 => HG.out i (by omega))
      by_cases hl : xs.length < ys.length
      · have HS : Hid (sgn xs.length ys.length = -1) := by
          unfold sgn
          exact if_pos (by omega)
        go_wp2
        go_ret
        exact ⟨ret_i64 (by rw [HF.out, HS.out]), HB.out⟩
      · have HS : Hid (sgn xs.length ys.length = 0) := sgn_zero.2 (by omega)
        go_wp2
        go_ret
        exact ⟨ret_i64 (by rw [HF.out, HS.out]), HB.out⟩

theorem compareFunc_any (b o b' o' : Nat) (xs ys : List Dp) (cap cap' : Nat) (w : World) (hn : xs.length ≤ 1048576) (_hm : ys.length ≤ 1048576) (hlt : b < w.heap.size) (hlt' : b' < w.heap.size) (hh : HoldsDeps w b o xs) (hh' : HoldsDeps w b' o' ys) :
    Calls Try.prog 68 #[.slice (some ⟨b, o, none⟩) xs.length cap, .slice (some ⟨b', o', none⟩) ys.length cap', .func (.func 69) #[] #[]] w fun e w' => e = .returned (.int .i64 (depsCmp xs ys)) ∧ Below w.heap.size w w' :=
  compareFunc_gen _ _ xs ys cap cap' w hn _hm (.inr ⟨b, o, rfl, hlt, hh⟩) (.inr ⟨b', o', rfl, hlt', hh'⟩)

end Go.Proofs.Ytojgahcogpediaa

/- The contract of impl.WriteCmp. -/
namespace Go.Proofs.Ytojgahcogpediaa
open Go.ChangeShapes Go.WideShapes Go.ChangeAt Go.RowKit Go.Joins
attribute [local go_sem ↓] Go.wp_at_zero Go.wp_at_succ

theorem five_cells (W : World) (x y z u v : Int) (t b : Nat) (hb : W.heap.size = b) : ∀ i, i < [x, y, z, u, v].length → (W.alloc (Obj.cells #[.int .i64 x, .int .i64 y, .int .i64 z, .int .i64 u, .int .i64 v] t)).cell? ⟨b, i, none⟩ = some (.int .i64 ([x, y, z, u, v].getD i 0)) := by
  subst hb
  intro i hi
  match i, hi with
  | 0, _ => simp [go_sem]
  | 1, _ => simp [go_sem]
  | 2, _ => simp [go_sem]
  | 3, _ => simp [go_sem]
  | 4, _ => simp [go_sem]

/-- Two boxes of writes behind what was there. -/
abbrev TwoIn (w : World) (k c s q v : Int) (de : Bool) (a : Option Addr) (len cap : Nat) (k' c' s' q' v' : Int) (de' : Bool) (a' : Option Addr) (len' cap' : Nat) (W : World) : Prop :=
  W.cell? ⟨w.heap.size, 0, none⟩ = some (.int .i64 k) ∧ W.cell? ⟨w.heap.size, 1, none⟩ = some (.int .i64 c) ∧ W.cell? ⟨w.heap.size, 2, none⟩ = some (.int .i64 s) ∧ W.cell? ⟨w.heap.size, 3, none⟩ = some (.int .i64 q) ∧ W.cell? ⟨w.heap.size, 4, none⟩ = some (.int .i64 v) ∧ W.cell? ⟨w.heap.size, 5, none⟩ = some (.bool de) ∧ W.cell? ⟨w.heap.size, 6, none⟩ = some (.slice a len cap) ∧ W.cell? ⟨w.heap.size + 1, 0, none⟩ = some (.int .i64 k') ∧ W.cell? ⟨w.heap.size + 1, 1, none⟩ = some (.int .i64 c') ∧ W.cell? ⟨w.heap.size + 1, 2, none⟩ = some (.int .i64 s') ∧ W.cell? ⟨w.heap.size + 1, 3, none⟩ = some (.int .i64 q') ∧ W.cell? ⟨w.heap.size + 1, 4, none⟩ = some (.int .i64 v') ∧ W.cell? ⟨w.heap.size + 1, 5, none⟩ = some (.bool de') ∧ W.cell? ⟨w.heap.size + 1, 6, none⟩ = some (.slice a' len' cap') ∧ w.heap.size + 1 < W.heap.size ∧ Below w.heap.size w W

theorem two_step {w W w1 : World} {k c s q v : Int} {de : Bool} {a : Option Addr} {len cap : Nat} {k' c' s' q' v' : Int} {de' : Bool} {a' : Option Addr} {len' cap' : Nat} (h : TwoIn w k c s q v de a len cap k' c' s' q' v' de' a' len' cap' W) (hb : Below W.heap.size W w1) : TwoIn w k c s q v de a len cap k' c' s' q' v' de' a' len' cap' w1 := by
  obtain ⟨e0, e1, e2, e3, e4, e5, e6, f0, f1, f2, f3, f4, f5, f6, hz, hB⟩ := h
  have hz' : w.heap.size < W.heap.size := by omega
  exact ⟨held_cell hb e0 hz', held_cell hb e1 hz', held_cell hb e2 hz', held_cell hb e3 hz', held_cell hb e4 hz', held_cell hb e5 hz', held_cell hb e6 hz', held_cell hb f0 hz, held_cell hb f1 hz, held_cell hb f2 hz, held_cell hb f3 hz, held_cell hb f4 hz, held_cell hb f5 hz, held_cell hb f6 hz, Nat.lt_of_lt_of_le hz hb.size, below_step hB hB.size hb⟩

theorem two_alloc {w W : World} {k c s q v : Int} {de : Bool} {a : Option Addr} {len cap : Nat} {k' c' s' q' v' : Int} {de' : Bool} {a' : Option Addr} {len' cap' : Nat} (X : Obj) (h : TwoIn w k c s q v de a len cap k' c' s' q' v' de' a' len' cap' W) : TwoIn w k c s q v de a len cap k' c' s' q' v' de' a' len' cap' (W.alloc X) :=
  two_step h ((Below.refl _ _).alloc (Nat.le_refl _) X)

theorem two_start (w : World) (k c s q v : Int) (de : Bool) (a : Option Addr) (len cap : Nat) (k' c' s' q' v' : Int) (de' : Bool) (a' : Option Addr) (len' cap' : Nat) (t t' : Nat) : TwoIn w k c s q v de a len cap k' c' s' q' v' de' a' len' cap' ((w.alloc (.cells #[.int .i64 k, .int .i64 c, .int .i64 s, .int .i64 q, .int .i64 v, .bool de, .slice a len cap] t)).alloc (.cells #[.int .i64 k', .int .i64 c', .int .i64 s', .int .i64 q', .int .i64 v', .bool de', .slice a' len' cap'] t')) := by
  refine ⟨?_, ?_, ?_, ?_, ?_, ?_, ?_, ?_, ?_, ?_, ?_, ?_, ?_, ?_, ?_, ?_⟩ <;> first | (simp [go_sem]; done) | (simp; omega) | exact ((Below.refl _ _).alloc (Nat.le_refl _) _).alloc (by simp) _

theorem two_drew {w W : World} {k c s q v : Int} {de : Bool} {a : Option Addr} {len cap : Nat} {k' c' s' q' v' : Int} {de' : Bool} {a' : Option Addr} {len' cap' : Nat} (h : TwoIn w k c s q v de a len cap k' c' s' q' v' de' a' len' cap' W) : TwoIn w k c s q v de a len cap k' c' s' q' v' de' a' len' cap' W.drew :=
  two_step h (Below.refl _ _).drew

set_option maxHeartbeats 4000000 in
theorem implWriteCmp_raw (k c s q v : Int) (de : Bool) (a : Option Addr) (xs : List Dp) (cap : Nat) (k' c' s' q' v' : Int) (de' : Bool) (a' : Option Addr) (ys : List Dp) (cap' : Nat) (w : World)
    (hn : xs.length ≤ 1048576) (hm : ys.length ≤ 1048576) (hh : IsDeps w a xs) (hh' : IsDeps w a' ys) :
    Calls Try.prog 28 #[wrV k c s q v de a xs.length cap, wrV k' c' s' q' v' de' a' ys.length cap'] w fun e w' => e = .returned (.int .i64 (orI [tcmp c s q c' s' q', sgn k k', sgn v v', sgn (bit de) (bit de'), depsCmp xs ys])) ∧ Below w.heap.size w w' := by
  have HH : Hid (IsDeps w a xs) := hh
  have HH' : Hid (IsDeps w a' ys) := hh'
  clear hh hh'
  go_enter Try.func28, Try.ntmps28
  go_wp2_with fail
  go_region_held3 (fun w' => w'.cell? ⟨w.heap.size, 0, none⟩ = some (.int .i64 k) ∧ w'.cell? ⟨w.heap.size, 1, none⟩ = some (.int .i64 c) ∧ w'.cell? ⟨w.heap.size, 2, none⟩ = some (.int .i64 s) ∧ w'.cell? ⟨w.heap.size, 3, none⟩ = some (.int .i64 q) ∧ w'.cell? ⟨w.heap.size, 4, none⟩ = some (.int .i64 v) ∧ w'.cell? ⟨w.heap.size, 5, none⟩ = some (.bool de) ∧ w'.cell? ⟨w.heap.size, 6, none⟩ = some (.slice a xs.length cap) ∧ w'.cell? ⟨w.heap.size + 1, 0, none⟩ = some (.int .i64 k') ∧ w'.cell? ⟨w.heap.size + 1, 1, none⟩ = some (.int .i64 c') ∧ w'.cell? ⟨w.heap.size + 1, 2, none⟩ = some (.int .i64 s') ∧ w'.cell? ⟨w.heap.size + 1, 3, none⟩ = some (.int .i64 q') ∧ w'.cell? ⟨w.heap.size + 1, 4, none⟩ = some (.int .i64 v') ∧ w'.cell? ⟨w.heap.size + 1, 5, none⟩ = some (.bool de') ∧ w'.cell? ⟨w.heap.size + 1, 6, none⟩ = some (.slice a' ys.length cap') ∧ w.heap.size + 1 < w'.heap.size ∧ Below w.heap.size w w')
    (first | assumption | exact two_drew (two_start _ _ _ _ _ _ _ _ _ _ _ _ _ _ _ _ _ _ _ _ _) | exact two_step (by assumption) hb2 | exact two_step (by assumption) hb3 | exact two_alloc _ (by assumption))
    (first | (go_at_call 66; refine (compare_any _ _ _).mono ?_; rintro e w1 ⟨rfl, rfl⟩) | (go_at_call 67; refine (flagNum_any _ _).mono ?_; rintro e w1 ⟨rfl, rfl⟩) | (go_at_call 65; refine (implTagCmp_any _ _ _ _ _ _ _).mono ?_; rintro e w2 ⟨rfl, hb2⟩; have HB2 : Hid (Below w.heap.size w w2) := below_step (((Below.refl w.heap.size w).alloc (Nat.le_refl _) _).alloc (by simp) _).drew (by simp; omega) hb2) | (go_at_call 68; refine (compareFunc_gen _ _ xs ys _ _ _ hn hm (HH.out.below HB2.out) (HH'.out.below HB2.out)).mono ?_; rintro e w3 ⟨rfl, hb3⟩) | (go_at_call 64; refine (or_any _ [tcmp c s q c' s' q', sgn k k', sgn v v', sgn (bit de) (bit de'), depsCmp xs ys] _ _ (by simp) (by exact five_cells _ _ _ _ _ _ _ _ (by simp))).mono ?_; rintro e w4 ⟨rfl, rfl⟩))
  obtain ⟨-, -, -, -, -, -, -, -, -, -, -, -, -, -, -, HB0⟩ := ‹_ ∧ _›
  have HB : Hid (Below w.heap.size w _) := HB0
  clear HB0 hb2 hb3
  go_wp2
  go_ret
  exact ⟨rfl, HB.out⟩

theorem implWriteCmp_gen (k c s q v : Int) (de : Bool) (a : Option Addr) (xs : List Dp) (len cap : Nat) (k' c' s' q' v' : Int) (de' : Bool) (a' : Option Addr) (ys : List Dp) (len' cap' : Nat) (w : World) (hl : xs.length = len) (hl' : ys.length = len')
    (hn : len ≤ 1048576) (hm : len' ≤ 1048576) (hh : IsDeps w a xs) (hh' : IsDeps w a' ys) :
    Calls Try.prog 28 #[wrV k c s q v de a len cap, wrV k' c' s' q' v' de' a' len' cap'] w fun e w' => e = .returned (.int .i64 (wcmp k c s q v de xs k' c' s' q' v' de' ys)) ∧ Below w.heap.size w w' := by
  subst hl hl'
  rw [← wcmp_or]
  exact implWriteCmp_raw k c s q v de a xs cap k' c' s' q' v' de' a' ys cap' w hn hm hh hh'

theorem implWriteCmp_any (k c s q v : Int) (de : Bool) (g : Nat) (xs : List Dp) (len cap : Nat) (k' c' s' q' v' : Int) (de' : Bool) (g' : Nat) (ys : List Dp) (len' cap' : Nat) (w : World) (hl : xs.length = len) (hl' : ys.length = len')
    (hn : len ≤ 1048576) (hm : len' ≤ 1048576) (hlt : g < w.heap.size) (hlt' : g' < w.heap.size) (hh : HoldsDeps w g 0 xs) (hh' : HoldsDeps w g' 0 ys) :
    Calls Try.prog 28 #[wrV k c s q v de (some ⟨g, 0, none⟩) len cap, wrV k' c' s' q' v' de' (some ⟨g', 0, none⟩) len' cap'] w fun e w' => e = .returned (.int .i64 (wcmp k c s q v de xs k' c' s' q' v' de' ys)) ∧ Below w.heap.size w w' :=
  implWriteCmp_gen k c s q v de _ xs len cap k' c' s' q' v' de' _ ys len' cap' w hl hl' hn hm (.inr ⟨g, 0, rfl, hlt, hh⟩) (.inr ⟨g', 0, rfl, hlt', hh'⟩)

end Go.Proofs.Ytojgahcogpediaa
