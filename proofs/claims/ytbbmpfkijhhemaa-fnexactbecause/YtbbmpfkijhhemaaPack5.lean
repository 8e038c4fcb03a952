import Derived.Test.YtbbmpfkijhhemaaPack2
import Derived.Test.YtbbmpfkijhhemaaPack1
import Derived.Deep.DrawnRows
import Derived.Test.YtbbmpfkijhhemaaPack3
import Derived.Test.YtbbmpfkijhhemaaPack4
/- The contract of impl.WriteOk. -/
namespace Go.Proofs.Ytbbmpfkijhhemaa
open Go.ChangeShapes Go.WideShapes Go.ChangeAt Go.RowKit Go.Joins

set_option maxHeartbeats 1000000 in
theorem implWriteOk_ends (k c s q v : Int) (de : Bool) (a : Option Addr) (xs : List Dp) (cap : Nat) (w : World)
    (hbad : btw k 0 5 = false ∨ tagOkB c s q = false ∨ valOkB v de = false) :
    Calls Try.prog 48 #[wrV k c s q v de a xs.length cap] w fun e w' => e = .returned (.bool (writeOkB k c s q v de xs)) ∧ Below w.heap.size w w' := by
  cases h1 : btw k 0 5
  · rw [wok_key h1]
    clear hbad
    go_enter Try.func48, Try.ntmps48
    go_wp2_with (go_at_call 33; refine (keyOk_is _ false h1 _).mono ?_; rintro e w' ⟨rfl, rfl⟩)
    go_ret
    exact ⟨rfl, (Below.refl _ _).alloc (Nat.le_refl _) _⟩
  cases h2 : tagOkB c s q
  · rw [wok_tag h2]
    clear hbad
    go_enter Try.func48, Try.ntmps48
    go_wp2_with (first | (go_at_call 33; refine (keyOk_is _ true h1 _).mono ?_; rintro e w' ⟨rfl, rfl⟩) | (go_at_call 34; refine (implTagOk_is _ _ _ false h2 _).mono ?_; rintro e w' ⟨rfl, hb⟩))
    go_ret
    exact ⟨rfl, below_step ((Below.refl _ _).alloc (Nat.le_refl _) _) (by simp) hb⟩
  have h3 : valOkB v de = false := by
    rcases hbad with h | h | h
    · rw [h1] at h; cases h
    · rw [h2] at h; cases h
    · exact h
  rw [wok_val h3]
  clear hbad
  go_enter Try.func48, Try.ntmps48
  go_wp2_with fail
  refine (keyOk_is _ true h1 _).mono ?_
  rintro e w1 ⟨rfl, rfl⟩
  go_wp2_with fail
  refine (implTagOk_is _ _ _ true h2 _).mono ?_
  rintro e w2 ⟨rfl, hb⟩
  have HX := BoxIn.start hb
  have b4 := HX.c4
  have b5 := HX.c5
  clear hb
  go_wp2_with (go_at_call 66; refine (valOk_is _ _ false h3 _).mono ?_; rintro e w' ⟨rfl, rfl⟩)
  go_ret
  exact ⟨rfl, HX.below⟩

set_option maxHeartbeats 1000000 in
theorem implWriteOk_deps (k c s q v : Int) (de : Bool) (a : Option Addr) (xs : List Dp) (cap : Nat) (w : World) (hn : xs.length ≤ 1048576) (hh : IsDeps w a xs)
    (h1 : btw k 0 5 = true) (h2 : tagOkB c s q = true) (h3 : valOkB v de = true) (h4 : depsOkB xs = false) :
    Calls Try.prog 48 #[wrV k c s q v de a xs.length cap] w fun e w' => e = .returned (.bool (writeOkB k c s q v de xs)) ∧ Below w.heap.size w w' := by
  rw [wok_deps h4]
  have HH : Hid (IsDeps w a xs) := hh
  clear hh
  go_enter Try.func48, Try.ntmps48
  go_wp2_with fail
  refine (keyOk_is _ true h1 _).mono ?_
  rintro e w1 ⟨rfl, rfl⟩
  go_wp2_with fail
  refine (implTagOk_is _ _ _ true h2 _).mono ?_
  rintro e w2 ⟨rfl, hb⟩
  have HX := BoxIn.start hb
  have b4 := HX.c4
  have b5 := HX.c5
  have b6 := HX.c6
  clear hb
  go_wp2_with fail
  refine (valOk_is _ _ true h3 _).mono ?_
  rintro e w3 ⟨rfl, rfl⟩
  go_wp2_with fail
  refine (implDepsOk_is false _ xs h4 _ _ hn (HH.out.below HX.below)).mono ?_
  rintro e w4 ⟨rfl, hb4⟩
  have HB : Hid (Below w.heap.size w w4) := below_step HX.below HX.below.size hb4
  clear hb4
  go_wp2
  go_ret
  exact ⟨rfl, HB.out⟩

set_option maxHeartbeats 2000000 in
theorem implWriteOk_rest (k c s q v : Int) (de : Bool) (a : Option Addr) (xs : List Dp) (cap : Nat) (w : World) (hn : xs.length ≤ 1048576) (hh : IsDeps w a xs)
    (h1 : btw k 0 5 = true) (h2 : tagOkB c s q = true) (h3 : valOkB v de = true) (h4 : depsOkB xs = true) :
    Calls Try.prog 48 #[wrV k c s q v de a xs.length cap] w fun e w' => e = .returned (.bool (writeOkB k c s q v de xs)) ∧ Below w.heap.size w w' := by
  rw [wok_rest h1 h2 h3 h4]
  have HH : Hid (IsDeps w a xs) := hh
  have HT : Hid (∀ i, i < xs.length → tagOkB (xs.getD i dz).c (xs.getD i dz).s (xs.getD i dz).q = true) := fun i hi => depsOk_tag h4 hi
  clear hh
  go_enter Try.func48, Try.ntmps48
  go_wp2_with fail
  refine (keyOk_is _ true h1 _).mono ?_
  rintro e w1 ⟨rfl, rfl⟩
  go_wp2_with fail
  refine (implTagOk_is _ _ _ true h2 _).mono ?_
  rintro e w2 ⟨rfl, hb⟩
  have HX := BoxIn.start hb
  have b1 := HX.c1
  have b2 := HX.c2
  have b3 := HX.c3
  have b4 := HX.c4
  have b5 := HX.c5
  have b6 := HX.c6
  clear hb
  go_wp2_with fail
  refine (valOk_is _ _ true h3 _).mono ?_
  rintro e w3 ⟨rfl, rfl⟩
  go_wp2_with fail
  refine (implDepsOk_is true _ xs h4 _ _ hn (HH.out.below HX.below)).mono ?_
  rintro e w4 ⟨rfl, hb4⟩
  have HX4 : Hid (BoxIn w w4 k c s q v de a xs.length cap) := HX.step hb4
  clear hb4 HX b1 b2 b3 b4 b5 b6 h4 h3
  have b1 := HX4.out.c1
  have b2 := HX4.out.c2
  have b3 := HX4.out.c3
  have b6 := HX4.out.c6
  go_wp2_with fail
  refine (tagWord_any _ _ _ _ h2).mono ?_
  rintro e w5 ⟨rfl, hb5⟩
  have HX5 : Hid (BoxIn w w5 k c s q v de a xs.length cap) := HX4.out.step hb5
  clear hb5 b1 b2 b3 b6 HX4
  have b6 := HX5.out.c6
  go_wp2
  clear b6
  go_loopw [36] (fun i wr => ∃ j : Nat, j ≤ xs.length ∧ i = .int .i64 j ∧ Hid (∀ l, l < j → ahead xs c s q l = true) ∧ Hid (Below w.heap.size w wr)) (fun i _ => xs.length - (intOf i).toNat)
  case atStart => exact ⟨0, Nat.zero_le _, rfl, fun l hl => by omega, HX5.out.below⟩
  case round =>
    clear HX5
    obtain ⟨j, hj, rfl, HG, HB⟩ := hrel
    by_cases hj' : j < xs.length
    · obtain ⟨g, o, rfl, hz, e0, e1, e2, e3⟩ := HH.out.at HB.out hj'
      have HA : Hid (ahead xs c s q j = decide (tcmp (xs.getD j dz).c (xs.getD j dz).s (xs.getD j dz).q c s q < 0)) := rfl
      have h6 := HT.out j hj'
      have i1 : (0 : Int) ≤ (j : Int) := by omega
      have i2 : (j : Int) < (xs.length : Int) := by omega
      generalize (xs.getD j dz).k = x0 at *
      generalize (xs.getD j dz).c = x1 at *
      generalize (xs.getD j dz).s = x2 at *
      generalize (xs.getD j dz).q = x3 at *
      have HW := word_order h6 h2
      have HBA : Hid (Below w.heap.size w (wr.alloc (.cells #[.int .i64 x0, .int .i64 x1, .int .i64 x2, .int .i64 x3] 36))) := HB.out.alloc HB.out.size _
      by_cases hs : tcmp x1 x2 x3 c s q < 0
      · have HG' : Hid (∀ l, l < j + 1 → ahead xs c s q l = true) := fun l hl => by
          by_cases h : l < j
          · exact HG.out l h
          · have : l = j := by omega
            rw [this, HA.out]
            exact decide_eq_true hs
        have hw : x1 * 4096 + x2 * 1024 + x3 < c * 4096 + s * 1024 + q := by omega
        clear HA HW hs
        go_wp2_with fail
        refine (tagWord_any _ _ _ _ h6).mono ?_
        rintro e wq ⟨rfl, hq⟩
        have HBQ : Hid (Below w.heap.size w wq) := below_step HBA.out HBA.out.size hq
        clear hq
        go_wp2
        exact ⟨⟨j + 1, by omega, by go_num, HG', HBQ⟩, by simp [intOf]; omega⟩
      · have HF : Hid (aheadAll xs c s q = false) := ahead_false hj' (by rw [HA.out]; exact decide_eq_false hs)
        have hw : c * 4096 + s * 1024 + q ≤ x1 * 4096 + x2 * 1024 + x3 := by omega
        clear HA HW hs
        go_wp2_with fail
        refine (tagWord_any _ _ _ _ h6).mono ?_
        rintro e wq ⟨rfl, hq⟩
        have HBQ : Hid (Below w.heap.size w wq) := below_step HBA.out HBA.out.size hq
        clear hq
        go_wp2
        go_ret
        exact ⟨ret_bool HF.out.symm, HBQ.out⟩
    · go_wp2
      go_ret
      exact ⟨ret_bool (ahead_true fun i hi => HG.out i (by omega)).symm, HB.out⟩

theorem implWriteOk_gen (k c s q v : Int) (de : Bool) (a : Option Addr) (xs : List Dp) (len cap : Nat) (w : World) (hl : xs.length = len) (hn : len ≤ 1048576) (hh : IsDeps w a xs) :
    Calls Try.prog 48 #[wrV k c s q v de a len cap] w fun e w' => e = .returned (.bool (writeOkB k c s q v de xs)) ∧ Below w.heap.size w w' := by
  subst hl
  by_cases h : btw k 0 5 = false ∨ tagOkB c s q = false ∨ valOkB v de = false
  · exact implWriteOk_ends k c s q v de a xs cap w h
  · simp only [not_or, Bool.not_eq_false] at h
    obtain ⟨h1, h2, h3⟩ := h
    cases h4 : depsOkB xs
    · exact implWriteOk_deps k c s q v de a xs cap w hn hh h1 h2 h3 h4
    · exact implWriteOk_rest k c s q v de a xs cap w hn hh h1 h2 h3 h4

theorem implWriteOk_any (k c s q v : Int) (de : Bool) (g : Nat) (xs : List Dp) (len cap : Nat) (w : World) (hl : xs.length = len) (hn : len ≤ 1048576) (hlt : g < w.heap.size) (hh : HoldsDeps w g 0 xs) :
    Calls Try.prog 48 #[wrV k c s q v de (some ⟨g, 0, none⟩) len cap] w fun e w' => e = .returned (.bool (writeOkB k c s q v de xs)) ∧ Below w.heap.size w w' :=
  implWriteOk_gen k c s q v de _ xs len cap w hl hn (.inr ⟨g, 0, rfl, hlt, hh⟩)

end Go.Proofs.Ytbbmpfkijhhemaa

/- The contract of impl.TagCmp. -/
namespace Go.Proofs.Ytbbmpfkijhhemaa
open Go.ChangeShapes Go.WideShapes Go.ChangeAt Go.RowKit
attribute [local go_sem ↓] Go.wp_at_zero Go.wp_at_succ

set_option maxHeartbeats 400000 in
theorem implTagCmp_eq (c s q : Int) (w : World) :
    Calls Try.prog 50 #[tagV c s q, tagV c s q] w fun e w' => e = .returned (.int .i64 0) ∧ Below w.heap.size w w' := by
  go_enter Try.func50, Try.ntmps50
  go_wp2_with fail
  go_ret
  exact ⟨rfl, ((Below.refl _ _).alloc (Nat.le_refl _) _).alloc (by simp) _⟩

theorem three_cells (W : World) (x y z : Int) (t b : Nat) (hb : W.heap.size = b) : ∀ i, i < [x, y, z].length → (W.alloc (Obj.cells #[.int .i64 x, .int .i64 y, .int .i64 z] t)).drew.cell? ⟨b, i, none⟩ = some (.int .i64 ([x, y, z].getD i 0)) := by
  subst hb
  intro i hi
  match i, hi with
  | 0, _ => simp [go_sem]
  | 1, _ => simp [go_sem]
  | 2, _ => simp [go_sem]

set_option maxHeartbeats 1000000 in
theorem implTagCmp_ne1 (c s q c' s' q' : Int) (w : World) (h : ¬ c = c') :
    Calls Try.prog 50 #[tagV c s q, tagV c' s' q'] w fun e w' => e = .returned (.int .i64 (orI [sgn c c', sgn s s', sgn q q'])) ∧ Below w.heap.size w w' := by
  go_enter Try.func50, Try.ntmps50
  go_wp2_with fail
  go_region_held3 (fun w' => w'.cell? ⟨w.heap.size, 0, none⟩ = some (.int .i64 c) ∧ w'.cell? ⟨w.heap.size, 1, none⟩ = some (.int .i64 s) ∧ w'.cell? ⟨w.heap.size, 2, none⟩ = some (.int .i64 q) ∧ w'.cell? ⟨w.heap.size + 1, 0, none⟩ = some (.int .i64 c') ∧ w'.cell? ⟨w.heap.size + 1, 1, none⟩ = some (.int .i64 s') ∧ w'.cell? ⟨w.heap.size + 1, 2, none⟩ = some (.int .i64 q')) (go_keep)
    (first | (go_at_call 69; refine (compare_any _ _ _).mono ?_; rintro e w' ⟨rfl, rfl⟩) | (go_at_call 68; refine (or_any _ [sgn c c', sgn s s', sgn q q'] _ _ (by simp) (by exact three_cells _ _ _ _ _ _ (by simp))).mono ?_; rintro e w' ⟨rfl, rfl⟩))
  all_goals
    go_wp2
    go_ret
    exact ⟨rfl, ((((Below.refl _ _).alloc (Nat.le_refl _) _).alloc (by simp) _).alloc (by simp; omega) _).drew⟩

set_option maxHeartbeats 1000000 in
theorem implTagCmp_ne2 (c s q s' q' : Int) (w : World) (h : ¬ s = s') :
    Calls Try.prog 50 #[tagV c s q, tagV c s' q'] w fun e w' => e = .returned (.int .i64 (orI [sgn c c, sgn s s', sgn q q'])) ∧ Below w.heap.size w w' := by
  go_enter Try.func50, Try.ntmps50
  go_wp2_with fail
  go_region_held3 (fun w' => w'.cell? ⟨w.heap.size, 0, none⟩ = some (.int .i64 c) ∧ w'.cell? ⟨w.heap.size, 1, none⟩ = some (.int .i64 s) ∧ w'.cell? ⟨w.heap.size, 2, none⟩ = some (.int .i64 q) ∧ w'.cell? ⟨w.heap.size + 1, 0, none⟩ = some (.int .i64 c) ∧ w'.cell? ⟨w.heap.size + 1, 1, none⟩ = some (.int .i64 s') ∧ w'.cell? ⟨w.heap.size + 1, 2, none⟩ = some (.int .i64 q')) (go_keep)
    (first | (go_at_call 69; refine (compare_any _ _ _).mono ?_; rintro e w' ⟨rfl, rfl⟩) | (go_at_call 68; refine (or_any _ [sgn c c, sgn s s', sgn q q'] _ _ (by simp) (by exact three_cells _ _ _ _ _ _ (by simp))).mono ?_; rintro e w' ⟨rfl, rfl⟩))
  all_goals
    go_wp2
    go_ret
    exact ⟨rfl, ((((Below.refl _ _).alloc (Nat.le_refl _) _).alloc (by simp) _).alloc (by simp; omega) _).drew⟩

set_option maxHeartbeats 1000000 in
theorem implTagCmp_ne3 (c s q q' : Int) (w : World) (h : ¬ q = q') :
    Calls Try.prog 50 #[tagV c s q, tagV c s q'] w fun e w' => e = .returned (.int .i64 (orI [sgn c c, sgn s s, sgn q q'])) ∧ Below w.heap.size w w' := by
  go_enter Try.func50, Try.ntmps50
  go_wp2_with fail
  go_region_held3 (fun w' => w'.cell? ⟨w.heap.size, 0, none⟩ = some (.int .i64 c) ∧ w'.cell? ⟨w.heap.size, 1, none⟩ = some (.int .i64 s) ∧ w'.cell? ⟨w.heap.size, 2, none⟩ = some (.int .i64 q) ∧ w'.cell? ⟨w.heap.size + 1, 0, none⟩ = some (.int .i64 c) ∧ w'.cell? ⟨w.heap.size + 1, 1, none⟩ = some (.int .i64 s) ∧ w'.cell? ⟨w.heap.size + 1, 2, none⟩ = some (.int .i64 q')) (go_keep)
    (first | (go_at_call 69; refine (compare_any _ _ _).mono ?_; rintro e w' ⟨rfl, rfl⟩) | (go_at_call 68; refine (or_any _ [sgn c c, sgn s s, sgn q q'] _ _ (by simp) (by exact three_cells _ _ _ _ _ _ (by simp))).mono ?_; rintro e w' ⟨rfl, rfl⟩))
  all_goals
    go_wp2
    go_ret
    exact ⟨rfl, ((((Below.refl _ _).alloc (Nat.le_refl _) _).alloc (by simp) _).alloc (by simp; omega) _).drew⟩

theorem implTagCmp_any (c s q c' s' q' : Int) (w : World) :
    Calls Try.prog 50 #[tagV c s q, tagV c' s' q'] w fun e w' => e = .returned (.int .i64 (tcmp c s q c' s' q')) ∧ Below w.heap.size w w' := by
  rw [← orI_three]
  by_cases h1 : c = c'
  · by_cases h2 : s = s'
    · by_cases h3 : q = q'
      · subst h1 h2 h3
        rw [orI_three, tcmp_self]
        exact implTagCmp_eq c s q w
      · subst h1 h2
        exact implTagCmp_ne3 c s q q' w h3
    · subst h1
      exact implTagCmp_ne2 c s q s' q' w h2
  · exact implTagCmp_ne1 c s q c' s' q' w h1

end Go.Proofs.Ytbbmpfkijhhemaa

/- Contracts of impl.MapOk, placeOfKey, copyWrite, MapAt, MapHas. -/
namespace Go.Proofs.Ytbbmpfkijhhemaa
open Go.ChangeShapes Go.WideShapes Go.ChangeAt Go.RowKit Go.Joins
attribute [local go_sem ↓] Go.wp_at_zero Go.wp_at_succ

def lastW (ws : List Wr) (k : Nat) : Int := if k = 0 then -1 else (ws.getD (k - 1) wz).k

theorem okW_key {x : Wr} (h : okW x = true) : 0 ≤ x.k ∧ x.k ≤ 5 := by
  unfold okW writeOkB btw at h
  simp only [Bool.and_eq_true, decide_eq_true_eq] at h
  exact h.1

theorem wrGood_bad {ws : List Wr} {k : Nat} (h1 : okW (ws.getD k wz) = true) (h : (ws.getD k wz).k ≤ lastW ws k) : wrGood ws k = false := by
  unfold wrGood
  rw [h1, Bool.true_and]
  refine decide_eq_false ?_
  have := okW_key h1
  unfold lastW at h
  by_cases hk : k = 0
  · rw [if_pos hk] at h
    omega
  · rw [if_neg hk] at h
    omega

theorem wrGood_good {ws : List Wr} {k : Nat} (h1 : okW (ws.getD k wz) = true) (h : lastW ws k < (ws.getD k wz).k) : wrGood ws k = true := by
  unfold wrGood
  rw [h1, Bool.true_and]
  refine decide_eq_true ?_
  unfold lastW at h
  by_cases hk : k = 0
  · exact .inl hk
  · rw [if_neg hk] at h
    exact .inr h

theorem wrGood_not {ws : List Wr} {k : Nat} (h1 : okW (ws.getD k wz) = false) : wrGood ws k = false := by
  unfold wrGood
  rw [h1, Bool.false_and]

set_option maxHeartbeats 2000000 in
theorem implMapOk_any (a : Option Addr) (n cap : Nat) (ws : List Wr) (w : World) (hn : ws.length = n) (hm : n ≤ 1048576) (hx : Few ws) (hh : IsWs w a ws) :
    Calls Try.prog 26 #[.slice a n cap] w fun e w' => e = .returned (.bool (mapOkB ws)) ∧ Below w.heap.size w w' := by
  have HH : Hid (IsWs w a ws) := hh
  have HN : Hid (ws.length = n) := hn
  have HX : Hid (Few ws) := hx
  clear hh hn hx
  go_enter Try.func26, Try.ntmps26
  go_wp2
  go_loopw [3, 8] (fun l i wr => ∃ k : Nat, ∃ la : Int, k ≤ n ∧ i = .int .i64 k ∧ l = .int .i64 la ∧ Hid (lastW ws k = la) ∧ Hid (∀ j, j < k → wrGood ws j = true) ∧ Hid (Below w.heap.size w wr)) (fun _ i _ => n - (intOf i).toNat)
  case atStart => exact ⟨0, -1, Nat.zero_le _, rfl, rfl, rfl, fun j hj => by omega, Below.refl _ _⟩
  case round =>
    obtain ⟨k, la, hk, rfl, rfl, HL, HG, HB⟩ := hrel
    by_cases hk' : k < n
    · obtain ⟨b, o, ad, cp, rfl, hz, ⟨e0, e1, e2, e3, e4, e5, e6⟩, hd⟩ := HH.out.at HB.out HN.out hk'
      have i1 : (0 : Int) ≤ (k : Int) := by omega
      have i2 : (k : Int) < (n : Int) := by omega
      have HS : Hid (lastW ws (k + 1) = (ws.getD k wz).k) := by unfold lastW; simp [Hid]
      have HC : Hid (∀ W, Below wr.heap.size wr W → Calls Try.prog 48 #[wrOf (ws.getD k wz) ad cp] W fun e w' => e = .returned (.bool (okW (ws.getD k wz))) ∧ Below W.heap.size W w') := fun W hW =>
        implWriteOk_gen _ _ _ _ _ _ _ (ws.getD k wz).xs _ _ _ rfl (HX.out k (by rw [HN.out]; exact hk')) (hd.below hW)
      clear hd HH
      cases h1 : okW (ws.getD k wz)
      · have HF : Hid (mapOkB ws = false) := mapOk_false (by rw [HN.out]; exact hk') (wrGood_not h1)
        clear HS
        rw [h1] at HC
        clear h1
        generalize ws.getD k wz = x at *
        obtain ⟨xk, xc, xs', xq, xv, xd, xx⟩ := x
        simp only at e0 e1 e2 e3 e4 e5 e6 HC
        go_wp2_with fail
        refine (HC.out _ ((Below.refl _ _).alloc (Nat.le_refl _) _)).mono ?_
        rintro e w2 ⟨rfl, hb⟩
        have HB2 : Hid (Below w.heap.size w w2) := below_step HB.out HB.out.size (BoxIn.start hb).below
        clear hb
        go_wp2
        go_ret
        exact ⟨ret_bool HF.out.symm, HB2.out⟩
      · by_cases h3 : (ws.getD k wz).k ≤ la
        · have HF : Hid (mapOkB ws = false) := mapOk_false (by rw [HN.out]; exact hk') (wrGood_bad h1 (by rw [HL.out]; exact h3))
          clear HS
          rw [h1] at HC
          clear h1
          generalize ws.getD k wz = x at *
          obtain ⟨xk, xc, xs', xq, xv, xd, xx⟩ := x
          simp only at e0 e1 e2 e3 e4 e5 e6 HC h3
          go_wp2_with fail
          refine (HC.out _ ((Below.refl _ _).alloc (Nat.le_refl _) _)).mono ?_
          rintro e w2 ⟨rfl, hb⟩
          have HX2 := Lib.hid (BoxIn.start hb)
          have HB2 : Hid (Below w.heap.size w w2) := below_step HB.out HB.out.size HX2.out.below
          have b0 := HX2.out.c0
          clear hb
          go_wp2
          go_ret
          exact ⟨ret_bool HF.out.symm, HB2.out⟩
        · have HG' : Hid (∀ j, j < k + 1 → wrGood ws j = true) := good_next HG.out (wrGood_good h1 (by rw [HL.out]; omega))
          rw [h1] at HC
          clear h1
          generalize ws.getD k wz = x at *
          obtain ⟨xk, xc, xs', xq, xv, xd, xx⟩ := x
          simp only at e0 e1 e2 e3 e4 e5 e6 HC h3 HS
          go_wp2_with fail
          refine (HC.out _ ((Below.refl _ _).alloc (Nat.le_refl _) _)).mono ?_
          rintro e w2 ⟨rfl, hb⟩
          have HX2 := Lib.hid (BoxIn.start hb)
          have HB2 : Hid (Below w.heap.size w w2) := below_step HB.out HB.out.size HX2.out.below
          have b0 := HX2.out.c0
          clear hb
          go_wp2
          exact ⟨⟨k + 1, xk, by omega, by go_num, rfl, HS, HG', HB2⟩, by simp [intOf]; omega⟩
    · have hkk : k = n := by omega
      subst hkk
      have HF : Hid (mapOkB ws = true) := mapOk_true (fun i hi => HG.out i (by rw [← HN.out]; exact hi))
      go_wp2
      go_ret
      exact ⟨ret_bool HF.out.symm, HB.out⟩

theorem kept_new {W w1 : World} {b t : Nat} {vs : Array Value} (hg : W.grownBy w1 none) (h : W.heap[b]? = some (.cells vs t (0, 0))) : (∀ j v, vs[j]? = some v → w1.cell? ⟨b, j, none⟩ = some v) ∧ ∀ j, w1.frozen? ⟨b, j, none⟩ = false := by
  have hb : b < W.heap.size := (Array.getElem?_eq_some_iff.1 h).1
  have e := hg.block b hb (by simp)
  rw [h] at e
  exact ⟨fun j v hv => by rw [cell_of_row w1 b j vs t (0, 0) e]; exact hv, fun j => frozen_of_row w1 b j vs t e⟩

theorem heap_one (w : World) (o1 o2 : Obj) : ((w.alloc o1).alloc o2).heap[w.heap.size]? = some o1 ∧ ((w.alloc o1).alloc o2).heap[w.heap.size + 1]? = some o2 := by
  constructor
  · rw [Below.heap_alloc _ _ _ (by simp)]
    exact heap_alloc_new w o1
  · have := heap_alloc_new (w.alloc o1) o2
    simpa using this

/-- What stands at a number of the call's own. -/
theorem keyIs_any (x : Wr) (ad : Option Addr) (cp g : Nat) (key : Int) (w : World) (hz : g < w.heap.size) (hc : w.cell? ⟨g, 0, none⟩ = some (.int .i64 key)) :
    Calls Try.prog 77 #[wrOf x ad cp, .pointer (some ⟨g, 0, none⟩)] w fun e w' => e = .returned (.bool (x.k == key)) ∧ Below w.heap.size w w' := by
  obtain ⟨xk, xc, xs', xq, xv, xd, xx⟩ := x
  go_enter Try.func77, Try.ntmps77
  go_wp2
  go_ret
  exact ⟨rfl, (Below.refl _ _).alloc (Nat.le_refl _) _⟩

/-- A place, or none. -/
def PlaceAt (ws : List Wr) (key r : Int) : Prop := (∃ i : Nat, FirstAt ws key i ∧ r = i) ∨ (NoneAt ws key ∧ r = -1)

set_option maxHeartbeats 2000000 in
theorem indexFunc_any (a : Option Addr) (n cap g : Nat) (key : Int) (ws : List Wr) (w : World) (hn : ws.length = n) (hm : n ≤ 1048576) (hh : IsWs w a ws) (hz0 : g < w.heap.size) (hc : w.cell? ⟨g, 0, none⟩ = some (.int .i64 key)) :
    Calls Try.prog 76 #[.slice a n cap, .func (.func 77) #[] #[.pointer (some ⟨g, 0, none⟩)]] w fun e w' => ∃ r, e = .returned (.int .i64 r) ∧ PlaceAt ws key r ∧ Below w.heap.size w w' := by
  have HH : Hid (IsWs w a ws) := hh
  have HN : Hid (ws.length = n) := hn
  have HC : Hid (w.cell? ⟨g, 0, none⟩ = some (.int .i64 key)) := hc
  clear hh hn hc
  go_enter Try.func76, Try.ntmps76
  go_wp2
  go_loopw [8] (fun i wr => ∃ k : Nat, k ≤ n ∧ i = .int .i64 k ∧ Hid (∀ j, j < k → (ws.getD j wz).k ≠ key) ∧ Hid (Below w.heap.size w wr)) (fun i _ => n - (intOf i).toNat)
  case atStart => exact ⟨0, Nat.zero_le _, rfl, fun j hj => absurd hj (Nat.not_lt_zero j), Below.refl _ _⟩
  case round =>
    obtain ⟨k, hk, rfl, HK, HB⟩ := hrel
    by_cases hk' : k < n
    · obtain ⟨b, o, ad, cp, rfl, hz, ⟨e0, e1, e2, e3, e4, e5, e6⟩, -⟩ := HH.out.at HB.out HN.out hk'
      have i1 : (0 : Int) ≤ (k : Int) := by omega
      have i2 : (k : Int) < (n : Int) := by omega
      have hzg : g < wr.heap.size := Nat.lt_of_lt_of_le hz0 HB.out.size
      have hcg : Hid (wr.cell? ⟨g, 0, none⟩ = some (.int .i64 key)) := (HB.out.cell (p := ⟨g, 0, none⟩) hz0).trans HC.out
      have HE : Hid ((ws.getD k wz).k = key → FirstAt ws key k) := fun hy => ⟨by rw [HN.out]; exact hk', hy, HK.out⟩
      have HK' : Hid ((ws.getD k wz).k ≠ key → ∀ j, j < k + 1 → (ws.getD j wz).k ≠ key) := fun hy j hj => by
        by_cases h : j < k
        · exact HK.out j h
        · have : j = k := by omega
          rw [this]
          exact hy
      clear HH
      generalize ws.getD k wz = x at *
      obtain ⟨xk, xc, xs', xq, xv, xd, xx⟩ := x
      simp only at e0 e1 e2 e3 e4 e5 e6 HE HK'
      go_wp2_with fail
      refine (keyIs_any ⟨xk, xc, xs', xq, xv, xd, xx⟩ ad cp g key _ hzg hcg.out).mono ?_
      rintro e w2 ⟨rfl, hb⟩
      have HB2 : Hid (Below w.heap.size w w2) := below_step HB.out HB.out.size hb
      clear hb
      by_cases hy : xk = key
      · have hyb : (xk == key) = true := by simpa using hy
        have HF := Lib.hid (HE.out hy)
        clear hy HE HK'
        go_wp2
        go_ret
        exact ⟨_, rfl, .inl ⟨k, HF.out, rfl⟩, HB2.out⟩
      · have hyb : (xk == key) = false := by simpa using hy
        have HK2 := Lib.hid (HK'.out hy)
        clear hy HE HK'
        go_wp2
        exact ⟨⟨k + 1, by omega, by go_num, HK2, HB2⟩, by simp [intOf]; omega⟩
    · have hkk : k = n := by omega
      subst hkk
      go_wp2
      go_ret
      exact ⟨_, rfl, .inr ⟨fun j hj => HK.out j (by rw [← HN.out]; exact hj), rfl⟩, HB.out⟩

set_option maxHeartbeats 1000000 in
theorem placeOfKey_any (a : Option Addr) (n cap : Nat) (key : Int) (ws : List Wr) (w : World) (hn : ws.length = n) (hm : n ≤ 1048576) (hh : IsWs w a ws) :
    Calls Try.prog 71 #[.slice a n cap, .int .i64 key] w fun e w' => ∃ r, e = .returned (.int .i64 r) ∧ PlaceAt ws key r ∧ Below w.heap.size w w' := by
  have HH : Hid (IsWs (w.alloc (.cells #[.int .i64 key] 3)) a ws) := hh.below ((Below.refl _ _).alloc (Nat.le_refl _) _)
  have HN : Hid (ws.length = n) := hn
  clear hh hn
  go_enter Try.func71, Try.ntmps71
  go_wp2_with fail
  refine (indexFunc_any a n cap w.heap.size key ws _ HN.out hm HH.out (by simp) (by simp [go_sem])).mono ?_
  rintro e w1 ⟨r, rfl, hp, hb⟩
  have HP := Lib.hid hp
  have HB : Hid (Below w.heap.size w w1) := below_step ((Below.refl _ _).alloc (Nat.le_refl _) _) (by simp) hb
  clear hb hp
  go_wp2
  go_ret
  exact ⟨r, rfl, HP.out, HB.out⟩

/-- Dependencies of one's own, from block number B on, where there are some. -/
def FreshDeps (B : Nat) (w : World) (a : Option Addr) (g : Nat) (xs : List Dp) : Prop := 0 < xs.length → a = some ⟨g, 0, none⟩ ∧ B ≤ g ∧ g < w.heap.size ∧ HoldsDeps w g 0 xs ∧ ∀ o, w.frozen? ⟨g, o, none⟩ = false

theorem FreshDeps.below {B : Nat} {w w' : World} {a : Option Addr} {g : Nat} {xs : List Dp} (h : FreshDeps B w a g xs) (hb : Below w.heap.size w w') : FreshDeps B w' a g xs := fun hp => by
  obtain ⟨h1, h2, h3, h4, h5⟩ := h hp
  exact ⟨h1, h2, Nat.lt_of_lt_of_le h3 hb.size, h4.below hb h3, fun o => (hb.frozen (p := ⟨g, o, none⟩) h3).trans (h5 o)⟩

theorem FreshDeps.isDeps {B : Nat} {w : World} {a : Option Addr} {g : Nat} {xs : List Dp} (h : FreshDeps B w a g xs) : IsDeps w a xs := by
  by_cases hp : 0 < xs.length
  · obtain ⟨h1, _, h3, h4, _⟩ := h hp
    exact .inr ⟨g, 0, h1, h3, h4⟩
  · exact .inl (List.length_eq_zero_iff.1 (by omega))

theorem fresh_set {w : World} {g : Nat} {xs : List Dp} {p : Addr} (h : g < w.heap.size ∧ HoldsDeps w g 0 xs ∧ ∀ o, w.frozen? ⟨g, o, none⟩ = false) (hne : p.block ≠ g) (v : Value) : g < (w.setCell p v).heap.size ∧ HoldsDeps (w.setCell p v) g 0 xs ∧ ∀ o, (w.setCell p v).frozen? ⟨g, o, none⟩ = false :=
  ⟨by simpa using h.1, h.2.1.set hne v, fun o => by rw [World.frozen?_setCell]; exact h.2.2 o⟩

end Go.Proofs.Ytbbmpfkijhhemaa

/- The contracts of spec.l07Bit and spec.Because. -/
namespace Go.Proofs.Ytbbmpfkijhhemaa
open Go.ChangeShapes Go.WideShapes Go.ChangeAt Go.RowKit Go.Joins
attribute [local go_sem ↓] Go.wp_at_zero Go.wp_at_succ

/-- Whether this bit is set. -/
def bitB (mask : Int) (k : Int) : Bool := decide (mask / 2 ^ k.toNat % 2 = 1)

def headD (x : Wr) : Dp := ⟨x.k, x.c, x.s, x.q⟩

def becRun (mask : Int) (out : List Dp) (x : Wr) : List Dp := if bitB mask x.k = true then x.xs.foldl laterL (laterL out (headD x)) else out

def becL (ws : List Wr) (mask : Int) : List Dp := ws.foldl (becRun mask) []

def becB (ws : List Wr) (mask : Int) : List Dp := if mapOkB ws = true ∧ 0 ≤ mask then becL ws mask else []

set_option maxRecDepth 100000 in
theorem laterL_len (xs : List Dp) (d : Dp) : (laterL xs d).length ≤ xs.length + 1 := by
  have h := laterRun_len xs d xs.length (Nat.le_refl _)
  rw [List.take_length] at h
  unfold laterL
  split
  · rename_i hp
    rw [if_pos hp] at h
    omega
  · rename_i hp
    rw [if_neg hp] at h
    simp
    omega

set_option maxRecDepth 100000 in
theorem becL_take (ws : List Wr) (mask : Int) (k : Nat) (h : k < ws.length) : becL (ws.take (k + 1)) mask = becRun mask (becL (ws.take k) mask) (ws.getD k wz) := by
  unfold becL
  have e : ws.take (k + 1) = ws.take k ++ [ws.getD k wz] := by
    rw [List.take_add_one, List.getElem?_eq_getElem h]
    simp [List.getD, h]
  rw [e, List.foldl_append]
  rfl

set_option maxRecDepth 100000 in
theorem laterF_take (xs out : List Dp) (k : Nat) (h : k < xs.length) : (xs.take (k + 1)).foldl laterL out = laterL ((xs.take k).foldl laterL out) (xs.getD k dz) := by
  have e : xs.take (k + 1) = xs.take k ++ [xs.getD k dz] := by
    rw [List.take_add_one, List.getElem?_eq_getElem h]
    simp [List.getD, h]
  rw [e, List.foldl_append]
  rfl

set_option maxRecDepth 100000 in
set_option maxHeartbeats 1000000 in
theorem bit7_any (mask : Int) (k : Nat) (w : World) (h0 : 0 ≤ mask) (_h1 : mask ≤ 9223372036854775807) (hk : k ≤ 5) :
    Calls Try.prog 30 #[.int .i64 mask, .int .i64 (k : Int)] w fun e w' => e = .returned (.bool (bitB mask (k : Int))) ∧ w' = w := by
  have hp : (0 : Int) < 2 ^ k := Int.pow_pos (by omega)
  have hd0 : 0 ≤ mask / 2 ^ k := Int.ediv_nonneg h0 (by omega)
  have hd1 : mask / 2 ^ k ≤ mask := Int.ediv_le_self _ h0
  have hm : (mask / 2 ^ k).tmod 2 = mask / 2 ^ k % 2 := Int.tmod_eq_emod_of_nonneg hd0
  have k0 : (0 : Int) ≤ (k : Int) := by omega
  have hb : bitB mask (k : Int) = decide (mask / 2 ^ k % 2 = 1) := rfl
  rw [hb]
  clear hb
  go_enter Try.func30, Try.ntmps30
  go_wp2
  go_ret
  exact ⟨rfl, rfl⟩

end Go.Proofs.Ytbbmpfkijhhemaa

/- A row of writes that grows; the contract of the specification's l02Copies. -/
namespace Go.Proofs.Ytbbmpfkijhhemaa
open Go.ChangeShapes Go.WideShapes Go.ChangeAt Go.RowKit Go.Joins
attribute [local go_sem ↓] Go.wp_at_zero Go.wp_at_succ

/-- A write, the block of its dependencies, and their room. -/
structure En where
  x : Wr
  g : Nat
  cp : Nat

def ez : En := ⟨wz, 0, 0⟩

def wrVals (e : En) : List Value := [.int .i64 e.x.k, .int .i64 e.x.c, .int .i64 e.x.s, .int .i64 e.x.q, .int .i64 e.x.v, .bool e.x.de, .slice (some ⟨e.g, 0, none⟩) e.x.xs.length e.cp]

theorem vals_len : ∀ es : List En, (es.flatMap wrVals).length = es.length * 7
  | [] => rfl
  | e :: r => by
    rw [List.flatMap_cons, List.length_append, vals_len r]
    simp [wrVals]
    omega

theorem vals_at : ∀ (es : List En) (i c : Nat), i < es.length → c < 7 → (es.flatMap wrVals)[i * 7 + c]? = (wrVals (es.getD i ez))[c]?
  | [], i, c, hi, _ => by simp at hi
  | e :: r, 0, c, _, hc => by
    rw [List.flatMap_cons, List.getElem?_append_left (by simp [wrVals]; omega)]
    simp
  | e :: r, i + 1, c, hi, hc => by
    rw [List.flatMap_cons, List.getElem?_append_right (by simp [wrVals]; omega)]
    have := vals_at r i c (by simpa using hi) hc
    rw [show (i + 1) * 7 + c - (wrVals e).length = i * 7 + c by simp [wrVals]; omega, this]
    simp

theorem vals_one (es : List En) : ∀ u ∈ es.flatMap wrVals, u.oneCell' = true := by
  intro u hu
  obtain ⟨e, _, h⟩ := List.mem_flatMap.1 hu
  simp only [wrVals, List.mem_cons, List.not_mem_nil, or_false] at h
  rcases h with rfl | rfl | rfl | rfl | rfl | rfl | rfl <;> rfl

/-- A row of writes of one's own, from block number base on. -/
structure RowEs (w : World) (base g cap : Nat) (es : List En) : Prop where
  le : base ≤ g
  lt : g < w.heap.size
  own : w.ownsRow base 53 7 (.slice (some ⟨g, 0, none⟩) es.length cap) es.length (es.flatMap wrVals)
  deps : ∀ e ∈ es, base ≤ e.g ∧ e.g < w.heap.size ∧ e.g ≠ g ∧ HoldsDeps w e.g 0 e.x.xs

theorem RowEs.below {w w' : World} {base g cap : Nat} {es : List En} (h : RowEs w base g cap es) (hb : Below w.heap.size w w') : RowEs w' base g cap es where
  le := h.le
  lt := Nat.lt_of_lt_of_le h.lt hb.size
  own := h.own.kept (row := none) ⟨hb.os, hb.tape, hb.output, hb.size, fun k hk _ => hb.block k hk⟩ (.inr (by simp [Value.ownBlock]))
  deps := fun e he => ⟨(h.deps e he).1, Nat.lt_of_lt_of_le (h.deps e he).2.1 hb.size, (h.deps e he).2.2.1, (h.deps e he).2.2.2.below hb (h.deps e he).2.1⟩

theorem rowEs_start (w : World) (base : Nat) (hb : base ≤ w.heap.size) : RowEs (w.alloc (.cells #[] 53)) base w.heap.size 0 [] where
  le := hb
  lt := by simp
  own := World.ownsRow_made w #[] 0 hb (by simp [maxLen]) (by simp)
  deps := fun e he => by simp at he

def gamma (es : List En) (i : Nat) : Nat := (es.getD i ez).g

theorem RowEs.holds {w : World} {base g cap : Nat} {es : List En} (h : RowEs w base g cap es) {ws : List Wr} (hw : es.map (·.x) = ws) : HoldsWs w g ws (gamma es) := by
  subst hw
  refine ⟨h.lt, fun i hi => ?_⟩
  have hi' : i < es.length := by simpa using hi
  have hx : (es.map (·.x)).getD i wz = (es.getD i ez).x := by simp [List.getD, hi']
  have hm : es.getD i ez ∈ es := by simp [List.getD, hi']
  rw [hx]
  have c : ∀ c, c < 7 → w.cell? ⟨g, i * 7 + c, none⟩ = (wrVals (es.getD i ez))[c]? := fun c hc => by rw [h.own.cellAt _ (by omega), vals_at es i c hi' hc]
  exact ⟨⟨(es.getD i ez).cp, c 0 (by omega), c 1 (by omega), c 2 (by omega), c 3 (by omega), c 4 (by omega), c 5 (by omega), c 6 (by omega)⟩, (h.deps _ hm).2.1, (h.deps _ hm).2.2.2⟩

/-- One write more. -/
theorem RowEs.more {w w5 : World} {base g cap g5 cap5 : Nat} {es : List En} {e : En} (h : RowEs w base g cap es) (he : base ≤ e.g ∧ e.g < w.heap.size ∧ e.g ≠ g ∧ HoldsDeps w e.g 0 e.x.xs)
    (hown : w5.ownsRow base 53 7 (.slice (some ⟨g5, 0, none⟩) (es.length + 1) cap5) (es.length + 1) (es.flatMap wrVals ++ wrVals e)) (hgrow : w.grownBy w5 (some g)) (hg : some g = some g5 ∨ g5 = w.heap.size) : RowEs w5 base g5 cap5 (es ++ [e]) where
  le := (hown.lt g5 rfl).1
  lt := (hown.lt g5 rfl).2
  own := by
    rw [List.length_append, List.flatMap_append]
    simpa using hown
  deps := by
    have : ∀ d : En, (base ≤ d.g ∧ d.g < w.heap.size ∧ d.g ≠ g ∧ HoldsDeps w d.g 0 d.x.xs) → base ≤ d.g ∧ d.g < w5.heap.size ∧ d.g ≠ g5 ∧ HoldsDeps w5 d.g 0 d.x.xs := fun d ⟨h1, h2, h3, h4⟩ =>
      ⟨h1, Nat.lt_of_lt_of_le h2 hgrow.size, by
        rcases hg with hg | hg
        · injection hg with hg
          rw [← hg]
          exact h3
        · omega, fun i hi => by
        have e' : ∀ o, w5.cell? ⟨d.g, o, none⟩ = w.cell? ⟨d.g, o, none⟩ := fun o => World.cell?_of_block (a := ⟨d.g, o, none⟩) (hgrow.block d.g h2 (by simpa using h3))
        obtain ⟨a0, a1, a2, a3⟩ := h4 i hi
        exact ⟨(e' _).trans a0, (e' _).trans a1, (e' _).trans a2, (e' _).trans a3⟩⟩
    intro d hd
    rcases List.mem_append.1 hd with hd | hd
    · exact this d (h.deps d hd)
    · have hd : d = e := by simpa using hd
      subst hd
      exact this d he

theorem one_cells (w : World) (t : Nat) (e : En) : ∀ j u, (wrVals e)[j]? = some u → (w.alloc (.cells #[.int .i64 e.x.k, .int .i64 e.x.c, .int .i64 e.x.s, .int .i64 e.x.q, .int .i64 e.x.v, .bool e.x.de, .slice (some ⟨e.g, 0, none⟩) e.x.xs.length e.cp] t)).cell? ((⟨w.heap.size, 0, none⟩ : Addr).add j) = some u := by
  intro j u hu
  have e1 : (⟨w.heap.size, 0, none⟩ : Addr).add j = ⟨w.heap.size, j, none⟩ := by
    unfold Addr.add
    split
    · rename_i h
      rw [h]
    · simp
  rw [e1, cell_of_row _ _ j _ t (0, 0) (heap_alloc_new w _), ← hu]
  simp [wrVals]

end Go.Proofs.Ytbbmpfkijhhemaa

/- Plain facts on the order of writes: no Go in sight. -/
namespace Go.Proofs.Ytbbmpfkijhhemaa

def dcmp (d e : Dp) : Int := if d.k ≠ e.k then sgn d.k e.k else tcmp d.c d.s d.q e.c e.s e.q

def depsCmp : List Dp → List Dp → Int
  | [], [] => 0
  | [], _ :: _ => -1
  | _ :: _, [] => 1
  | d :: r, e :: t => if dcmp d e ≠ 0 then dcmp d e else depsCmp r t

def bit (b : Bool) : Int := if b then 1 else 0

def wcmp (k c s q v : Int) (de : Bool) (xs : List Dp) (k' c' s' q' v' : Int) (de' : Bool) (ys : List Dp) : Int :=
  if tcmp c s q c' s' q' ≠ 0 then tcmp c s q c' s' q' else if k ≠ k' then sgn k k' else if v ≠ v' then sgn v v' else if de ≠ de' then sgn (bit de) (bit de') else depsCmp xs ys

theorem dcmp_or (d e : Dp) : orI [sgn d.k e.k, tcmp d.c d.s d.q e.c e.s e.q] = dcmp d e := by
  unfold dcmp
  by_cases h : d.k = e.k
  · have hs : sgn e.k e.k = 0 := sgn_self _
    simp only [orI, h]
    by_cases ht : tcmp d.c d.s d.q e.c e.s e.q = 0
    · simp [ht, hs]
    · simp [ht, hs]
  · have hs : sgn d.k e.k ≠ 0 := fun e0 => h (sgn_zero.1 e0)
    simp [orI, hs, h]

theorem depsCmp_first : ∀ (xs ys : List Dp) (j : Nat), j < xs.length → j < ys.length → (∀ i, i < j → dcmp (xs.getD i dz) (ys.getD i dz) = 0) → dcmp (xs.getD j dz) (ys.getD j dz) ≠ 0 → depsCmp xs ys = dcmp (xs.getD j dz) (ys.getD j dz)
  | [], _, _, h, _, _, _ => by simp at h
  | _ :: _, [], _, _, h, _, _ => by simp at h
  | d :: r, e :: t, 0, _, _, _, hn => by
    have hn' : dcmp d e ≠ 0 := hn
    simp [depsCmp, hn']
  | d :: r, e :: t, j + 1, h1, h2, hz, hn => by
    have h0 : dcmp d e = 0 := hz 0 (by omega)
    have ih := depsCmp_first r t j (by simpa using h1) (by simpa using h2) (fun i hi => by simpa using hz (i + 1) (by omega)) (by simpa using hn)
    simp only [depsCmp, h0, ne_eq, not_true_eq_false, if_false]
    simpa using ih

theorem depsCmp_none : ∀ (xs ys : List Dp), (∀ i, i < xs.length → i < ys.length → dcmp (xs.getD i dz) (ys.getD i dz) = 0) → depsCmp xs ys = sgn xs.length ys.length
  | [], [], _ => by simp [depsCmp, sgn]
  | [], e :: t, _ => by
    simp only [depsCmp, sgn, List.length_nil, List.length_cons]
    rw [if_pos (by omega)]
  | d :: r, [], _ => by
    simp only [depsCmp, sgn, List.length_nil, List.length_cons]
    rw [if_neg (by omega), if_pos (by omega)]
  | d :: r, e :: t, h => by
    have h0 : dcmp d e = 0 := h 0 (by simp) (by simp)
    have ih := depsCmp_none r t (fun i h1 h2 => by simpa using h (i + 1) (by simpa using h1) (by simpa using h2))
    simp only [depsCmp, h0, ne_eq, not_true_eq_false, if_false, ih, List.length_cons]
    unfold sgn
    by_cases h1 : (r.length : Int) < t.length
    · rw [if_pos h1, if_pos (by omega)]
    · rw [if_neg h1]
      by_cases h2 : (t.length : Int) < r.length
      · rw [if_pos h2, if_neg (by omega), if_pos (by omega)]
      · rw [if_neg h2, if_neg (by omega), if_neg (by omega)]

theorem bit_sgn {a b : Bool} : sgn (bit a) (bit b) = 0 ↔ a = b := by
  rw [sgn_zero]
  cases a <;> cases b <;> simp [bit]

theorem wcmp_or (k c s q v : Int) (de : Bool) (xs : List Dp) (k' c' s' q' v' : Int) (de' : Bool) (ys : List Dp) :
    orI [tcmp c s q c' s' q', sgn k k', sgn v v', sgn (bit de) (bit de'), depsCmp xs ys] = wcmp k c s q v de xs k' c' s' q' v' de' ys := by
  simp only [orI, wcmp, ne_eq, sgn_zero (a := k), sgn_zero (a := v), bit_sgn]
  by_cases h : depsCmp xs ys = 0
  · simp [h]
  · simp [h]

theorem wcmp_tag {k c s q v : Int} {de : Bool} {xs : List Dp} {k' c' s' q' v' : Int} {de' : Bool} {ys : List Dp} (h : ¬ (c = c' ∧ s = s' ∧ q = q')) : wcmp k c s q v de xs k' c' s' q' v' de' ys = tcmp c s q c' s' q' := by
  unfold wcmp
  rw [if_pos]
  intro e
  exact h (tcmp_zero.1 e)

theorem wcmp_key {k c s q v : Int} {de : Bool} {xs : List Dp} {k' v' : Int} {de' : Bool} {ys : List Dp} (h : k ≠ k') : wcmp k c s q v de xs k' c s q v' de' ys = sgn k k' := by
  unfold wcmp
  rw [tcmp_self, if_neg (by simp), if_pos h]

theorem wcmp_val {k c s q v : Int} {de : Bool} {xs : List Dp} {v' : Int} {de' : Bool} {ys : List Dp} (h : v ≠ v') : wcmp k c s q v de xs k c s q v' de' ys = sgn v v' := by
  unfold wcmp
  rw [tcmp_self, if_neg (by simp), if_neg (by simp), if_pos h]

theorem wcmp_dead {k c s q v : Int} {de : Bool} {xs : List Dp} {de' : Bool} {ys : List Dp} (h : de ≠ de') : wcmp k c s q v de xs k c s q v de' ys = sgn (bit de) (bit de') := by
  unfold wcmp
  rw [tcmp_self, if_neg (by simp), if_neg (by simp), if_neg (by simp), if_pos h]

theorem wcmp_deps {k c s q v : Int} {de : Bool} {xs ys : List Dp} : wcmp k c s q v de xs k c s q v de ys = depsCmp xs ys := by
  unfold wcmp
  rw [tcmp_self, if_neg (by simp), if_neg (by simp), if_neg (by simp), if_neg (by simp)]

end Go.Proofs.Ytbbmpfkijhhemaa

/- Contracts of impl.flagNum, spec.l01Bit, impl.depCmp, slices.CompareFunc over dependencies. -/
namespace Go.Proofs.Ytbbmpfkijhhemaa
open Go.ChangeShapes Go.WideShapes Go.ChangeAt Go.RowKit Go.Joins
attribute [local go_sem ↓] Go.wp_at_zero Go.wp_at_succ

theorem bit_any (b : Bool) (w : World) :
    Calls Try.prog 73 #[.bool b] w fun e w' => e = .returned (.int .i64 (bit b)) ∧ w' = w := by
  cases b
  · go_enter Try.func73, Try.ntmps73
    go_wp2
    go_ret
    exact ⟨rfl, rfl⟩
  · go_enter Try.func73, Try.ntmps73
    go_wp2
    go_ret
    exact ⟨rfl, rfl⟩

theorem two_cells (W : World) (x y : Int) (t b : Nat) (hb : W.heap.size = b) : ∀ i, i < [x, y].length → (W.alloc (Obj.cells #[.int .i64 x, .int .i64 y] t)).cell? ⟨b, i, none⟩ = some (.int .i64 ([x, y].getD i 0)) := by
  subst hb
  intro i hi
  match i, hi with
  | 0, _ => simp [go_sem]
  | 1, _ => simp [go_sem]

theorem alloc_held {W : World} {b o : Nat} {v : Value} (X : Obj) (h : W.cell? ⟨b, o, none⟩ = some v) (hz : b < W.heap.size) : (W.alloc X).cell? ⟨b, o, none⟩ = some v :=
  held_cell ((Below.refl _ _).alloc (Nat.le_refl _) X) h hz

theorem alloc_lt {W : World} {b : Nat} (X : Obj) (h : b < W.heap.size) : b < (W.alloc X).heap.size := by simp; omega

theorem alloc_below {w W : World} (X : Obj) (h : Below w.heap.size w W) : Below w.heap.size w (W.alloc X) := h.alloc h.size X

end Go.Proofs.Ytbbmpfkijhhemaa

/- The contract of impl.WriteCmp. -/
namespace Go.Proofs.Ytbbmpfkijhhemaa
open Go.ChangeShapes Go.WideShapes Go.ChangeAt Go.RowKit Go.Joins
attribute [local go_sem ↓] Go.wp_at_zero Go.wp_at_succ

theorem five_cells (W : World) (x y z u v : Int) (t b : Nat) (hb : W.heap.size = b) : ∀ i, i < [x, y, z, u, v].length → (W.alloc (Obj.cells #[.int .i64 x, .int .i64 y, .int .i64 z, .int .i64 u, .int .i64 v] t)).cell? ⟨b, i, none⟩ = some (.int .i64 ([x, y, z, u, v].getD i 0)) := by
  subst hb
  intro i hi
  match i, hi with
  | 0, _ => simp [go_sem]
  | 1, _ => simp [go_sem]
  | 2, _ => simp [go_sem]
  | 3, _ => simp [go_sem]
  | 4, _ => simp [go_sem]

/-- Two boxes of writes behind what was there. -/
abbrev TwoIn (w : World) (k c s q v : Int) (de : Bool) (a : Option Addr) (len cap : Nat) (k' c' s' q' v' : Int) (de' : Bool) (a' : Option Addr) (len' cap' : Nat) (W : World) : Prop :=
  W.cell? ⟨w.heap.size, 0, none⟩ = some (.int .i64 k) ∧ W.cell? ⟨w.heap.size, 1, none⟩ = some (.int .i64 c) ∧ W.cell? ⟨w.heap.size, 2, none⟩ = some (.int .i64 s) ∧ W.cell? ⟨w.heap.size, 3, none⟩ = some (.int .i64 q) ∧ W.cell? ⟨w.heap.size, 4, none⟩ = some (.int .i64 v) ∧ W.cell? ⟨w.heap.size, 5, none⟩ = some (.bool de) ∧ W.cell? ⟨w.heap.size, 6, none⟩ = some (.slice a len cap) ∧ W.cell? ⟨w.heap.size + 1, 0, none⟩ = some (.int .i64 k') ∧ W.cell? ⟨w.heap.size + 1, 1, none⟩ = some (.int .i64 c') ∧ W.cell? ⟨w.heap.size + 1, 2, none⟩ = some (.int .i64 s') ∧ W.cell? ⟨w.heap.size + 1, 3, none⟩ = some (.int .i64 q') ∧ W.cell? ⟨w.heap.size + 1, 4, none⟩ = some (.int .i64 v') ∧ W.cell? ⟨w.heap.size + 1, 5, none⟩ = some (.bool de') ∧ W.cell? ⟨w.heap.size + 1, 6, none⟩ = some (.slice a' len' cap') ∧ w.heap.size + 1 < W.heap.size ∧ Below w.heap.size w W

theorem two_step {w W w1 : World} {k c s q v : Int} {de : Bool} {a : Option Addr} {len cap : Nat} {k' c' s' q' v' : Int} {de' : Bool} {a' : Option Addr} {len' cap' : Nat} (h : TwoIn w k c s q v de a len cap k' c' s' q' v' de' a' len' cap' W) (hb : Below W.heap.size W w1) : TwoIn w k c s q v de a len cap k' c' s' q' v' de' a' len' cap' w1 := by
  obtain ⟨e0, e1, e2, e3, e4, e5, e6, f0, f1, f2, f3, f4, f5, f6, hz, hB⟩ := h
  have hz' : w.heap.size < W.heap.size := by omega
  exact ⟨held_cell hb e0 hz', held_cell hb e1 hz', held_cell hb e2 hz', held_cell hb e3 hz', held_cell hb e4 hz', held_cell hb e5 hz', held_cell hb e6 hz', held_cell hb f0 hz, held_cell hb f1 hz, held_cell hb f2 hz, held_cell hb f3 hz, held_cell hb f4 hz, held_cell hb f5 hz, held_cell hb f6 hz, Nat.lt_of_lt_of_le hz hb.size, below_step hB hB.size hb⟩

theorem two_alloc {w W : World} {k c s q v : Int} {de : Bool} {a : Option Addr} {len cap : Nat} {k' c' s' q' v' : Int} {de' : Bool} {a' : Option Addr} {len' cap' : Nat} (X : Obj) (h : TwoIn w k c s q v de a len cap k' c' s' q' v' de' a' len' cap' W) : TwoIn w k c s q v de a len cap k' c' s' q' v' de' a' len' cap' (W.alloc X) :=
  two_step h ((Below.refl _ _).alloc (Nat.le_refl _) X)

theorem two_start (w : World) (k c s q v : Int) (de : Bool) (a : Option Addr) (len cap : Nat) (k' c' s' q' v' : Int) (de' : Bool) (a' : Option Addr) (len' cap' : Nat) (t t' : Nat) : TwoIn w k c s q v de a len cap k' c' s' q' v' de' a' len' cap' ((w.alloc (.cells #[.int .i64 k, .int .i64 c, .int .i64 s, .int .i64 q, .int .i64 v, .bool de, .slice a len cap] t)).alloc (.cells #[.int .i64 k', .int .i64 c', .int .i64 s', .int .i64 q', .int .i64 v', .bool de', .slice a' len' cap'] t')) := by
  refine ⟨?_, ?_, ?_, ?_, ?_, ?_, ?_, ?_, ?_, ?_, ?_, ?_, ?_, ?_, ?_, ?_⟩ <;> first | (simp [go_sem]; done) | (simp; omega) | exact ((Below.refl _ _).alloc (Nat.le_refl _) _).alloc (by simp) _

theorem two_drew {w W : World} {k c s q v : Int} {de : Bool} {a : Option Addr} {len cap : Nat} {k' c' s' q' v' : Int} {de' : Bool} {a' : Option Addr} {len' cap' : Nat} (h : TwoIn w k c s q v de a len cap k' c' s' q' v' de' a' len' cap' W) : TwoIn w k c s q v de a len cap k' c' s' q' v' de' a' len' cap' W.drew :=
  two_step h (Below.refl _ _).drew

end Go.Proofs.Ytbbmpfkijhhemaa
