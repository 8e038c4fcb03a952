/- Contracts of NodesOk of both sides. -/
import Derived.Test.YtofejfmfbifphacDoorIntsIn
namespace Go.Proofs.YtofejfmfbifphacDoor
open Go.ChangeShapes Go.WideShapes Go.ChangeAt Go.RowKit Go.Joins
attribute [local go_sem ↓] Go.wp_at_zero Go.wp_at_succ

def nodeGood (zs : List Int) (i : Nat) : Bool := btw (zs.getD i 0) 0 99 && decide (i = 0 ∨ zs.getD (i - 1) 0 < zs.getD i 0)

def nodesOkB (zs : List Int) : Bool := decide (zs.length ≤ 8) && (List.range zs.length).all (nodeGood zs)

set_option maxRecDepth 100000 in
theorem nodesOk_true {zs : List Int} (h8 : zs.length ≤ 8) (h : ∀ i, i < zs.length → nodeGood zs i = true) : nodesOkB zs = true := by
  unfold nodesOkB
  rw [decide_eq_true h8, Bool.true_and, List.all_eq_true]
  intro i hi
  exact h i (List.mem_range.1 hi)

set_option maxRecDepth 100000 in
theorem nodesOk_false {zs : List Int} {i : Nat} (hi : i < zs.length) (h : nodeGood zs i = false) : nodesOkB zs = false := by
  unfold nodesOkB
  rw [show (List.range zs.length).all (nodeGood zs) = false from List.all_eq_false.2 ⟨i, List.mem_range.2 hi, by simp [h]⟩, Bool.and_false]

set_option maxRecDepth 100000 in
theorem nodesOk_many {zs : List Int} (h : 8 < zs.length) : nodesOkB zs = false := by
  unfold nodesOkB
  rw [decide_eq_false (by omega), Bool.false_and]

def lastI (zs : List Int) (k : Nat) : Int := if k = 0 then -1 else zs.getD (k - 1) 0

set_option maxRecDepth 100000 in
theorem nodeGood_rng {zs : List Int} {k : Nat} (h : btw (zs.getD k 0) 0 99 = false) : nodeGood zs k = false := by
  unfold nodeGood
  rw [h, Bool.false_and]

set_option maxRecDepth 100000 in
theorem nodeGood_bad {zs : List Int} {k : Nat} (h1 : btw (zs.getD k 0) 0 99 = true) (h : zs.getD k 0 ≤ lastI zs k) : nodeGood zs k = false := by
  unfold nodeGood
  have hd : decide (k = 0 ∨ zs.getD (k - 1) 0 < zs.getD k 0) = false := by
    apply decide_eq_false
    unfold lastI at h
    unfold btw at h1
    have h1' := of_decide_eq_true h1
    split at h
    · omega
    · omega
  rw [hd, Bool.and_false]

set_option maxRecDepth 100000 in
theorem nodeGood_good {zs : List Int} {k : Nat} (h1 : btw (zs.getD k 0) 0 99 = true) (h : lastI zs k < zs.getD k 0) : nodeGood zs k = true := by
  unfold nodeGood
  have hd : decide (k = 0 ∨ zs.getD (k - 1) 0 < zs.getD k 0) = true := by
    apply decide_eq_true
    unfold lastI at h
    split at h
    · exact Or.inl ‹_›
    · exact Or.inr h
  rw [hd, h1]
  rfl

set_option maxRecDepth 100000 in
theorem nodes_next {zs : List Int} {k : Nat} (h : ∀ j, j < k → nodeGood zs j = true) (hk : nodeGood zs k = true) : ∀ j, j < k + 1 → nodeGood zs j = true := fun j hj => by
  by_cases h' : j < k
  · exact h j h'
  · have : j = k := by omega
    rw [this]
    exact hk

set_option maxRecDepth 100000 in
theorem inRange_is (n lo hi : Int) (v : Bool) (h : btw n lo hi = v) (w : World) :
    Calls Tryd.prog 19 #[.int .i64 n, .int .i64 lo, .int .i64 hi] w fun e w' => e = .returned (.bool v) ∧ w' = w := by
  rw [← h]
  exact inRange_any n lo hi w

set_option maxRecDepth 100000 in
set_option maxHeartbeats 2000000 in
theorem implNodesOk_any (a : Option Addr) (n cap : Nat) (zs : List Int) (w : World) (hl : zs.length = n) (hn : n ≤ 1048576) (hh : IsInts w a zs) :
    Calls Tryd.prog 18 #[.slice a n cap] w fun e w' => e = .returned (.bool (nodesOkB zs)) ∧ Below w.heap.size w w' := by
  have HH : Hid (IsInts w a zs) := hh
  have HN : Hid (zs.length = n) := hl
  clear hh hl
  by_cases h8 : 8 < n
  · have HF : Hid (nodesOkB zs = false) := nodesOk_many (by rw [HN.out]; exact h8)
    have h8' : (8 : Int) < (n : Int) := by omega
    go_enter Tryd.func18, Tryd.ntmps18
    go_wp2
    go_ret
    exact ⟨ret_bool HF.out.symm, Below.refl _ _⟩
  have h8' : ¬ (8 : Int) < (n : Int) := by omega
  go_enter Tryd.func18, Tryd.ntmps18
  go_wp2
  go_loopw [3, 11] (fun l i wr => ∃ k : Nat, ∃ la : Int, k ≤ n ∧ i = .int .i64 k ∧ l = .int .i64 la ∧ Hid (lastI zs k = la) ∧ Hid (∀ j, j < k → nodeGood zs j = true) ∧ Hid (Below w.heap.size w wr)) (fun _ i _ => n - (intOf i).toNat)
  case atStart => exact ⟨0, -1, Nat.zero_le _, rfl, rfl, rfl, fun j hj => by omega, Below.refl _ _⟩
  case round =>
    obtain ⟨k, la, hk, rfl, rfl, HL, HG, HB⟩ := hrel
    by_cases hk' : k < n
    · have hkz : k < zs.length := by rw [HN.out]; exact hk'
      obtain ⟨b, rfl, hz, e0⟩ := HH.out.at HB.out hkz
      have i1 : (0 : Int) ≤ (k : Int) := by omega
      have i2 : (k : Int) < (n : Int) := by omega
      have HS : Hid (lastI zs (k + 1) = zs.getD k 0) := by unfold lastI; simp [Hid]
      clear HH
      cases h1 : btw (zs.getD k 0) 0 99
      · have HF : Hid (nodesOkB zs = false) := nodesOk_false hkz (nodeGood_rng h1)
        clear HS
        generalize zs.getD k 0 = x at *
        go_wp2_with (go_at_call 19; refine (inRange_is _ _ _ false h1 _).mono ?_; rintro e w' ⟨rfl, rfl⟩)
        go_ret
        exact ⟨ret_bool HF.out.symm, HB.out⟩
      · by_cases h3 : zs.getD k 0 ≤ la
        · have HF : Hid (nodesOkB zs = false) := nodesOk_false hkz (nodeGood_bad h1 (by rw [HL.out]; exact h3))
          clear HS
          generalize zs.getD k 0 = x at *
          go_wp2_with (go_at_call 19; refine (inRange_is _ _ _ true h1 _).mono ?_; rintro e w' ⟨rfl, rfl⟩)
          go_ret
          exact ⟨ret_bool HF.out.symm, HB.out⟩
        · have HG2 : Hid (∀ j, j < k + 1 → nodeGood zs j = true) := nodes_next HG.out (nodeGood_good h1 (by rw [HL.out]; omega))
          generalize zs.getD k 0 = x at *
          go_wp2_with (go_at_call 19; refine (inRange_is _ _ _ true h1 _).mono ?_; rintro e w' ⟨rfl, rfl⟩)
          exact ⟨⟨k + 1, x, by omega, by go_num, rfl, HS, HG2, HB⟩, by simp [intOf]; omega⟩
    · have hkk : k = n := by omega
      subst hkk
      have HF : Hid (nodesOkB zs = true) := nodesOk_true (by rw [HN.out]; omega) (fun i hi => HG.out i (by rw [← HN.out]; exact hi))
      go_wp2
      go_ret
      exact ⟨ret_bool HF.out.symm, HB.out⟩

set_option maxRecDepth 100000 in
set_option maxHeartbeats 2000000 in
theorem specNodesOk_any (a : Option Addr) (n cap : Nat) (zs : List Int) (w : World) (hl : zs.length = n) (hn : n ≤ 1048576) (hh : IsInts w a zs) :
    Calls Tryd.prog 23 #[.slice a n cap] w fun e w' => e = .returned (.bool (nodesOkB zs)) ∧ Below w.heap.size w w' := by
  have HH : Hid (IsInts w a zs) := hh
  have HN : Hid (zs.length = n) := hl
  clear hh hl
  by_cases h8 : 8 < n
  · have HF : Hid (nodesOkB zs = false) := nodesOk_many (by rw [HN.out]; exact h8)
    have h8' : (8 : Int) < (n : Int) := by omega
    go_enter Tryd.func23, Tryd.ntmps23
    go_wp2
    go_ret
    exact ⟨ret_bool HF.out.symm, Below.refl _ _⟩
  have h8' : ¬ (8 : Int) < (n : Int) := by omega
  go_enter Tryd.func23, Tryd.ntmps23
  go_wp2
  go_loopw [3] (fun i wr => ∃ k : Nat, k ≤ n ∧ i = .int .i64 k ∧ Hid (∀ j, j < k → nodeGood zs j = true) ∧ Hid (Below w.heap.size w wr)) (fun i _ => n - (intOf i).toNat)
  case atStart => exact ⟨0, Nat.zero_le _, rfl, fun j hj => by omega, Below.refl _ _⟩
  case round =>
    obtain ⟨k, hk, rfl, HG, HB⟩ := hrel
    by_cases hk' : k < n
    · have hkz : k < zs.length := by rw [HN.out]; exact hk'
      obtain ⟨b, rfl, hz, e0⟩ := HH.out.at HB.out hkz
      have i1 : (0 : Int) ≤ (k : Int) := by omega
      have i2 : (k : Int) < (n : Int) := by omega
      cases h1 : btw (zs.getD k 0) 0 99
      · have HF : Hid (nodesOkB zs = false) := nodesOk_false hkz (nodeGood_rng h1)
        clear HH
        generalize zs.getD k 0 = x at *
        go_wp2_with fail
        have ge0 := aft_cell hz e0
        have ne := aft_some wr
        refine wp_region_aft (by kernel_rfl) (by kernel_rfl) ?_
        repeat (first | go_big_quiet_step (first | (go_at_call 24; exact aft_same (between_is _ _ _ false h1 _))))
        refine wpQuiet_nil ?_
        intro wq hq
        go_wp2
        go_ret
        exact ⟨ret_bool HF.out.symm, below_step HB.out HB.out.size hq⟩
      · by_cases h0 : k = 0
        · have HG2 : Hid (∀ j, j < k + 1 → nodeGood zs j = true) := nodes_next HG.out (by unfold nodeGood; rw [h1, Bool.true_and]; exact decide_eq_true (Or.inl h0))
          have hd : decide (0 < k) = false := by simp [h0]
          clear h0 HH
          generalize zs.getD k 0 = x at *
          go_wp2_with fail
          have ge0 := aft_cell hz e0
          have ne := aft_some wr
          refine wp_region_aft (by kernel_rfl) (by kernel_rfl) ?_
          repeat (first | go_big_quiet_step (first | (go_at_call 24; exact aft_same (between_is _ _ _ true h1 _))))
          refine wpQuiet_nil ?_
          intro wq hq
          go_wp2
          exact ⟨⟨k + 1, by omega, by go_num, HG2, below_step HB.out HB.out.size hq⟩, by simp [intOf]; omega⟩
        · obtain ⟨j, rfl⟩ : ∃ j, k = j + 1 := ⟨k - 1, by omega⟩
          obtain ⟨b', hb', -, f0⟩ := HH.out.at HB.out (show j < zs.length by omega)
          injection hb' with hb'
          injection hb' with hb'
          subst hb'
          have i3 : (j : Int) + 1 < (n : Int) := by omega
          by_cases hy : zs.getD j 0 < zs.getD (j + 1) 0
          · have HG2 : Hid (∀ i, i < j + 1 + 1 → nodeGood zs i = true) := nodes_next HG.out (by unfold nodeGood; rw [h1, Bool.true_and]; exact decide_eq_true (Or.inr hy))
            clear HH
            generalize zs.getD j 0 = y at *
            generalize zs.getD (j + 1) 0 = x at *
            go_wp2_with fail
            have ge0 := aft_cell hz e0
            have gf0 := aft_cell hz f0
            have ne := aft_some wr
            refine wp_region_aft (by kernel_rfl) (by kernel_rfl) ?_
            repeat (first | go_big_quiet_step (first | (go_at_call 24; exact aft_same (between_is _ _ _ true h1 _))))
            refine wpQuiet_nil ?_
            intro wq hq
            go_wp2
            exact ⟨⟨j + 1 + 1, by omega, by go_num, HG2, below_step HB.out HB.out.size hq⟩, by simp [intOf]; omega⟩
          · have HF : Hid (nodesOkB zs = false) := nodesOk_false hkz (by unfold nodeGood; rw [h1, Bool.true_and]; exact decide_eq_false (by rw [show j + 1 - 1 = j from rfl]; omega))
            clear HH
            generalize zs.getD j 0 = y at *
            generalize zs.getD (j + 1) 0 = x at *
            go_wp2_with fail
            have ge0 := aft_cell hz e0
            have gf0 := aft_cell hz f0
            have ne := aft_some wr
            refine wp_region_aft (by kernel_rfl) (by kernel_rfl) ?_
            repeat (first | go_big_quiet_step (first | (go_at_call 24; exact aft_same (between_is _ _ _ true h1 _))))
            refine wpQuiet_nil ?_
            intro wq hq
            go_wp2
            go_ret
            exact ⟨ret_bool HF.out.symm, below_step HB.out HB.out.size hq⟩
    · have hkk : k = n := by omega
      subst hkk
      have HF : Hid (nodesOkB zs = true) := nodesOk_true (by rw [HN.out]; omega) (fun i hi => HG.out i (by rw [← HN.out]; exact hi))
      go_wp2
      go_ret
      exact ⟨ret_bool HF.out.symm, HB.out⟩

end Go.Proofs.YtofejfmfbifphacDoor
