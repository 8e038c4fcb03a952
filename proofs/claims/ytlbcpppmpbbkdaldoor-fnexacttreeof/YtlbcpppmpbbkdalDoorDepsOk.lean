/- Contracts of spec.DepsOk and impl.DepsOk. -/
import Derived.Test.YtlbcpppmpbbkdalDoorDeps
import Derived.Deep.DrawnRows
import Derived.Deep.RegionHeld3
import Derived.Test.YtlbcpppmpbbkdalDoorAft
import Derived.WalkSmall
namespace Go.Proofs.YtlbcpppmpbbkdalDoor
open Go.ChangeShapes Go.WideShapes Go.ChangeAt Go.RowKit Go.Joins
attribute [local go_sem ↓] Go.wp_at_zero Go.wp_at_succ

theorem ret_bool {a b : Bool} (h : a = b) : Ending.returned (.bool a) = .returned (.bool b) := by rw [h]

set_option maxHeartbeats 1000000 in
theorem specDepsOk_gen (a : Option Addr) (xs : List Dp) (cap : Nat) (w : World) (hn : xs.length ≤ 1048576) (hh : IsDeps w a xs) :
    Calls Tryd.prog 55 #[.slice a xs.length cap] w fun e w' => e = .returned (.bool (depsOkB xs)) ∧ Below w.heap.size w w' := by
  have HH : Hid (IsDeps w a xs) := hh
  clear hh
  go_enter Tryd.func55, Tryd.ntmps55
  go_wp2
  go_loopw [3] (fun i wr => ∃ k : Nat, k ≤ xs.length ∧ i = .int .i64 k ∧ Hid (∀ j, j < k → depGood xs j = true) ∧ Hid (Below w.heap.size w wr)) (fun i _ => xs.length - (intOf i).toNat)
  case atStart => exact ⟨0, Nat.zero_le _, rfl, fun j hj => by omega, Below.refl _ _⟩
  case round =>
    obtain ⟨k, hk, rfl, HG, HB⟩ := hrel
    by_cases hk' : k < xs.length
    · obtain ⟨b, o, rfl, hz, e0, e1, e2, e3⟩ := HH.out.at HB.out hk'
      have HD : Hid (depGood xs k = (btw (xs.getD k dz).k 0 5 && (tagOkB (xs.getD k dz).c (xs.getD k dz).s (xs.getD k dz).q && decide (k = 0 ∨ (xs.getD (k - 1) dz).k < (xs.getD k dz).k)))) := rfl
      have i1 : (0 : Int) ≤ (k : Int) := by omega
      have i2 : (k : Int) < (xs.length : Int) := by omega
      cases h1 : btw (xs.getD k dz).k 0 5
      · have HF : Hid (depsOkB xs = false) := depsOk_false hk' (by rw [HD.out, h1]; rfl)
        clear HD
        generalize (xs.getD k dz).k = x at *
        generalize (xs.getD k dz).c = c at *
        generalize (xs.getD k dz).s = s at *
        generalize (xs.getD k dz).q = q at *
        go_wp2_with fail
        have ge0 := aft_cell hz e0
        have ge1 := aft_cell hz e1
        have ge2 := aft_cell hz e2
        have ge3 := aft_cell hz e3
        have ne := aft_some wr
        refine wp_region_aft (by kernel_rfl) (by kernel_rfl) ?_
        repeat (first | go_big_quiet_step (first | (go_at_call 52; exact aft_same (key_is _ false h1 _))))
        refine wpQuiet_nil ?_
        intro wq hq
        go_wp2
        go_ret
        exact ⟨ret_bool HF.out.symm, below_step HB.out HB.out.size hq⟩
      · cases h2 : tagOkB (xs.getD k dz).c (xs.getD k dz).s (xs.getD k dz).q
        · have HF : Hid (depsOkB xs = false) := depsOk_false hk' (by rw [HD.out, h1, h2]; rfl)
          clear HD
          generalize (xs.getD k dz).k = x at *
          generalize (xs.getD k dz).c = c at *
          generalize (xs.getD k dz).s = s at *
          generalize (xs.getD k dz).q = q at *
          go_wp2_with fail
          have ge0 := aft_cell hz e0
          have ge1 := aft_cell hz e1
          have ge2 := aft_cell hz e2
          have ge3 := aft_cell hz e3
          have ne := aft_some wr
          refine wp_region_aft (by kernel_rfl) (by kernel_rfl) ?_
          repeat (first | go_big_quiet_step (first | (go_at_call 52; exact aft_same (key_is _ true h1 _)) | (go_at_call 53; exact aft_of (specTagOk_is _ _ _ false h2 _))))
          refine wpQuiet_nil ?_
          intro wq hq
          go_wp2
          go_ret
          exact ⟨ret_bool HF.out.symm, below_step HB.out HB.out.size hq⟩
        · by_cases h0 : k = 0
          · have HF : Hid (depGood xs k = true) := by rw [HD.out, h1, h2, Bool.true_and, Bool.true_and]; exact decide_eq_true (Or.inl h0)
            have HG' : Hid (∀ j, j < k + 1 → depGood xs j = true) := fun j hj => by
              by_cases h : j < k
              · exact HG.out j h
              · have : j = k := by omega
                rw [this]
                exact HF.out
            clear HD HF
            have hd : decide (0 < k) = false := by simp [h0]
            clear h0
            generalize (xs.getD k dz).k = x at *
            generalize (xs.getD k dz).c = c at *
            generalize (xs.getD k dz).s = s at *
            generalize (xs.getD k dz).q = q at *
            go_wp2_with fail
            have ge0 := aft_cell hz e0
            have ge1 := aft_cell hz e1
            have ge2 := aft_cell hz e2
            have ge3 := aft_cell hz e3
            have ne := aft_some wr
            refine wp_region_aft (by kernel_rfl) (by kernel_rfl) ?_
            repeat (first | go_big_quiet_step (first | (go_at_call 52; exact aft_same (key_is _ true h1 _)) | (go_at_call 53; exact aft_of (specTagOk_is _ _ _ true h2 _))))
            refine wpQuiet_nil ?_
            intro wq hq
            go_wp2
            exact ⟨⟨k + 1, by omega, by go_num, HG', below_step HB.out HB.out.size hq⟩, by simp [intOf]; omega⟩
          · obtain ⟨j, rfl⟩ : ∃ j, k = j + 1 := ⟨k - 1, by omega⟩
            obtain ⟨-, f0, -⟩ := HH.out.cells HB.out (show j < xs.length by omega)
            rw [show j + 1 - 1 = j from rfl] at HD
            have i3 : (j : Int) + 1 < (xs.length : Int) := by omega
            by_cases hy : (xs.getD j dz).k < (xs.getD (j + 1) dz).k
            · have HF : Hid (depGood xs (j + 1) = true) := by rw [HD.out, h1, h2, Bool.true_and, Bool.true_and]; exact decide_eq_true (Or.inr hy)
              have HG' : Hid (∀ i, i < j + 1 + 1 → depGood xs i = true) := fun i hi => by
                by_cases h : i < j + 1
                · exact HG.out i h
                · have : i = j + 1 := by omega
                  rw [this]
                  exact HF.out
              clear HD HF
              generalize (xs.getD j dz).k = y at *
              generalize (xs.getD (j + 1) dz).k = x at *
              generalize (xs.getD (j + 1) dz).c = c at *
              generalize (xs.getD (j + 1) dz).s = s at *
              generalize (xs.getD (j + 1) dz).q = q at *
              go_wp2_with fail
              have ge0 := aft_cell hz e0
              have ge1 := aft_cell hz e1
              have ge2 := aft_cell hz e2
              have ge3 := aft_cell hz e3
              have gf0 := aft_cell hz f0
              have ne := aft_some wr
              refine wp_region_aft (by kernel_rfl) (by kernel_rfl) ?_
              repeat (first | go_big_quiet_step (first | (go_at_call 52; exact aft_same (key_is _ true h1 _)) | (go_at_call 53; exact aft_of (specTagOk_is _ _ _ true h2 _))))
              refine wpQuiet_nil ?_
              intro wq hq
              go_wp2
              exact ⟨⟨j + 1 + 1, by omega, by go_num, HG', below_step HB.out HB.out.size hq⟩, by simp [intOf]; omega⟩
            · have HF : Hid (depsOkB xs = false) := depsOk_false hk' (by rw [HD.out, h1, h2, Bool.true_and, Bool.true_and]; exact decide_eq_false (by omega))
              clear HD
              generalize (xs.getD j dz).k = y at *
              generalize (xs.getD (j + 1) dz).k = x at *
              generalize (xs.getD (j + 1) dz).c = c at *
              generalize (xs.getD (j + 1) dz).s = s at *
              generalize (xs.getD (j + 1) dz).q = q at *
              go_wp2_with fail
              have ge0 := aft_cell hz e0
              have ge1 := aft_cell hz e1
              have ge2 := aft_cell hz e2
              have ge3 := aft_cell hz e3
              have gf0 := aft_cell hz f0
              have ne := aft_some wr
              refine wp_region_aft (by kernel_rfl) (by kernel_rfl) ?_
              repeat (first | go_big_quiet_step (first | (go_at_call 52; exact aft_same (key_is _ true h1 _)) | (go_at_call 53; exact aft_of (specTagOk_is _ _ _ true h2 _))))
              refine wpQuiet_nil ?_
              intro wq hq
              go_wp2
              go_ret
              exact ⟨ret_bool HF.out.symm, below_step HB.out HB.out.size hq⟩
    · go_wp2
      go_ret
      exact ⟨ret_bool (depsOk_true fun i hi => HG.out i (by omega)).symm, HB.out⟩

theorem specDepsOk_any (b o : Nat) (xs : List Dp) (cap : Nat) (w : World) (hn : xs.length ≤ 1048576) (hlt : b < w.heap.size) (hh : HoldsDeps w b o xs) :
    Calls Tryd.prog 55 #[.slice (some ⟨b, o, none⟩) xs.length cap] w fun e w' => e = .returned (.bool (depsOkB xs)) ∧ Below w.heap.size w w' :=
  specDepsOk_gen _ xs cap w hn (.inr ⟨b, o, rfl, hlt, hh⟩)

end Go.Proofs.YtlbcpppmpbbkdalDoor
