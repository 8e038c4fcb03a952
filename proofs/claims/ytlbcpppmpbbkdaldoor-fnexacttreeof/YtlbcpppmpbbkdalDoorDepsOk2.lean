/- The contract of impl.DepsOk. -/
import Derived.Test.YtlbcpppmpbbkdalDoorDepsOk
namespace Go.Proofs.YtlbcpppmpbbkdalDoor
open Go.ChangeShapes Go.WideShapes Go.ChangeAt Go.RowKit Go.Joins

def lastOf (xs : List Dp) (k : Nat) : Int := if k = 0 then -1 else (xs.getD (k - 1) dz).k

theorem depGood_bad {xs : List Dp} {k : Nat} (h1 : btw (xs.getD k dz).k 0 5 = true) (h : (xs.getD k dz).k ≤ lastOf xs k) : depGood xs k = false := by
  have e : depGood xs k = (btw (xs.getD k dz).k 0 5 && (tagOkB (xs.getD k dz).c (xs.getD k dz).s (xs.getD k dz).q && decide (k = 0 ∨ (xs.getD (k - 1) dz).k < (xs.getD k dz).k))) := rfl
  have hd : decide (k = 0 ∨ (xs.getD (k - 1) dz).k < (xs.getD k dz).k) = false := by
    apply decide_eq_false
    unfold lastOf at h
    have h1' := h1
    unfold btw at h1'
    have h1'' := of_decide_eq_true h1'
    split at h
    · omega
    · omega
  rw [e, hd, h1, Bool.and_false, Bool.and_false]

theorem depGood_good {xs : List Dp} {k : Nat} (h1 : btw (xs.getD k dz).k 0 5 = true) (h2 : tagOkB (xs.getD k dz).c (xs.getD k dz).s (xs.getD k dz).q = true) (h : lastOf xs k < (xs.getD k dz).k) : depGood xs k = true := by
  have e : depGood xs k = (btw (xs.getD k dz).k 0 5 && (tagOkB (xs.getD k dz).c (xs.getD k dz).s (xs.getD k dz).q && decide (k = 0 ∨ (xs.getD (k - 1) dz).k < (xs.getD k dz).k))) := rfl
  have hd : decide (k = 0 ∨ (xs.getD (k - 1) dz).k < (xs.getD k dz).k) = true := by
    apply decide_eq_true
    unfold lastOf at h
    split at h
    · exact Or.inl ‹_›
    · exact Or.inr h
  rw [e, hd, h1, h2]
  rfl

theorem depGood_tag {xs : List Dp} {k : Nat} (h2 : tagOkB (xs.getD k dz).c (xs.getD k dz).s (xs.getD k dz).q = false) : depGood xs k = false := by
  have e : depGood xs k = (btw (xs.getD k dz).k 0 5 && (tagOkB (xs.getD k dz).c (xs.getD k dz).s (xs.getD k dz).q && decide (k = 0 ∨ (xs.getD (k - 1) dz).k < (xs.getD k dz).k))) := rfl
  rw [e, h2, Bool.false_and, Bool.and_false]

theorem depGood_key {xs : List Dp} {k : Nat} (h1 : btw (xs.getD k dz).k 0 5 = false) : depGood xs k = false := by
  have e : depGood xs k = (btw (xs.getD k dz).k 0 5 && (tagOkB (xs.getD k dz).c (xs.getD k dz).s (xs.getD k dz).q && decide (k = 0 ∨ (xs.getD (k - 1) dz).k < (xs.getD k dz).k))) := rfl
  rw [e, h1, Bool.false_and]

set_option maxHeartbeats 1000000 in
theorem implDepsOk_gen (a : Option Addr) (xs : List Dp) (cap : Nat) (w : World) (hn : xs.length ≤ 1048576) (hh : IsDeps w a xs) :
    Calls Tryd.prog 64 #[.slice a xs.length cap] w fun e w' => e = .returned (.bool (depsOkB xs)) ∧ Below w.heap.size w w' := by
  have HH : Hid (IsDeps w a xs) := hh
  clear hh
  go_enter Tryd.func64, Tryd.ntmps64
  go_wp2
  go_loopw [3, 8] (fun l i wr => ∃ k : Nat, ∃ la : Int, k ≤ xs.length ∧ i = .int .i64 k ∧ l = .int .i64 la ∧ Hid (lastOf xs k = la) ∧ Hid (∀ j, j < k → depGood xs j = true) ∧ Hid (Below w.heap.size w wr)) (fun _ i _ => xs.length - (intOf i).toNat)
  case atStart => exact ⟨0, -1, Nat.zero_le _, rfl, rfl, rfl, fun j hj => by omega, Below.refl _ _⟩
  case round =>
    obtain ⟨k, la, hk, rfl, rfl, HL, HG, HB⟩ := hrel
    by_cases hk' : k < xs.length
    · obtain ⟨b, o, rfl, hz, e0, e1, e2, e3⟩ := HH.out.at HB.out hk'
      have i1 : (0 : Int) ≤ (k : Int) := by omega
      have i2 : (k : Int) < (xs.length : Int) := by omega
      have HS : Hid (lastOf xs (k + 1) = (xs.getD k dz).k) := by unfold lastOf; simp [Hid]
      cases h1 : btw (xs.getD k dz).k 0 5
      · have HF : Hid (depsOkB xs = false) := depsOk_false hk' (depGood_key h1)
        clear HS
        generalize (xs.getD k dz).k = x at *
        generalize (xs.getD k dz).c = c at *
        generalize (xs.getD k dz).s = s at *
        generalize (xs.getD k dz).q = q at *
        go_wp2_with (go_at_call 61; refine (keyOk_is _ false h1 _).mono ?_; rintro e w' ⟨rfl, rfl⟩)
        go_ret
        exact ⟨ret_bool HF.out.symm, HB.out.alloc HB.out.size _⟩
      · by_cases h3 : (xs.getD k dz).k ≤ la
        · have HF : Hid (depsOkB xs = false) := depsOk_false hk' (depGood_bad h1 (by rw [HL.out]; exact h3))
          clear HS
          generalize (xs.getD k dz).k = x at *
          generalize (xs.getD k dz).c = c at *
          generalize (xs.getD k dz).s = s at *
          generalize (xs.getD k dz).q = q at *
          go_wp2_with (go_at_call 61; refine (keyOk_is _ true h1 _).mono ?_; rintro e w' ⟨rfl, rfl⟩)
          go_ret
          exact ⟨ret_bool HF.out.symm, HB.out.alloc HB.out.size _⟩
        · cases h2 : tagOkB (xs.getD k dz).c (xs.getD k dz).s (xs.getD k dz).q
          · have HF : Hid (depsOkB xs = false) := depsOk_false hk' (depGood_tag h2)
            clear HS
            generalize (xs.getD k dz).k = x at *
            generalize (xs.getD k dz).c = c at *
            generalize (xs.getD k dz).s = s at *
            generalize (xs.getD k dz).q = q at *
            go_wp2_with (first | (go_at_call 61; refine (keyOk_is _ true h1 _).mono ?_; rintro e w' ⟨rfl, rfl⟩) | (go_at_call 62; refine (implTagOk_is _ _ _ false h2 _).mono ?_; rintro e w' ⟨rfl, hb⟩))
            go_ret
            exact ⟨ret_bool HF.out.symm, below_step (HB.out.alloc HB.out.size _) (by have := HB.out.size; simp; omega) hb⟩
          · have HF : Hid (depGood xs k = true) := depGood_good h1 h2 (by rw [HL.out]; omega)
            have HG' : Hid (∀ j, j < k + 1 → depGood xs j = true) := fun j hj => by
              by_cases h : j < k
              · exact HG.out j h
              · have : j = k := by omega
                rw [this]
                exact HF.out
            clear HF
            generalize (xs.getD k dz).k = x at *
            generalize (xs.getD k dz).c = c at *
            generalize (xs.getD k dz).s = s at *
            generalize (xs.getD k dz).q = q at *
            go_wp2_with fail
            refine (keyOk_is _ true h1 _).mono ?_
            rintro e w' ⟨rfl, rfl⟩
            go_wp2_with fail
            refine (implTagOk_is _ _ _ true h2 _).mono ?_
            rintro e w' ⟨rfl, hb⟩
            have HB' : Hid (Below w.heap.size w w') := below_step (HB.out.alloc HB.out.size _) (by have := HB.out.size; simp; omega) hb
            obtain ⟨hc, _⟩ := bcell hb
            clear hb
            go_wp2
            exact ⟨⟨k + 1, x, by omega, by go_num, rfl, HS, HG', HB'⟩, by simp [intOf]; omega⟩
    · go_wp2
      go_ret
      exact ⟨ret_bool (depsOk_true fun i hi => HG.out i (by omega)).symm, HB.out⟩

theorem implDepsOk_any (b o : Nat) (xs : List Dp) (cap : Nat) (w : World) (hn : xs.length ≤ 1048576) (hlt : b < w.heap.size) (hh : HoldsDeps w b o xs) :
    Calls Tryd.prog 64 #[.slice (some ⟨b, o, none⟩) xs.length cap] w fun e w' => e = .returned (.bool (depsOkB xs)) ∧ Below w.heap.size w w' :=
  implDepsOk_gen _ xs cap w hn (.inr ⟨b, o, rfl, hlt, hh⟩)

end Go.Proofs.YtlbcpppmpbbkdalDoor
