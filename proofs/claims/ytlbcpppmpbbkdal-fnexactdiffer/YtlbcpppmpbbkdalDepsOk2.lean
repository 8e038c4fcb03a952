/- The contract of impl.DepsOk. -/
import Derived.Test.YtlbcpppmpbbkdalDepsOk
namespace Go.Proofs.Ytlbcpppmpbbkdal
open Go.ChangeShapes Go.WideShapes Go.ChangeAt Go.RowKit Go.Joins

def lastOf (xs : List Dp) (k : Nat) : Int := if k = 0 then -1 else (xs.getD (k - 1) dz).k

theorem depGood_bad {xs : List Dp} {k : Nat} (h1 : btw (xs.getD k dz).k 0 5 = true) (h : (xs.getD k dz).k ≤ lastOf xs k) : depGood xs k = false := by
  have e : depGood xs k = (btw (xs.getD k dz).k 0 5 && (tagOkB (xs.getD k dz).c (xs.getD k dz).s (xs.getD k dz).q && decide (k = 0 ∨ (xs.getD (k - 1) dz).k < (xs.getD k dz).k))) := rfl
  have hd : decide (k = 0 ∨ (xs.getD (k - 1) dz).k < (xs.getD k dz).k) = false := by
    apply decide_eq_false
    unfold lastOf at h
    have h1' := h1
    unfold btw at h1'
    have h1'' := of_decide_eq_true h1'
    split at h
    · omega
    · omega
  rw [e, hd, h1, Bool.and_false, Bool.and_false]

theorem depGood_good {xs : List Dp} {k : Nat} (h1 : btw (xs.getD k dz).k 0 5 = true) (h2 : tagOkB (xs.getD k dz).c (xs.getD k dz).s (xs.getD k dz).q = true) (h : lastOf xs k < (xs.getD k dz).k) : depGood xs k = true := by
  have e : depGood xs k = (btw (xs.getD k dz).k 0 5 && (tagOkB (xs.getD k dz).c (xs.getD k dz).s (xs.getD k dz).q && decide (k = 0 ∨ (xs.getD (k - 1) dz).k < (xs.getD k dz).k))) := rfl
  have hd : decide (k = 0 ∨ (xs.getD (k - 1) dz).k < (xs.getD k dz).k) = true := by
    apply decide_eq_true
    unfold lastOf at h
    split at h
    · exact Or.inl ‹_›
    · exact Or.inr h
  rw [e, hd, h1, h2]
  rfl

theorem depGood_tag {xs : List Dp} {k : Nat} (h2 : tagOkB (xs.getD k dz).c (xs.getD k dz).s (xs.getD k dz).q = false) : depGood xs k = false := by
  have e : depGood xs k = (btw (xs.getD k dz).k 0 5 && (tagOkB (xs.getD k dz).c (xs.getD k dz).s (xs.getD k dz).q && decide (k = 0 ∨ (xs.getD (k - 1) dz).k < (xs.getD k dz).k))) := rfl
  rw [e, h2, Bool.false_and, Bool.and_false]

theorem depGood_key {xs : List Dp} {k : Nat} (h1 : btw (xs.getD k dz).k 0 5 = false) : depGood xs k = false := by
  have e : depGood xs k = (btw (xs.getD k dz).k 0 5 && (tagOkB (xs.getD k dz).c (xs.getD k dz).s (xs.getD k dz).q && decide (k = 0 ∨ (xs.getD (k - 1) dz).k < (xs.getD k dz).k))) := rfl
  rw [e, h1, Bool.false_and]

end Go.Proofs.Ytlbcpppmpbbkdal
