import Derived.Test.YtkcbknjmpfgimaaRows
import Derived.WalkKit
import Derived.ProofKit
import Derived.OpenShut
import Derived.BigQuiet
import Derived.Deep.QuietTactic
import Derived.Outline
import Derived.Laws.ResultCell
import Derived.Lib.SmallJoins
import Derived.ChangeOld
import Derived.Below
import Derived.Deep.Slices
import Derived.Deep.Strs
import Derived.Deep.DrawnRows
import Derived.Deep.RegionHeld3
import Derived.WalkSmall
import Derived.Deep.OwnRows
import Derived.Laws.BitsAllLaws
import Derived.Lib.Hide
import Derived.Deep.AppendLies
import Derived.Laws.OwnMore
import Derived.Orders
namespace Go.Proofs.Ytkcbknjmpfgimaa
open Go.ChangeShapes Go.WideShapes Go.ChangeAt Go.RowKit

def btw (n lo hi : Int) : Bool := decide (lo ≤ n ∧ n ≤ hi)

theorem between_any (n lo hi : Int) (w : World) :
    Calls Try.prog 33 #[.int .i64 n, .int .i64 lo, .int .i64 hi] w fun e w' => e = .returned (.bool (btw n lo hi)) ∧ w' = w := by
  by_cases h1 : lo ≤ n
  · by_cases h2 : n ≤ hi
    · have e : btw n lo hi = true := by simp [btw, h1, h2]
      rw [e]
      go_enter Try.func33, Try.ntmps33
      go_wp2
      go_ret
      exact ⟨rfl, rfl⟩
    · have e : btw n lo hi = false := by simp [btw, h1, h2]
      rw [e]
      go_enter Try.func33, Try.ntmps33
      go_wp2
      go_ret
      exact ⟨rfl, rfl⟩
  · have e : btw n lo hi = false := by simp [btw, h1]
    rw [e]
    go_enter Try.func33, Try.ntmps33
    go_wp2
    go_ret
    exact ⟨rfl, rfl⟩

theorem inRange_any (n lo hi : Int) (w : World) :
    Calls Try.prog 63 #[.int .i64 n, .int .i64 lo, .int .i64 hi] w fun e w' => e = .returned (.bool (btw n lo hi)) ∧ w' = w := by
  by_cases h1 : lo ≤ n
  · by_cases h2 : n ≤ hi
    · have e : btw n lo hi = true := by simp [btw, h1, h2]
      rw [e]
      go_enter Try.func63, Try.ntmps63
      go_wp2
      go_ret
      exact ⟨rfl, rfl⟩
    · have e : btw n lo hi = false := by simp [btw, h1, h2]
      rw [e]
      go_enter Try.func63, Try.ntmps63
      go_wp2
      go_ret
      exact ⟨rfl, rfl⟩
  · have e : btw n lo hi = false := by simp [btw, h1]
    rw [e]
    go_enter Try.func63, Try.ntmps63
    go_wp2
    go_ret
    exact ⟨rfl, rfl⟩

end Go.Proofs.Ytkcbknjmpfgimaa

namespace Go.Proofs.Ytkcbknjmpfgimaa
open Go.ChangeShapes Go.WideShapes Go.ChangeAt Go.RowKit

abbrev tagV (c s q : Int) : Value := .agg #[.int .i64 c, .int .i64 s, .int .i64 q]

def tagOkB (c s q : Int) : Bool := btw c 1 100000 && (btw s 0 3 && btw q 1 1000)

set_option maxHeartbeats 400000 in
theorem specTagOk_any (c s q : Int) (w : World) :
    Calls Try.prog 32 #[tagV c s q] w fun e w' => e = .returned (.bool (tagOkB c s q)) ∧ Below w.heap.size w w' := by
  cases h1 : btw c 1 100000 <;> cases h2 : btw s 0 3 <;> cases h3 : btw q 1 1000
  all_goals
    have e : tagOkB c s q = (btw c 1 100000 && (btw s 0 3 && btw q 1 1000)) := rfl
    rw [h1, h2, h3] at e
    simp only [Bool.and_true, Bool.and_false] at e
    rw [e]
    clear e
    go_enter Try.func32, Try.ntmps32
    go_wp2_with (go_at_call 33; refine (between_any _ _ _ _).mono ?_; rintro e w' ⟨rfl, rfl⟩)
    go_ret
    exact ⟨rfl, (Below.refl _ _).alloc (Nat.le_refl _) _⟩

set_option maxHeartbeats 400000 in
theorem implTagOk_any (c s q : Int) (w : World) :
    Calls Try.prog 52 #[tagV c s q] w fun e w' => e = .returned (.bool (tagOkB c s q)) ∧ Below w.heap.size w w' := by
  cases h1 : btw c 1 100000 <;> cases h2 : btw s 0 3 <;> cases h3 : btw q 1 1000
  all_goals
    have e : tagOkB c s q = (btw c 1 100000 && (btw s 0 3 && btw q 1 1000)) := rfl
    rw [h1, h2, h3] at e
    simp only [Bool.and_true, Bool.and_false] at e
    rw [e]
    clear e
    go_enter Try.func52, Try.ntmps52
    go_wp2_with (go_at_call 63; refine (inRange_any _ _ _ _).mono ?_; rintro e w' ⟨rfl, rfl⟩)
    go_ret
    exact ⟨rfl, (Below.refl _ _).alloc (Nat.le_refl _) _⟩

set_option maxHeartbeats 400000 in
theorem toTag_any (c s q : Int) (w : World) :
    Calls Try.prog 23 #[tagV c s q] w fun e w' => e = .returned (tagV c s q) ∧ Below w.heap.size w w' := by
  go_enter Try.func23, Try.ntmps23
  go_wp2
  exact bodyPost_ret (v := tagV c s q) (by simp [results, Try.results23, go_sem]) rfl ⟨rfl, (((Below.refl _ _).alloc (Nat.le_refl _) _).alloc (by simp) _).alloc (by simp; omega) _⟩

end Go.Proofs.Ytkcbknjmpfgimaa

namespace Go.Proofs.Ytkcbknjmpfgimaa
open Go.ChangeShapes Go.WideShapes Go.ChangeAt Go.RowKit Go.Joins

theorem own : ownKnob Try.prog.godebug = none := by kernel_rfl

theorem laidOut : laidOutB Try.prog = true := by kernel_rfl

theorem bcell {W w1 : World} (hb : Below W.heap.size W w1) : (∀ b o, b < W.heap.size → w1.cell? ⟨b, o, none⟩ = W.cell? ⟨b, o, none⟩) ∧ (∀ b o, b < W.heap.size → w1.frozen? ⟨b, o, none⟩ = W.frozen? ⟨b, o, none⟩) :=
  ⟨fun b o h => hb.cell (p := ⟨b, o, none⟩) h, fun b o h => hb.frozen (p := ⟨b, o, none⟩) h⟩

theorem below_step {B : Nat} {w w1 w2 : World} (h : Below B w w1) (hB : B ≤ w1.heap.size) (k : Below w1.heap.size w1 w2) : Below B w w2 := h.trans (k.mono hB)

end Go.Proofs.Ytkcbknjmpfgimaa

namespace Go.Proofs.Ytkcbknjmpfgimaa

def sgn (a b : Int) : Int := if a < b then -1 else if b < a then 1 else 0

def tcmp (c s q c' s' q' : Int) : Int := if c ≠ c' then sgn c c' else if s ≠ s' then sgn s s' else sgn q q'

def orI : List Int → Int
  | [] => 0
  | x :: r => if x ≠ 0 then x else orI r

theorem sgn_zero {a b : Int} : sgn a b = 0 ↔ a = b := by
  unfold sgn
  split
  · omega
  · split <;> omega

theorem sgn_self (a : Int) : sgn a a = 0 := sgn_zero.2 rfl

theorem sgn_bd (a b : Int) : -1 ≤ sgn a b ∧ sgn a b ≤ 1 := by
  unfold sgn
  split
  · omega
  · split <;> omega

theorem sgn_neg (a b : Int) : sgn b a = - sgn a b := by
  unfold sgn
  rcases Int.lt_trichotomy a b with h | h | h
  · have h' : ¬ b < a := by omega
    rw [if_neg h', if_pos h, if_pos h]
    decide
  · subst h
    simp
  · have h' : ¬ a < b := by omega
    rw [if_pos h, if_neg h', if_pos h]

theorem orI_three (c s q c' s' q' : Int) : orI [sgn c c', sgn s s', sgn q q'] = tcmp c s q c' s' q' := by
  simp only [orI, tcmp, ne_eq, sgn_zero]
  by_cases h1 : c = c'
  · by_cases h2 : s = s'
    · by_cases h3 : q = q'
      · simp [h1, h2, h3, sgn_self]
      · simp [h1, h2, h3]
    · simp [h1, h2]
  · simp [h1]

theorem tcmp_zero {c s q c' s' q' : Int} : tcmp c s q c' s' q' = 0 ↔ (c = c' ∧ s = s' ∧ q = q') := by
  unfold tcmp
  by_cases h1 : c = c'
  · by_cases h2 : s = s'
    · simp [h1, h2, sgn_zero]
    · simp [h1, h2, sgn_zero]
  · simp [h1, sgn_zero]

theorem tcmp_self (c s q : Int) : tcmp c s q c s q = 0 := tcmp_zero.2 ⟨rfl, rfl, rfl⟩

theorem tcmp_bd (c s q c' s' q' : Int) : -1 ≤ tcmp c s q c' s' q' ∧ tcmp c s q c' s' q' ≤ 1 := by
  unfold tcmp
  split
  · exact sgn_bd _ _
  · split
    · exact sgn_bd _ _
    · exact sgn_bd _ _

end Go.Proofs.Ytkcbknjmpfgimaa

namespace Go.Proofs.Ytkcbknjmpfgimaa
open Go.ChangeShapes Go.WideShapes Go.ChangeAt Go.RowKit Go.Joins

structure Dp where
  k : Int
  c : Int
  s : Int
  q : Int

def dz : Dp := ⟨0, 0, 0, 0⟩

theorem specTagOk_is (c s q : Int) (v : Bool) (h : tagOkB c s q = v) (w : World) :
    Calls Try.prog 32 #[tagV c s q] w fun e w' => e = .returned (.bool v) ∧ Below w.heap.size w w' := by
  subst h
  exact specTagOk_any c s q w

theorem implTagOk_is (c s q : Int) (v : Bool) (h : tagOkB c s q = v) (w : World) :
    Calls Try.prog 52 #[tagV c s q] w fun e w' => e = .returned (.bool v) ∧ Below w.heap.size w w' := by
  subst h
  exact implTagOk_any c s q w

set_option maxHeartbeats 400000 in
theorem eqTag_same (c s q : Int) (w : World) :
    Calls Try.prog 66 #[tagV c s q, tagV c s q] w fun e w' => e = .returned (.bool true) ∧ Below w.heap.size w w' := by
  go_enter Try.func66, Try.ntmps66
  go_wp2
  go_ret
  exact ⟨rfl, ((Below.refl _ _).alloc (Nat.le_refl _) _).alloc (by simp) _⟩

def HoldsDeps (w : World) (b o : Nat) (xs : List Dp) : Prop :=
  ∀ i, i < xs.length → w.cell? ⟨b, o + i * 4, none⟩ = some (.int .i64 (xs.getD i dz).k) ∧ w.cell? ⟨b, o + i * 4 + 1, none⟩ = some (.int .i64 (xs.getD i dz).c) ∧
    w.cell? ⟨b, o + i * 4 + 2, none⟩ = some (.int .i64 (xs.getD i dz).s) ∧ w.cell? ⟨b, o + i * 4 + 3, none⟩ = some (.int .i64 (xs.getD i dz).q)

theorem HoldsDeps.below {w w' : World} {b o B : Nat} {xs : List Dp} (h : HoldsDeps w b o xs) (hb : Below B w w') (hB : b < B) : HoldsDeps w' b o xs := by
  intro i hi
  obtain ⟨h0, h1, h2, h3⟩ := h i hi
  exact ⟨(hb.cell (p := ⟨b, _, none⟩) hB).trans h0, (hb.cell (p := ⟨b, _, none⟩) hB).trans h1, (hb.cell (p := ⟨b, _, none⟩) hB).trans h2, (hb.cell (p := ⟨b, _, none⟩) hB).trans h3⟩

def IsDeps (w : World) (a : Option Addr) (xs : List Dp) : Prop := xs = [] ∨ ∃ b o, a = some ⟨b, o, none⟩ ∧ b < w.heap.size ∧ HoldsDeps w b o xs

theorem IsDeps.below {w w' : World} {a : Option Addr} {xs : List Dp} (h : IsDeps w a xs) (hb : Below w.heap.size w w') : IsDeps w' a xs := by
  rcases h with h | ⟨b, o, ha, hlt, hh⟩
  · exact .inl h
  · exact .inr ⟨b, o, ha, Nat.lt_of_lt_of_le hlt hb.size, hh.below hb hlt⟩

theorem IsDeps.at {w w' : World} {a : Option Addr} {xs : List Dp} (h : IsDeps w a xs) (hb : Below w.heap.size w w') {k : Nat} (hk : k < xs.length) :
    ∃ b o, a = some ⟨b, o, none⟩ ∧ b < w'.heap.size ∧ w'.cell? ⟨b, o + k * 4, none⟩ = some (.int .i64 (xs.getD k dz).k) ∧ w'.cell? ⟨b, o + k * 4 + 1, none⟩ = some (.int .i64 (xs.getD k dz).c) ∧
    w'.cell? ⟨b, o + k * 4 + 2, none⟩ = some (.int .i64 (xs.getD k dz).s) ∧ w'.cell? ⟨b, o + k * 4 + 3, none⟩ = some (.int .i64 (xs.getD k dz).q) := by
  rcases h with h | ⟨b, o, ha, hlt, hh⟩
  · subst h
    simp at hk
  · exact ⟨b, o, ha, Nat.lt_of_lt_of_le hlt hb.size, (hh.below hb hlt) k hk⟩

theorem IsDeps.cells {w w' : World} {b o : Nat} {xs : List Dp} (h : IsDeps w (some ⟨b, o, none⟩) xs) (hb : Below w.heap.size w w') {k : Nat} (hk : k < xs.length) :
    b < w'.heap.size ∧ w'.cell? ⟨b, o + k * 4, none⟩ = some (.int .i64 (xs.getD k dz).k) ∧ w'.cell? ⟨b, o + k * 4 + 1, none⟩ = some (.int .i64 (xs.getD k dz).c) ∧
    w'.cell? ⟨b, o + k * 4 + 2, none⟩ = some (.int .i64 (xs.getD k dz).s) ∧ w'.cell? ⟨b, o + k * 4 + 3, none⟩ = some (.int .i64 (xs.getD k dz).q) := by
  obtain ⟨b', o', he, h1⟩ := h.at hb hk
  injection he with he
  injection he with e1 e2
  subst e1 e2
  exact h1

end Go.Proofs.Ytkcbknjmpfgimaa

namespace Go.Proofs.Ytkcbknjmpfgimaa
open Go.ChangeShapes Go.WideShapes Go.ChangeAt Go.RowKit Go.Joins Go.Deep
set_option maxRecDepth 100000

theorem cellsInt : Try.prog.cellsOf 3 = 1 := by kernel_rfl

theorem cellsTag : Try.prog.cellsOf 43 = 3 := by kernel_rfl

section
variable {H : Type} {enc : TypeId × Value → H} {w : World} {base : Nat} {spare : Nat → Bool} {held : Bool}

theorem tag_cells {fuel : Nat} {cs : List Value} {x : DataW H × List MemPlace} (h : DataW.trod enc Try.prog w base spare held fuel 43 cs = some x) : ∃ c s q : Int, cs = [.int .i64 c, .int .i64 s, .int .i64 q] := by
  obtain ⟨y0, y1, y2, n, _, hl, h0, h1, h2⟩ := trod_struct3 Try.underlying43 h
  rw [cellsTag] at hl
  match cs, hl with
  | [v0, v1, v2], _ =>
    obtain ⟨a0, e0, _, _⟩ := DataW.trod_int Try.underlying3 h0
    obtain ⟨a1, e1, _, _⟩ := DataW.trod_int Try.underlying3 h1
    obtain ⟨a2, e2, _, _⟩ := DataW.trod_int Try.underlying3 h2
    simp [cellsInt] at e0 e1 e2
    subst e0 e1 e2
    exact ⟨a0, a1, a2, rfl⟩

theorem add_form {a : Addr} {v : Value} (h : w.cell? a = some v) : a = ⟨a.block, a.off, none⟩ := by
  cases a with
  | mk b o s =>
    cases s with
    | none => rfl
    | some s =>
      simp only [World.cell?] at h
      split at h <;> simp at h

theorem add_plain (b o i : Nat) : (Addr.mk b o none).add i = ⟨b, o + i, none⟩ := by
  unfold Addr.add
  split
  · rename_i h
    rw [h]
    rfl
  · rfl

end
end Go.Proofs.Ytkcbknjmpfgimaa

namespace Go.Proofs.Ytkcbknjmpfgimaa
open Go.RowKit

structure Aft (B : Nat) (w : World) where
  now : World
  below : Below B w now

theorem wp_region_aft {P : Program} {id : Nat} {Q : Exit → Act → World → Prop} {a : Act} {w : World} {l : List Oper} (hm : P.follows .mixedOrders = true) (hB : Region.lexB .any l.toArray = true)
    (h : wpQuiet P l.toArray (fun w' => ∃ p : Aft w.heap.size w, w' = p.now) (fun a' => ∀ w', Below w.heap.size w w' → Q .normal a' w') l a) : (Code.region id l.toArray true).wp P Q a w := by
  refine wp_region_quiet (C := fun w' => ∃ p : Aft w.heap.size w, w' = p.now) hm hB ⟨⟨w.drew, (Below.refl _ _).drew⟩, rfl⟩ ?_
  have e : (fun a' => ∀ w', (∃ p : Aft w.heap.size w, w' = p.now) → Q .normal a' w') = (fun a' => ∀ w', Below w.heap.size w w' → Q .normal a' w') := by
    funext a'
    apply propext
    constructor
    · intro hh w' hb
      exact hh w' ⟨⟨w', hb⟩, rfl⟩
    · rintro hh w' ⟨p, rfl⟩
      exact hh _ p.below
  rw [e]
  simpa using h

theorem aft_some (w : World) : Nonempty (Aft w.heap.size w) := ⟨⟨w, Below.refl _ _⟩⟩

theorem aft_of {P : Program} {f : FuncId} {args : Array Value} {w : World} {p : Aft w.heap.size w} {v : Value}
    (h : Calls P f args p.now fun e w' => e = .returned v ∧ Below p.now.heap.size p.now w') : Calls P f args p.now fun e w'' => e = .returned v ∧ ∃ p' : Aft w.heap.size w, w'' = p'.now :=
  h.mono fun _ w'' ⟨he, hb⟩ => ⟨he, ⟨w'', p.below.trans (hb.mono p.below.size)⟩, rfl⟩

theorem aft_same {P : Program} {f : FuncId} {args : Array Value} {w : World} {p : Aft w.heap.size w} {v : Value}
    (h : Calls P f args p.now fun e w' => e = .returned v ∧ w' = p.now) : Calls P f args p.now fun e w'' => e = .returned v ∧ ∃ p' : Aft w.heap.size w, w'' = p'.now :=
  h.mono fun _ _ ⟨he, hb⟩ => ⟨he, p, hb⟩

theorem aft_cell {w : World} {b o : Nat} {v : Value} (hb : b < w.heap.size) (h : w.cell? ⟨b, o, none⟩ = some v) : ∀ p : Aft w.heap.size w, p.now.cell? ⟨b, o, none⟩ = some v :=
  fun p => (p.below.cell (p := ⟨b, o, none⟩) hb).trans h

end Go.Proofs.Ytkcbknjmpfgimaa

namespace Go.Proofs.Ytkcbknjmpfgimaa
open Go.ChangeShapes Go.WideShapes Go.ChangeAt Go.RowKit Go.Joins
attribute [local go_sem ↓] Go.wp_at_zero Go.wp_at_succ

theorem ret_bool {a b : Bool} (h : a = b) : Ending.returned (.bool a) = .returned (.bool b) := by rw [h]

end Go.Proofs.Ytkcbknjmpfgimaa

namespace Go.Proofs.Ytkcbknjmpfgimaa
open Go.ChangeShapes Go.WideShapes Go.ChangeAt Go.RowKit Go.Joins
attribute [local go_sem ↓] Go.wp_at_zero Go.wp_at_succ

end Go.Proofs.Ytkcbknjmpfgimaa

namespace Go.Proofs.Ytkcbknjmpfgimaa
open Go.ChangeShapes Go.WideShapes Go.ChangeAt Go.RowKit Go.Joins

end Go.Proofs.Ytkcbknjmpfgimaa

namespace Go.Proofs.Ytkcbknjmpfgimaa
open Go.ChangeShapes Go.WideShapes Go.ChangeAt Go.RowKit

theorem sign_any (a b : Int) (w : World) :
    Calls Try.prog 61 #[.int .i64 a, .int .i64 b] w fun e w' => e = .returned (.int .i64 (sgn a b)) ∧ w' = w := by
  rcases Int.lt_trichotomy a b with h | h | h
  · have e : sgn a b = -1 := by simp [sgn, h]
    rw [e]
    go_enter Try.func61, Try.ntmps61
    go_wp2
    go_ret
    exact ⟨rfl, rfl⟩
  · subst h
    rw [sgn_self]
    go_enter Try.func61, Try.ntmps61
    go_wp2
    go_ret
    exact ⟨rfl, rfl⟩
  · have h' : ¬ a < b := by omega
    have e : sgn a b = 1 := by simp [sgn, h, h']
    rw [e]
    go_enter Try.func61, Try.ntmps61
    go_wp2
    go_ret
    exact ⟨rfl, rfl⟩

theorem isNaN_any (a : Int) (w : World) :
    Calls Try.prog 85 #[.int .i64 a] w fun e w' => e = .returned (.bool false) ∧ w' = w := by
  go_enter Try.func85, Try.ntmps85
  go_wp2
  go_ret
  exact ⟨by simp, rfl⟩

theorem compare_any (a b : Int) (w : World) :
    Calls Try.prog 76 #[.int .i64 a, .int .i64 b] w fun e w' => e = .returned (.int .i64 (sgn a b)) ∧ w' = w := by
  rcases Int.lt_trichotomy a b with h | h | h
  · have e : sgn a b = -1 := by simp [sgn, h]
    rw [e]
    go_enter Try.func76, Try.ntmps76
    go_wp2_with (go_at_call 85; refine (isNaN_any _ _).mono ?_; rintro e w' ⟨rfl, rfl⟩)
    go_ret
    exact ⟨rfl, rfl⟩
  · subst h
    rw [sgn_self]
    go_enter Try.func76, Try.ntmps76
    go_wp2_with (go_at_call 85; refine (isNaN_any _ _).mono ?_; rintro e w' ⟨rfl, rfl⟩)
    go_ret
    exact ⟨rfl, rfl⟩
  · have h' : ¬ a < b := by omega
    have e : sgn a b = 1 := by simp [sgn, h, h']
    rw [e]
    go_enter Try.func76, Try.ntmps76
    go_wp2_with (go_at_call 85; refine (isNaN_any _ _).mono ?_; rintro e w' ⟨rfl, rfl⟩)
    go_ret
    exact ⟨rfl, rfl⟩

set_option maxHeartbeats 400000 in
theorem specTagCmp_any (c s q c' s' q' : Int) (w : World) :
    Calls Try.prog 34 #[tagV c s q, tagV c' s' q'] w fun e w' => e = .returned (.int .i64 (tcmp c s q c' s' q')) ∧ Below w.heap.size w w' := by
  by_cases h1 : c = c'
  · by_cases h2 : s = s'
    · subst h1 h2
      have e : tcmp c s q c s q' = sgn q q' := by simp [tcmp]
      rw [e]
      go_enter Try.func34, Try.ntmps34
      go_wp2_with (go_at_call 61; refine (sign_any _ _ _).mono ?_; rintro e w' ⟨rfl, rfl⟩)
      go_ret
      exact ⟨rfl, ((Below.refl _ _).alloc (Nat.le_refl _) _).alloc (by simp) _⟩
    · subst h1
      have e : tcmp c s q c s' q' = sgn s s' := by simp [tcmp, h2]
      rw [e]
      have h2' : (s != s') = true := by rw [bne_iff_ne]; exact h2
      go_enter Try.func34, Try.ntmps34
      go_wp2_with (go_at_call 61; refine (sign_any _ _ _).mono ?_; rintro e w' ⟨rfl, rfl⟩)
      go_ret
      exact ⟨rfl, ((Below.refl _ _).alloc (Nat.le_refl _) _).alloc (by simp) _⟩
  · have e : tcmp c s q c' s' q' = sgn c c' := by simp [tcmp, h1]
    rw [e]
    have h1' : (c != c') = true := by rw [bne_iff_ne]; exact h1
    go_enter Try.func34, Try.ntmps34
    go_wp2_with (go_at_call 61; refine (sign_any _ _ _).mono ?_; rintro e w' ⟨rfl, rfl⟩)
    go_ret
    exact ⟨rfl, ((Below.refl _ _).alloc (Nat.le_refl _) _).alloc (by simp) _⟩

def orTo (zs : List Int) (k : Nat) : Prop := ∀ i, i < k → zs.getD i 0 = 0

theorem orI_of_first : ∀ (zs : List Int) (k : Nat), k < zs.length → (∀ i, i < k → zs.getD i 0 = 0) → zs.getD k 0 ≠ 0 → orI zs = zs.getD k 0
  | [], _, h, _, _ => by simp at h
  | x :: r, 0, _, _, hn => by
    have hn' : x ≠ 0 := hn
    simp [orI, hn']
  | x :: r, k + 1, h, hz, hn => by
    have hx : x = 0 := hz 0 (by omega)
    have := orI_of_first r k (by simpa using h) (fun i hi => by simpa using hz (i + 1) (by omega)) (by simpa using hn)
    simp [orI, hx]
    simpa using this

theorem orI_of_none : ∀ (zs : List Int), (∀ i, i < zs.length → zs.getD i 0 = 0) → orI zs = 0
  | [], _ => rfl
  | x :: r, h => by
    have hx : x = 0 := h 0 (by simp)
    have := orI_of_none r (fun i hi => by simpa using h (i + 1) (by simpa using hi))
    simp [orI, hx, this]

theorem ret_i64 {a b : Int} (h : a = b) : Ending.returned (.int .i64 a) = .returned (.int .i64 b) := by rw [h]

set_option maxHeartbeats 400000 in
theorem or_any (b : Nat) (zs : List Int) (cap : Nat) (w : World) (hn : zs.length ≤ 1000) (hcl : ∀ i, i < zs.length → w.cell? ⟨b, i, none⟩ = some (.int .i64 (zs.getD i 0))) :
    Calls Try.prog 75 #[.slice (some ⟨b, 0, none⟩) zs.length cap] w fun e w' => e = .returned (.int .i64 (orI zs)) ∧ w' = w := by
  have HC : Hid (∀ i, i < zs.length → w.cell? ⟨b, i, none⟩ = some (.int .i64 (zs.getD i 0))) := hcl
  clear hcl
  go_enter Try.func75, Try.ntmps75
  go_wp2
  go_loop [8] (fun i => ∃ k : Nat, k ≤ zs.length ∧ i = .int .i64 k ∧ orTo zs k) (fun i => zs.length - (intOf i).toNat)
  case atStart => exact ⟨0, Nat.zero_le _, rfl, fun i hi => by omega⟩
  case round =>
    obtain ⟨k, hk, rfl, HZ⟩ := hrel
    by_cases hlt : k < zs.length
    · have hcell := HC.out k hlt
      by_cases hz : zs.getD k 0 = 0
      · rw [hz] at hcell
        have HZ0 : Hid (zs.getD k 0 = 0) := hz
        clear hz
        go_wp2
        go_round
        case rel => exact ⟨k + 1, by omega, by go_num, fun i hi => by
          by_cases h : i < k
          · exact HZ i h
          · have : i = k := by omega
            rw [this]
            exact HZ0.out⟩
        case measure => simp [intOf]; omega
      · have HF : Hid (orI zs = zs.getD k 0) := orI_of_first zs k hlt HZ hz
        have hz' : (zs.getD k 0 != 0) = true := by rw [bne_iff_ne]; exact hz
        clear hz
        generalize zs.getD k 0 = z at hcell hz' HF
        go_wp2
        go_ret
        exact ⟨ret_i64 HF.out.symm, rfl⟩
    · have HF : Hid (orI zs = 0) := orI_of_none zs (fun i hi => HZ i (by omega))
      go_wp2
      go_ret
      exact ⟨ret_i64 HF.out.symm, rfl⟩

end Go.Proofs.Ytkcbknjmpfgimaa

namespace Go.Proofs.Ytkcbknjmpfgimaa
open Go.ChangeShapes Go.WideShapes Go.ChangeAt Go.RowKit Go.Joins
attribute [local go_sem ↓] Go.wp_at_zero Go.wp_at_succ

theorem HoldsDeps.set {w : World} {b o : Nat} {xs : List Dp} {a : Addr} (h : HoldsDeps w b o xs) (hne : a.block ≠ b) (v : Value) : HoldsDeps (w.setCell a v) b o xs := by
  intro i hi
  obtain ⟨h0, h1, h2, h3⟩ := h i hi
  have hn : ∀ o', a ≠ ⟨b, o', none⟩ := fun o' e => hne (by rw [e])
  exact ⟨(World.cell?_setCell_other _ _ _ _ (hn _)).trans h0, (World.cell?_setCell_other _ _ _ _ (hn _)).trans h1, (World.cell?_setCell_other _ _ _ _ (hn _)).trans h2, (World.cell?_setCell_other _ _ _ _ (hn _)).trans h3⟩

end Go.Proofs.Ytkcbknjmpfgimaa

namespace Go.Proofs.Ytkcbknjmpfgimaa
open Go.ChangeShapes Go.WideShapes Go.ChangeAt Go.RowKit Go.Joins

def ahead (xs : List Dp) (c s q : Int) (i : Nat) : Bool := decide (tcmp (xs.getD i dz).c (xs.getD i dz).s (xs.getD i dz).q c s q < 0)

end Go.Proofs.Ytkcbknjmpfgimaa

namespace Go.Proofs.Ytkcbknjmpfgimaa
open Go.ChangeShapes Go.WideShapes Go.ChangeAt Go.RowKit Go.Joins
attribute [local go_sem ↓] Go.wp_at_zero Go.wp_at_succ

structure Wr where
  k : Int
  c : Int
  s : Int
  q : Int
  v : Int
  de : Bool
  xs : List Dp

def wz : Wr := ⟨0, 0, 0, 0, 0, false, []⟩

def WrAt (w : World) (b o : Nat) (x : Wr) (a : Option Addr) (cap : Nat) : Prop :=
  w.cell? ⟨b, o, none⟩ = some (.int .i64 x.k) ∧ w.cell? ⟨b, o + 1, none⟩ = some (.int .i64 x.c) ∧ w.cell? ⟨b, o + 2, none⟩ = some (.int .i64 x.s) ∧ w.cell? ⟨b, o + 3, none⟩ = some (.int .i64 x.q) ∧
  w.cell? ⟨b, o + 4, none⟩ = some (.int .i64 x.v) ∧ w.cell? ⟨b, o + 5, none⟩ = some (.bool x.de) ∧ w.cell? ⟨b, o + 6, none⟩ = some (.slice a x.xs.length cap)

theorem WrAt.of_block {w w' : World} {b o : Nat} {x : Wr} {a : Option Addr} {cap : Nat} (h : WrAt w b o x a cap) (hb : w'.heap[b]? = w.heap[b]?) : WrAt w' b o x a cap := by
  obtain ⟨h0, h1, h2, h3, h4, h5, h6⟩ := h
  have e : ∀ i, w'.cell? ⟨b, i, none⟩ = w.cell? ⟨b, i, none⟩ := fun i => World.cell?_of_block (a := ⟨b, i, none⟩) hb
  exact ⟨(e _).trans h0, (e _).trans h1, (e _).trans h2, (e _).trans h3, (e _).trans h4, (e _).trans h5, (e _).trans h6⟩

def IsWs (w : World) (a : Option Addr) (ws : List Wr) : Prop :=
  ws = [] ∨ ∃ b o, a = some ⟨b, o, none⟩ ∧ b < w.heap.size ∧ ∀ i, i < ws.length → ∃ a' cap, WrAt w b (o + i * 7) (ws.getD i wz) a' cap ∧ (ws.getD i wz).xs.length ≤ maxLen ∧ IsDeps w a' (ws.getD i wz).xs

theorem IsWs.below {w w' : World} {a : Option Addr} {ws : List Wr} (h : IsWs w a ws) (hb : Below w.heap.size w w') : IsWs w' a ws := by
  rcases h with h | ⟨b, o, ha, hlt, hh⟩
  · exact .inl h
  · refine .inr ⟨b, o, ha, Nat.lt_of_lt_of_le hlt hb.size, fun i hi => ?_⟩
    obtain ⟨a', cap, h1, h2, h3⟩ := hh i hi
    exact ⟨a', cap, h1.of_block (hb.block _ hlt), h2, h3.below hb⟩

def HoldsWs (w : World) (b : Nat) (ws : List Wr) (γ : Nat → Nat) : Prop :=
  b < w.heap.size ∧ ∀ i, i < ws.length → (∃ cap, WrAt w b (i * 7) (ws.getD i wz) (some ⟨γ i, 0, none⟩) cap) ∧ γ i < w.heap.size ∧ HoldsDeps w (γ i) 0 (ws.getD i wz).xs

theorem HoldsWs.below {w w' : World} {b : Nat} {ws : List Wr} {γ : Nat → Nat} (h : HoldsWs w b ws γ) (hb : Below w.heap.size w w') : HoldsWs w' b ws γ := by
  refine ⟨Nat.lt_of_lt_of_le h.1 hb.size, fun i hi => ?_⟩
  obtain ⟨⟨cap, h1⟩, h2, h3⟩ := h.2 i hi
  exact ⟨⟨cap, h1.of_block (hb.block _ h.1)⟩, Nat.lt_of_lt_of_le h2 hb.size, h3.below hb h2⟩

def Rows7 (w : World) (B : Nat) (ws : List Wr) (γ : Nat → Nat) (k : Nat) : Prop :=
  (∀ i, i < k → B < γ i ∧ γ i < w.heap.size ∧ HoldsDeps w (γ i) 0 (ws.getD i wz).xs ∧ ∀ o, w.frozen? ⟨γ i, o, none⟩ = false) ∧ ∀ i j, i < k → j < k → γ i = γ j → i = j

theorem Rows7.below {w w' : World} {B : Nat} {ws : List Wr} {γ : Nat → Nat} {k : Nat} (h : Rows7 w B ws γ k) (hb : Below w.heap.size w w') : Rows7 w' B ws γ k :=
  ⟨fun i hi => ⟨(h.1 i hi).1, Nat.lt_of_lt_of_le (h.1 i hi).2.1 hb.size, (h.1 i hi).2.2.1.below hb (h.1 i hi).2.1, fun o => (hb.frozen (p := ⟨γ i, o, none⟩) (h.1 i hi).2.1).trans ((h.1 i hi).2.2.2 o)⟩, h.2⟩

structure OwnWs (w : World) (base b : Nat) (ws : List Wr) (γ : Nat → Nat) : Prop where
  holds : HoldsWs w b ws γ
  le : base ≤ b
  open_ : ∀ o, w.frozen? ⟨b, o, none⟩ = false
  deps : ∀ i, i < ws.length → base ≤ γ i ∧ γ i ≠ b ∧ ∀ o, w.frozen? ⟨γ i, o, none⟩ = false
  inj : ∀ i j, i < ws.length → j < ws.length → γ i = γ j → i = j

theorem OwnWs.below {w w' : World} {base b : Nat} {ws : List Wr} {γ : Nat → Nat} (h : OwnWs w base b ws γ) (hb : Below w.heap.size w w') : OwnWs w' base b ws γ where
  holds := h.holds.below hb
  le := h.le
  open_ := fun o => (hb.frozen (p := ⟨b, o, none⟩) h.holds.1).trans (h.open_ o)
  deps := fun i hi => ⟨(h.deps i hi).1, (h.deps i hi).2.1, fun o => (hb.frozen (p := ⟨γ i, o, none⟩) (h.holds.2 i hi).2.1).trans ((h.deps i hi).2.2 o)⟩
  inj := h.inj

end Go.Proofs.Ytkcbknjmpfgimaa

namespace Go.Proofs.Ytkcbknjmpfgimaa
open Go.ChangeShapes Go.WideShapes Go.ChangeAt Go.RowKit Go.Joins
attribute [local go_sem ↓] Go.wp_at_zero Go.wp_at_succ

theorem IsWs.at {w w' : World} {a : Option Addr} {ws : List Wr} (h : IsWs w a ws) (hb : Below w.heap.size w w') {k n : Nat} (hn : ws.length = n) (hk : k < n) :
    ∃ b o a' cap, a = some ⟨b, o, none⟩ ∧ b < w'.heap.size ∧ WrAt w' b (o + k * 7) (ws.getD k wz) a' cap ∧ IsDeps w' a' (ws.getD k wz).xs := by
  rcases h.below hb with h | ⟨b, o, ha, hlt, hh⟩
  · subst h
    simp at hn
    omega
  · obtain ⟨a', cap, h1, _, h3⟩ := hh k (by omega)
    exact ⟨b, o, a', cap, ha, hlt, h1, h3⟩

end Go.Proofs.Ytkcbknjmpfgimaa

namespace Go.Proofs.Ytkcbknjmpfgimaa
open Go.ChangeShapes Go.WideShapes Go.ChangeAt Go.RowKit Go.Joins
attribute [local go_sem ↓] Go.wp_at_zero Go.wp_at_succ

end Go.Proofs.Ytkcbknjmpfgimaa

namespace Go.Proofs.Ytkcbknjmpfgimaa
open Go.ChangeShapes Go.WideShapes Go.ChangeAt Go.RowKit Go.Joins
attribute [local go_sem ↓] Go.wp_at_zero Go.wp_at_succ

structure Only (S : Nat → Prop) (w w' : World) : Prop where
  os : w'.os = w.os
  tape : w'.tape = w.tape
  output : w'.output = w.output
  size : w'.heap.size = w.heap.size
  block : ∀ b, ¬ S b → w'.heap[b]? = w.heap[b]?
  frozen : ∀ a, w'.frozen? a = w.frozen? a

theorem Only.refl (S : Nat → Prop) (w : World) : Only S w w := ⟨rfl, rfl, rfl, rfl, fun _ _ => rfl, fun _ => rfl⟩

theorem Only.set {S : Nat → Prop} {w w' : World} (h : Only S w w') {b : Nat} (hb : S b) (o : Nat) (v : Value) : Only S w (w'.setCell ⟨b, o, none⟩ v) :=
  ⟨h.os, h.tape, h.output, by simpa using h.size, fun c hc => (Below.heap_setCell _ _ _ _ (fun e => hc (by rw [e]; exact hb))).trans (h.block c hc), fun a => by simpa using h.frozen a⟩

theorem Only.trans {S T : Nat → Prop} {w w' w'' : World} (h : Only S w w') (k : Only T w' w'') (hT : ∀ b, T b → S b) : Only S w w'' :=
  ⟨k.os.trans h.os, k.tape.trans h.tape, k.output.trans h.output, k.size.trans h.size, fun b hb => (k.block b (fun e => hb (hT b e))).trans (h.block b hb), fun a => (k.frozen a).trans (h.frozen a)⟩

theorem Only.below {S : Nat → Prop} {w w' : World} {B : Nat} (h : Only S w w') (hS : ∀ b, S b → B ≤ b) : Below B w w' :=
  ⟨h.os, h.tape, h.output, by rw [h.size]; exact Nat.le_refl _, fun b hb => h.block b (fun e => by have := hS b e; omega)⟩

def CellsAre (w : World) (b m : Nat) (f : Nat → Value) : Prop := ∀ o, o < m → w.cell? ⟨b, o, none⟩ = some (f o)

theorem CellsAre.of_block {w w' : World} {b m : Nat} {f : Nat → Value} (h : CellsAre w b m f) (hb : w'.heap[b]? = w.heap[b]?) : CellsAre w' b m f :=
  fun o ho => (World.cell?_of_block (a := ⟨b, o, none⟩) hb).trans (h o ho)

theorem CellsAre.set {w : World} {b m : Nat} {f : Nat → Value} (h : CellsAre w b m f) {o : Nat} (ho : o < m) (v : Value) : CellsAre (w.setCell ⟨b, o, none⟩ v) b m (fun j => if j = o then v else f j) := by
  intro j hj
  by_cases e : j = o
  · subst e
    simp [World.cell?_setCell_same, h j hj]
  · simp only [if_neg e]
    rw [World.cell?_setCell_other _ _ _ _ (by intro h; injection h with _ h _; exact e h.symm)]
    exact h j hj

theorem CellsAre.congr {w : World} {b m : Nat} {f f' : Nat → Value} (h : CellsAre w b m f) (he : ∀ o, o < m → f o = f' o) : CellsAre w b m f' := fun o ho => by rw [h o ho, he o ho]

def markFn (k : Int) (o : Nat) : Value := .int .i64 (k + o)

end Go.Proofs.Ytkcbknjmpfgimaa

namespace Go.Proofs.Ytkcbknjmpfgimaa

abbrev Fact := Value → World → Prop

abbrev Facts := List (Tmp × Fact)

def got (P : Program) (K : Value → World → Prop) : Result Next → Prop
  | .ok (.value v) w' => K v w'
  | .ok .skip w' => K undef w'
  | .ok (.enter f args) w' => Calls P f args w' fun e w'' => ∃ v, e = .returned v ∧ K v w''
  | _ => False

@[simp] def factOf (x : Tmp) : Facts → Fact
  | [] => fun _ _ => True
  | (d, p) :: r => if x = d then p else factOf x r

theorem factOf_eq (x : Tmp) (v : Value) (w : World) : ∀ Ts : Facts, factOf x Ts v w ↔ (match Ts.lookup x with | some p => p v w | none => True)
  | [] => Iff.rfl
  | (d, p) :: r => by
    rw [List.lookup_cons]
    by_cases h : x = d
    · subst h
      simp
    · rw [beq_eq_false_iff_ne.2 h]
      simp only [factOf, if_neg h]
      exact factOf_eq x v w r

def needs0 (Ts : Facts) (a0 : Act) (ρ : Operand → Value) (w : World) : List (Tmp × Bool) → Prop
  | [] => True
  | (x, true) :: r => (match Ts.lookup x with | some p => p (ρ (.tmp x)) w | none => True) ∧ needs0 Ts a0 ρ w r
  | (x, false) :: r => ρ (.tmp x) = a0.eval (.tmp x) ∧ needs0 Ts a0 ρ w r

@[simp] def needs (Ts : Facts) (a0 : Act) (ρ : Operand → Value) (w : World) : List (Tmp × Bool) → Prop
  | [] => True
  | (x, true) :: r => factOf x Ts (ρ (.tmp x)) w ∧ needs Ts a0 ρ w r
  | (x, false) :: r => ρ (.tmp x) = a0.tmps.getD x undef ∧ needs Ts a0 ρ w r

theorem needs_iff {Ts : Facts} {a0 : Act} {ρ : Operand → Value} {w : World} : ∀ {n : List (Tmp × Bool)}, needs Ts a0 ρ w n ↔ needs0 Ts a0 ρ w n
  | [] => Iff.rfl
  | (x, true) :: r => and_congr (factOf_eq x _ w Ts) (needs_iff (n := r))
  | (_, false) :: r => and_congr Iff.rfl (needs_iff (n := r))

def Plain (ρ : Operand → Value) : Prop := (∀ v, ρ (.const v) = v) ∧ (∀ g, ρ (.global g) = .pointer (some ⟨g, 0, none⟩)) ∧ ∀ f, ρ (.func f) = .func (.func f) #[] #[]

def obl (P : Program) (a0 : Act) (S : World → Prop) (R : World → World → Prop) (n : List (Tmp × Bool)) (o : Oper) (Ts : Facts) (T : Fact) : Prop :=
  ∀ ρ w, Plain ρ → S w → needs Ts a0 ρ w n → got P (fun v w' => R w w' ∧ T v w') ((execOp ρ o).run P w)

def lasts (R : World → World → Prop) (T : Fact) : Prop := ∀ v w w', T v w → R w w' → T v w'

theorem lasts_eq (R : World → World → Prop) (e : Value) : lasts R (fun v _ => v = e) := fun _ _ _ h _ => h

@[simp] def addFact (o : Oper) (T : Fact) (Ts : Facts) : Facts := match o.dst with | some d => (d, T) :: Ts | none => Ts

def wpSlots (P : Program) (a0 : Act) (S : World → Prop) (R : World → World → Prop) (Fin : Facts → Prop) : List (List (Tmp × Bool)) → List Oper → Facts → Prop
  | n :: N, o :: l, Ts => ∃ T : Fact, lasts R T ∧ obl P a0 S R n o Ts T ∧ wpSlots P a0 S R Fin N l (addFact o T Ts)
  | [], [], Ts => Fin Ts
  | _, _, _ => False

def distB : List Oper → List Tmp → Bool
  | [], _ => true
  | o :: l, ks => match o.dst with | some d => !ks.contains d && distB l (d :: ks) | none => distB l ks

theorem needs0_mono {Ts Tf : Facts} (h : ∀ x p, Ts.lookup x = some p → Tf.lookup x = some p) {a0 : Act} {ρ : Operand → Value} {w : World} : ∀ {n : List (Tmp × Bool)}, needs0 Tf a0 ρ w n → needs0 Ts a0 ρ w n
  | [], _ => trivial
  | (x, true) :: r, hn => by
    refine ⟨?_, needs0_mono h hn.2⟩
    have h1 := hn.1
    cases hl : Ts.lookup x with
    | none => trivial
    | some p => rw [h x p hl] at h1; exact h1
  | (x, false) :: r, hn => ⟨hn.1, needs0_mono h hn.2⟩

theorem needs_mono {Ts Tf : Facts} (h : ∀ x p, Ts.lookup x = some p → Tf.lookup x = some p) {a0 : Act} {ρ : Operand → Value} {w : World} {n : List (Tmp × Bool)} (hn : needs Tf a0 ρ w n) : needs Ts a0 ρ w n :=
  needs_iff.2 (needs0_mono h (needs_iff.1 hn))

theorem lookup_none_of {Ts : Facts} {d : Tmp} (h : (Ts.map (·.1)).contains d = false) : Ts.lookup d = none := by
  induction Ts with
  | nil => rfl
  | cons t r ih =>
    obtain ⟨k, p⟩ := t
    simp only [List.map_cons, List.contains_cons, Bool.or_eq_false_iff, beq_eq_false_iff_ne] at h
    rw [List.lookup_cons, beq_eq_false_iff_ne.2 h.1]
    exact ih h.2

theorem collect {P : Program} {a0 : Act} {S : World → Prop} {R : World → World → Prop} {Fin : Facts → Prop} : ∀ (N : List (List (Tmp × Bool))) (l : List Oper) (Ts : Facts), wpSlots P a0 S R Fin N l Ts → distB l (Ts.map (·.1)) = true →
    ∃ Tf, Fin Tf ∧ (∀ x p, Ts.lookup x = some p → Tf.lookup x = some p) ∧ (∀ d p, (d, p) ∈ Tf → (d, p) ∈ Ts ∨ (Tf.lookup d = some p ∧ ∃ (k : Nat) (o : Oper), l[k]? = some o ∧ o.dst = some d)) ∧ ∀ (k : Nat) (n : List (Tmp × Bool)) (o : Oper), N[k]? = some n → l[k]? = some o → ∃ T : Fact, lasts R T ∧ obl P a0 S R n o Tf T ∧ ∀ d, o.dst = some d → Tf.lookup d = some T
  | [], [], Ts, h, _ => ⟨Ts, h, fun _ _ h => h, fun _ _ h => .inl h, fun k n o hn _ => by simp at hn⟩
  | [], _ :: _, _, h, _ => h.elim
  | _ :: _, [], _, h, _ => h.elim
  | n :: N, o :: l, Ts, h, hd => by
    obtain ⟨T, hl, ho, hrest⟩ := h
    have hsub : ∀ x p, Ts.lookup x = some p → (addFact o T Ts).lookup x = some p := by
      intro x p hx
      unfold addFact
      cases hod : o.dst with
      | none => exact hx
      | some d =>
        simp only [distB, hod, Bool.and_eq_true, Bool.not_eq_true'] at hd
        have hne : x ≠ d := fun e => by rw [e, lookup_none_of hd.1] at hx; cases hx
        rw [List.lookup_cons, beq_eq_false_iff_ne.2 hne]
        exact hx
    have hd' : distB l ((addFact o T Ts).map (·.1)) = true := by
      unfold addFact
      cases hod : o.dst with
      | none => simpa [distB, hod] using hd
      | some d =>
        simp only [distB, hod, Bool.and_eq_true] at hd
        simpa using hd.2
    obtain ⟨Tf, hfin, hmono, hmem, hall⟩ := collect N l (addFact o T Ts) hrest hd'
    have hhead : ∀ d, o.dst = some d → Tf.lookup d = some T := fun d hod => hmono d T (by unfold addFact; rw [hod]; simp)
    refine ⟨Tf, hfin, fun x p hx => hmono x p (hsub x p hx), fun d p hdp => ?_, fun k n' o' hn ho' => ?_⟩
    · rcases hmem d p hdp with h1 | ⟨h1, k, o', hk, hod⟩
      · unfold addFact at h1
        cases hod : o.dst with
        | none => rw [hod] at h1; exact .inl h1
        | some d' =>
          rw [hod] at h1
          rcases List.mem_cons.1 h1 with h2 | h2
          · obtain ⟨rfl, rfl⟩ := Prod.mk.inj h2
            exact .inr ⟨hhead _ hod, 0, o, rfl, hod⟩
          · exact .inl h2
      · exact .inr ⟨h1, k + 1, o', by simpa using hk, hod⟩
    cases k with
    | zero =>
      simp only [List.getElem?_cons_zero, Option.some.injEq] at hn ho'
      subst hn ho'
      refine ⟨T, hl, fun ρ w hp hS hn => ho ρ w hp hS (needs_mono (fun x p hx => hmono x p (hsub x p hx)) hn), hhead⟩
    | succ k =>
      exact hall k n' o' (by simpa using hn) (by simpa using ho')

@[simp] def factsAt (vs : Tmp → Value) (w : World) : Facts → Prop
  | [] => True
  | (d, p) :: r => p (vs d) w ∧ factsAt vs w r

@[simp] def putAll (vs : Tmp → Value) : List Oper → Act → Act
  | [], a => a
  | o :: l, a => putAll vs l (match o.dst with | some d => a.put (some d) (vs d) | none => a)

def waits (o : Oper) (i : Nat) : Bool := o.after.any fun e => Region.binds .any e && e.on == i

def tabRowB (ops : Array Oper) (j : Nat) (o : Oper) : List (Tmp × Bool) → Bool
  | [] => true
  | (x, true) :: r => (o.after.any fun e => Region.binds .any e && ((ops[e.on]?).bind (·.dst) == some x)) && tabRowB ops j o r
  | (x, false) :: r => ((List.range ops.size).all fun i => match ops[i]? with | some oi => !(oi.dst == some x) || i == j || waits oi j | none => true) && tabRowB ops j o r

def cover (ops : Array Oper) : List Nat → List Nat → List Nat
  | [], cov => cov
  | j :: r, cov => cover ops r (if cov.contains j then cov ++ (match ops[j]? with | some o => (o.after.toList.filter fun e => Region.binds .any e).map (·.on) | none => []) else cov)

def sealB (ops : Array Oper) (m : Nat) : Bool :=
  (List.range ops.size).all fun i => decide (i < m) || (match ops[i]? with
    | some o => (List.range i).all fun j => (cover ops (List.range i).reverse ((o.after.toList.filter fun e => Region.binds .any e).map (·.on))).contains j
    | none => false)

def tidyB (ops : Array Oper) (m : Nat) (N : List (List (Tmp × Bool))) : Bool :=
  distB (ops.toList.take m) [] && ((ops.toList.take m).all fun o => o.guard.isNone) && (N.length == m) && decide (m ≤ ops.size) && sealB ops m &&
  ((List.range ops.size).all fun j => match ops[j]? with
    | some o => (o.after.all fun e => !Region.binds .any e || decide (e.on < j)) && (match N[j]? with | some n => tabRowB ops j o n | none => true)
    | _ => false)

structure Inv (ops : Array Oper) (a0 : Act) (S : World → Prop) (Tf : Facts) (listed : Array Bool) (a : Act) (w : World) : Prop where
  size : listed.size = ops.size
  ok : S w
  defers : a.defers = a0.defers
  len : a.tmps.size = a0.tmps.size
  down : ∀ i o, ops[i]? = some o → listed.getD i false = true → ∀ e ∈ o.after, Region.binds .any e = true → listed.getD e.on false = true
  fresh : ∀ i o d p, ops[i]? = some o → listed.getD i false = true → o.dst = some d → Tf.lookup d = some p → p (a.eval (.tmp d)) w
  old : ∀ x, (∀ i o, ops[i]? = some o → listed.getD i false = true → o.dst ≠ some x) → a.eval (.tmp x) = a0.eval (.tmp x)

theorem plain_eval (a : Act) : Plain a.eval := ⟨fun _ => rfl, fun _ => rfl, fun _ => rfl⟩

theorem listed_ne {listed : Array Bool} {n : Nat} (hs : listed.size = n) {i : Nat} (hi : i < n) (h : listed.getD i true = false) : listed.getD i false = false := by
  have hlt : i < listed.size := by omega
  simp [hlt] at h ⊢
  exact h

theorem needs_of {ops : Array Oper} {a0 : Act} {S : World → Prop} {Tf : Facts} {listed : Array Bool} {a : Act} {w : World} (hI : Inv ops a0 S Tf listed a w) {j : Nat} {o : Oper} (hj : ops[j]? = some o) (hun : listed.getD j false = false)
    (hall : ∀ e ∈ o.after, Region.binds .any e = true → listed.getD e.on false = true) : ∀ (n : List (Tmp × Bool)), tabRowB ops j o n = true → needs0 Tf a0 a.eval w n
  | [], _ => trivial
  | (x, true) :: r, h => by
    simp only [tabRowB, Bool.and_eq_true] at h
    refine ⟨?_, needs_of hI hj hun hall r h.2⟩
    cases hl : Tf.lookup x with
    | none => trivial
    | some p =>
      obtain ⟨e, he, hb⟩ := Array.any_eq_true'.1 h.1
      simp only [Bool.and_eq_true, beq_iff_eq] at hb
      obtain ⟨oi, hoi, hdi⟩ := Option.bind_eq_some_iff.1 hb.2
      exact hI.fresh e.on oi x p hoi (hall e he hb.1) hdi hl
  | (x, false) :: r, h => by
    simp only [tabRowB, Bool.and_eq_true] at h
    refine ⟨hI.old x fun i oi hoi hli hdi => ?_, needs_of hI hj hun hall r h.2⟩
    have hlt : i < ops.size := (Array.getElem?_eq_some_iff.1 hoi).1
    have h1 := List.all_eq_true.1 h.1 i (List.mem_range.2 hlt)
    simp only [hoi, hdi, beq_self_eq_true, Bool.not_true, Bool.false_or, Bool.or_eq_true, beq_iff_eq] at h1
    rcases h1 with rfl | hw
    · rw [hun] at hli
      cases hli
    · obtain ⟨e, he, hb⟩ := Array.any_eq_true'.1 hw
      simp only [Bool.and_eq_true, beq_iff_eq] at hb
      have := hI.down i oi hoi hli e he hb.1
      rw [hb.2, hun] at this
      cases this

theorem upon_of_got {P : Program} {o : Oper} {a : Act} {K : Act → World → Prop} {Q : Exit → Act → World → Prop} {r : Result Next} (h : got P (fun v w' => K (a.put o.dst v) w') r) : o.upon P a K Q r := by
  cases r with
  | ok n w' =>
    cases n <;> simp only [got] at h <;> simp only [Oper.upon]
    case value v => exact h
    case skip => exact h
    case enter f args => exact Calls.mono h fun e w'' ⟨v, he, hk⟩ => by subst he; exact hk
  | halt x w' => simp only [got] at h

theorem got_mono {P : Program} {K K' : Value → World → Prop} {r : Result Next} (hk : ∀ v w, K v w → K' v w) (h : got P K r) : got P K' r := by
  cases r with
  | ok n w' =>
    cases n <;> simp only [got] at h ⊢
    case value v => exact hk _ _ h
    case skip => exact hk _ _ h
    case enter f args => exact Calls.mono h fun e w'' ⟨v, he, hv⟩ => ⟨v, he, hk _ _ hv⟩
  | halt x w' => simp only [got] at h

theorem putA_len (a : Act) (d : Option Tmp) (v : Value) : (a.put d v).tmps.size = a.tmps.size := by
  cases d <;> simp [Act.put]

theorem put_def (a : Act) (d : Option Tmp) (v : Value) : (a.put d v).defers = a.defers := by
  cases d <;> simp [Act.put]

theorem put_at (a : Act) (d : Tmp) (v : Value) (h : d < a.tmps.size) : (a.put (some d) v).eval (.tmp d) = v := by
  simp [Act.put, Act.eval, h]

theorem put_off (a : Act) (d : Option Tmp) (x : Tmp) (v : Value) (h : d ≠ some x) : (a.put d v).eval (.tmp x) = a.eval (.tmp x) :=
  Act.eval_put fun d' hd e => h (by injection e with e; rw [hd, e])

theorem inv_step {ops : Array Oper} {a0 : Act} {S S' : World → Prop} {R : World → World → Prop} {Tf : Facts} (hS : ∀ w w', S w → R w w' → S' w') (hl : ∀ d p, Tf.lookup d = some p → lasts R p)
    (hbd : ∀ (i : Nat) (o : Oper) (d : Tmp), ops[i]? = some o → o.dst = some d → d < a0.tmps.size) {listed : Array Bool} {a : Act} {w w' : World} (hI : Inv ops a0 S Tf listed a w) {j : Nat} {o : Oper} (hj : ops[j]? = some o)
    (hall : ∀ e ∈ o.after, Region.binds .any e = true → listed.getD e.on false = true) {T : Fact} (hT : ∀ d, o.dst = some d → Tf.lookup d = some T) {v : Value} (hR : R w w') (hv : T v w') :
    Inv ops a0 S' Tf (listed.setIfInBounds j true) (a.put o.dst v) w' where
  size := by simpa using hI.size
  ok := hS _ _ hI.ok hR
  defers := (put_def _ _ _).trans hI.defers
  len := (putA_len _ _ _).trans hI.len
  down := by
    intro i oi hoi hli e he hb
    by_cases hij : j = i
    · subst hij
      obtain rfl := Option.some.inj (hj.symm.trans hoi)
      exact getD_set_true (hall e he hb)
    · rw [getD_set_ne false hij] at hli
      exact getD_set_true (hI.down i oi hoi hli e he hb)
  fresh := by
    intro i oi d p hoi hli hdi hp
    by_cases hd : o.dst = some d
    · rw [hd, put_at _ _ _ (by rw [hI.len]; exact hbd j o d hj hd)]
      obtain rfl := Option.some.inj ((hT d hd).symm.trans hp)
      exact hv
    · have hij : j ≠ i := fun e => by
        subst e
        obtain rfl := Option.some.inj (hj.symm.trans hoi)
        exact hd hdi
      rw [getD_set_ne false hij] at hli
      rw [put_off _ _ _ _ hd]
      exact hl d p hp _ _ _ (hI.fresh i oi d p hoi hli hdi hp) hR
  old := by
    intro x hx
    have hd : o.dst ≠ some x := hx j o hj (by
      have hlt : j < listed.size := by rw [hI.size]; exact (Array.getElem?_eq_some_iff.1 hj).1
      simp [hlt])
    rw [put_off _ _ _ _ hd]
    exact hI.old x fun i oi hoi hli => hx i oi hoi (getD_set_true hli)

theorem count_set {l : Array Bool} {j : Nat} (hj : j < l.size) (h : l.getD j true = false) : (l.setIfInBounds j true).toList.count false + 1 = l.toList.count false := by
  have hf : l[j] = false := by simpa [hj] using h
  have h1 : (l.setIfInBounds j true).toList = l.toList.set j true := by simp
  have hj' : j < l.toList.length := by simpa using hj
  have hm : l.toList[j] = false := by simpa using hf
  rw [h1, List.count_set hj', hm]
  have : 0 < l.toList.count false := List.count_pos_iff.2 (by rw [← hm]; exact List.getElem_mem hj')
  have e1 : (if ((false : Bool) == false) = true then 1 else 0 : Nat) = 1 := rfl
  have e2 : (if ((true : Bool) == false) = true then 1 else 0 : Nat) = 0 := rfl
  rw [e1, e2]
  omega

theorem cover_listed {ops : Array Oper} {listed : Array Bool} (hdown : ∀ (i : Nat) (o : Oper), ops[i]? = some o → listed.getD i false = true → ∀ e ∈ o.after, Region.binds .any e = true → listed.getD e.on false = true) :
    ∀ (js cov : List Nat), (∀ x ∈ cov, listed.getD x false = true) → ∀ x ∈ cover ops js cov, listed.getD x false = true
  | [], _, h => h
  | j :: r, cov, h => by
    refine cover_listed hdown r _ fun x hx => ?_
    split at hx
    · rename_i hc
      rcases List.mem_append.1 hx with h1 | h1
      · exact h x h1
      · cases ho : ops[j]? with
        | none => rw [ho] at h1; cases h1
        | some o =>
          rw [ho] at h1
          simp only [List.mem_map, List.mem_filter, Array.mem_toList_iff] at h1
          obtain ⟨e, ⟨he, hb⟩, rfl⟩ := h1
          exact hdown j o ho (h j (by simpa using hc)) e he hb
    · exact h x hx

theorem sealed {ops : Array Oper} {m : Nat} (h : sealB ops m = true) {listed : Array Bool} (hdown : ∀ (i : Nat) (o : Oper), ops[i]? = some o → listed.getD i false = true → ∀ e ∈ o.after, Region.binds .any e = true → listed.getD e.on false = true)
    {i : Nat} {o : Oper} (ho : ops[i]? = some o) (hi : m ≤ i) (hall : ∀ e ∈ o.after, Region.binds .any e = true → listed.getD e.on false = true) {j : Nat} (hj : j < i) : listed.getD j false = true := by
  have hlt := (Array.getElem?_eq_some_iff.1 ho).1
  have h1 := List.all_eq_true.1 h i (List.mem_range.2 hlt)
  simp only [ho, Bool.or_eq_true, decide_eq_true_eq] at h1
  rcases h1 with h1 | h1
  · omega
  · have h2 := List.all_eq_true.1 h1 j (List.mem_range.2 hj)
    refine cover_listed hdown _ _ (fun x hx => ?_) j (by simpa using h2)
    simp only [List.mem_map, List.mem_filter, Array.mem_toList_iff] at hx
    obtain ⟨e, ⟨he, hb⟩, rfl⟩ := hx
    exact hall e he hb

theorem count_drop {listed : Array Bool} {p n : Nat} (hs : listed.size = n) (hp : p ≤ n) (h1 : ∀ j, j < p → listed.getD j false = true) (h2 : ∀ j, p ≤ j → j < n → listed.getD j true = false) : listed.toList.count false = n - p := by
  have hl : listed.toList.length = n := by simpa using hs
  have e : listed.toList = List.replicate p true ++ List.replicate (n - p) false := by
    apply List.ext_getElem
    · simp only [hl, List.length_append, List.length_replicate]
      omega
    · intro j hj hj'
      have hjn : j < n := by omega
      have hj2 : j < listed.size := by omega
      by_cases hjp : j < p
      · rw [List.getElem_append_left (by simpa using hjp)]
        have := h1 j hjp
        simpa [hj2] using this
      · rw [List.getElem_append_right (by simpa using hjp)]
        have := h2 j (by omega) hjn
        simpa [hj2] using this
  rw [e, List.count_append, List.count_replicate, List.count_replicate]
  simp

theorem any_tail {P : Program} {ops : Array Oper} {Q : Exit → Act → World → Prop} {m : Nat} (hseal : sealB ops m = true) (hlt : ∀ (i : Nat) (o : Oper), ops[i]? = some o → ∀ e ∈ o.after, Region.binds .any e = true → e.on < i) :
    ∀ (fuel p : Nat) (listed : Array Bool) (a : Act) (w : World), m ≤ p → p + fuel = ops.size → listed.size = ops.size → (∀ j, j < p → listed.getD j false = true) → (∀ j, p ≤ j → j < ops.size → listed.getD j true = false) →
    wpList P ops Q (ops.toList.drop p) a w → wpAny P .any ops Q fuel listed a w
  | 0, p, listed, a, w, _, hp, hs, h1, _, h => by
    have hp' : p = ops.size := by omega
    subst hp'
    have hd : ops.toList.drop ops.size = [] := by simp
    rw [hd] at h
    refine ⟨?_, h⟩
    apply List.eq_nil_iff_forall_not_mem.2
    intro j hj
    obtain ⟨h0, o, ho, _⟩ := mem_ready.1 hj
    have hjlt := (Array.getElem?_eq_some_iff.1 ho).1
    have h3 := h1 j hjlt
    rw [listed_ne hs hjlt h0] at h3
    cases h3
  | fuel + 1, p, listed, a, w, hm, hp, hs, h1, h2, h => by
    have hpl : p < ops.size := by omega
    have hpo : ops[p]? = some ops[p] := by simp [hpl]
    have hd : ops.toList.drop p = ops[p] :: ops.toList.drop (p + 1) := by
      rw [List.drop_eq_getElem_cons (by simpa using hpl)]
      simp
    have hdown : ∀ (i : Nat) (o : Oper), ops[i]? = some o → listed.getD i false = true → ∀ e ∈ o.after, Region.binds .any e = true → listed.getD e.on false = true := fun i o ho hli e he hb => by
      have hip : i < p := by
        rcases Nat.lt_or_ge i p with h' | h'
        · exact h'
        · have hil := (Array.getElem?_eq_some_iff.1 ho).1
          rw [listed_ne hs hil (h2 i h' hil)] at hli
          cases hli
      exact h1 _ (Nat.lt_trans (hlt i o ho e he hb) hip)
    refine ⟨fun hr => ?_, fun j hj => ?_⟩
    · exfalso
      have hmem : p ∈ Region.ready .any ops listed := mem_ready.2 ⟨h2 p (Nat.le_refl _) hpl, _, hpo, fun e he hb => h1 _ (hlt p _ hpo e he hb)⟩
      rw [hr] at hmem
      cases hmem
    · obtain ⟨h0, o, ho, hall⟩ := mem_ready.1 hj
      have hjlt := (Array.getElem?_eq_some_iff.1 ho).1
      have hjp : p ≤ j := by
        rcases Nat.lt_or_ge j p with h' | h'
        · have h3 := h1 j h'
          rw [listed_ne hs hjlt h0] at h3
          cases h3
        · exact h'
      have hj2 : j = p := by
        rcases Nat.lt_or_ge p j with h' | h'
        · have h3 := sealed hseal hdown ho (Nat.le_trans hm hjp) hall h'
          rw [listed_ne hs hpl (h2 p (Nat.le_refl _) hpl)] at h3
          cases h3
        · omega
      subst hj2
      rw [hd] at h
      have key : ∀ a' w', wpList P ops Q (ops.toList.drop (j + 1)) a' w' → wpAny P .any ops Q fuel (listed.setIfInBounds j true) a' w' := fun a' w' h' =>
        any_tail hseal hlt fuel (j + 1) _ a' w' (by omega) (by omega) (by simpa using hs) (fun i hi => by
          by_cases hij : j = i
          · subst hij
            simp [hs, hjlt]
          · rw [getD_set_ne false hij]
            exact h1 i (by omega)) (fun i hi hi2 => by rw [getD_set_ne true (by omega)]; exact h2 i (by omega) hi2) h'
      unfold wpOp
      rw [hpo]
      unfold wpList at h
      split at h
      · rename_i hw
        simp only [hw, if_true]
        exact h.imp (Oper.wp_mono key) id
      · rename_i hw
        simp only [hw]
        exact key _ _ h

theorem any_slots {P : Program} {ops : Array Oper} {a0 : Act} {S SF : World → Prop} {SS : Nat → World → Prop} {R : World → World → Prop} {Tf : Facts} {Q : Exit → Act → World → Prop} {m : Nat} (hmle : m ≤ ops.size) (hseal : sealB ops m = true) (hstep : ∀ f w w', SS (f + 1) w → R w w' → SS f w') (hSS : ∀ f w, f < ops.size → SS (f + 1) w → S w) (hF : ∀ f w, f ≤ ops.size → SS f w → SF w) (hl : ∀ d p, Tf.lookup d = some p → lasts R p)
    (hbd : ∀ (i : Nat) (o : Oper) (d : Tmp), ops[i]? = some o → o.dst = some d → d < a0.tmps.size) (hg : ∀ (i : Nat) (o : Oper), i < m → ops[i]? = some o → o.guard = none) (hlt : ∀ (i : Nat) (o : Oper), ops[i]? = some o → ∀ e ∈ o.after, Region.binds .any e = true → e.on < i)
    (hobl : ∀ (j : Nat) (o : Oper), j < m → ops[j]? = some o → ∃ n T, tabRowB ops j o n = true ∧ obl P a0 S R n o Tf T ∧ ∀ d, o.dst = some d → Tf.lookup d = some T)
    (hfin : ∀ a w, SF w → a.defers = a0.defers → a.tmps.size = a0.tmps.size → (∀ (i : Nat) (o : Oper) (d : Tmp) p, i < m → ops[i]? = some o → o.dst = some d → Tf.lookup d = some p → p (a.eval (.tmp d)) w) → (∀ x, (∀ (i : Nat) (o : Oper), i < m → ops[i]? = some o → o.dst ≠ some x) → a.eval (.tmp x) = a0.eval (.tmp x)) → wpList P ops Q (ops.toList.drop m) a w) :
    ∀ (fuel : Nat) (listed : Array Bool) (a : Act) (w : World), listed.toList.count false = fuel → (∀ j, m ≤ j → j < ops.size → listed.getD j true = false) → Inv ops a0 (SS fuel) Tf listed a w → wpAny P .any ops Q fuel listed a w := by
  intro fuel
  induction fuel with
  | zero =>
    intro listed a w hc hm2 hI
    have hno : ∀ i, i < ops.size → listed.getD i false = true := fun i hi => by
      have hi' : i < listed.size := by rw [hI.size]; exact hi
      have : listed[i] ≠ false := fun h => by
        have := List.count_eq_zero.1 hc
        exact this (by rw [← h]; simp)
      simpa [hi'] using this
    have hms : m = ops.size := by
      rcases Nat.lt_or_ge m ops.size with h' | h'
      · have h3 := hno m h'
        rw [listed_ne hI.size h' (hm2 m (Nat.le_refl _) h')] at h3
        cases h3
      · omega
    refine any_tail hseal hlt 0 m listed a w (Nat.le_refl _) (by omega) hI.size (fun j hj => hno j (by omega)) hm2 ?_
    exact hfin a w (hF 0 w (Nat.zero_le _) hI.ok) hI.defers hI.len (fun i o d p _ ho hd hp => hI.fresh i o d p ho (hno i (Array.getElem?_eq_some_iff.1 ho).1) hd hp) (fun x hx => hI.old x fun i o ho _ => hx i o (by rw [hms]; exact (Array.getElem?_eq_some_iff.1 ho).1) ho)
  | succ fuel ih =>
    intro listed a w hc hm2 hI
    by_cases hdone : ∀ j, j < m → listed.getD j false = true
    · have hcnt := count_drop hI.size hmle hdone hm2
      refine any_tail hseal hlt (fuel + 1) m listed a w (Nat.le_refl _) (by omega) hI.size hdone hm2 ?_
      refine hfin a w (hF _ w (by have := List.count_le_length (a := false) (l := listed.toList); rw [hc, Array.length_toList, hI.size] at this; exact this) hI.ok) hI.defers hI.len (fun i o d p hi ho hd hp => hI.fresh i o d p ho (hdone i hi) hd hp) (fun x hx => hI.old x fun i o ho hli => ?_)
      refine hx i o ?_ ho
      rcases Nat.lt_or_ge i m with h' | h'
      · exact h'
      · have hil := (Array.getElem?_eq_some_iff.1 ho).1
        rw [listed_ne hI.size hil (hm2 i h' hil)] at hli
        cases hli
    · refine ⟨fun hr => absurd ?_ hdone, fun j hj => ?_⟩
      · -- the first that has not come up may come up
        have hall : ∀ k, k ≤ m → ∀ i, i < k → listed.getD i false = true := by
          intro k
          induction k with
          | zero => intro _ i hi; omega
          | succ k ihk =>
            intro hk i hi
            by_cases hik : i < k
            · exact ihk (by omega) i hik
            · have : i = k := by omega
              subst this
              have hi' : i < ops.size := by omega
              cases hb : listed.getD i true with
              | true =>
                have hi2 : i < listed.size := by rw [hI.size]; exact hi'
                simpa [hi2] using hb
              | false =>
                have hmem : i ∈ Region.ready .any ops listed := mem_ready.2 ⟨hb, ops[i], by simp [hi'], fun e he hbi => ihk (by omega) e.on (hlt i _ (by simp [hi']) e he hbi)⟩
                rw [hr] at hmem
                cases hmem
        exact hall m (Nat.le_refl _)
      · obtain ⟨h0, o, ho, hall⟩ := mem_ready.1 hj
        have hjlt := (Array.getElem?_eq_some_iff.1 ho).1
        have hjm : j < m := by
          rcases Nat.lt_or_ge j m with h' | h'
          · exact h'
          · exact absurd (fun i hi => sealed hseal hI.down ho h' hall (Nat.lt_of_lt_of_le hi h')) hdone
        obtain ⟨n, T, htab, hob, hT⟩ := hobl j o hjm ho
        have hun := listed_ne hI.size hjlt h0
        have hgot := hob a.eval w (plain_eval a) (hSS fuel w (by have := List.count_le_length (a := false) (l := listed.toList); rw [hc, Array.length_toList, hI.size] at this; exact this) hI.ok) (needs_iff.2 (needs_of hI ho hun hall n htab))
        unfold wpOp
        simp only [ho]
        rw [if_pos (by simp [Region.wanted, hg j o hjm ho])]
        refine .inl (upon_of_got (got_mono (fun v w' ⟨hR, hv⟩ => ?_) hgot))
        have hI' := inv_step (hstep fuel) hl hbd hI ho hall hT hR hv
        refine ih _ _ _ ?_ (fun i hi hi2 => by rw [getD_set_ne true (by omega)]; exact hm2 i hi hi2) hI'
        have hcs := count_set (by rw [hI.size]; exact hjlt) h0
        omega

theorem lookup_mem {d : Tmp} {p : Fact} : ∀ {Tf : Facts}, Tf.lookup d = some p → (d, p) ∈ Tf
  | [], h => by cases h
  | (k, q) :: r, h => by
    rw [List.lookup_cons] at h
    cases hk : (d == k) with
    | true =>
      rw [hk] at h
      obtain rfl := Option.some.inj h
      rw [beq_iff_eq] at hk
      subst hk
      simp
    | false =>
      rw [hk] at h
      exact List.mem_cons_of_mem _ (lookup_mem h)

theorem rep_false (n i : Nat) : (Array.replicate n false).getD i false = false := by
  by_cases h : i < n <;> simp [h]

theorem factsAt_of {vs : Tmp → Value} {w : World} : ∀ {Tf : Facts}, (∀ d p, (d, p) ∈ Tf → p (vs d) w) → factsAt vs w Tf
  | [], _ => trivial
  | (d, p) :: r, h => ⟨h d p (by simp), factsAt_of fun d' p' h' => h d' p' (List.mem_cons_of_mem _ h')⟩

theorem putAll_spec (vs : Tmp → Value) : ∀ (l : List Oper) (a : Act), (∀ o ∈ l, ∀ d, o.dst = some d → d < a.tmps.size) →
    (putAll vs l a).defers = a.defers ∧ (putAll vs l a).tmps.size = a.tmps.size ∧ ∀ x, ((∃ o ∈ l, o.dst = some x) → (putAll vs l a).eval (.tmp x) = vs x) ∧ ((¬ ∃ o ∈ l, o.dst = some x) → (putAll vs l a).eval (.tmp x) = a.eval (.tmp x))
  | [], a, _ => ⟨rfl, rfl, fun x => ⟨fun h => (by obtain ⟨o, ho, _⟩ := h; cases ho), fun _ => rfl⟩⟩
  | o :: l, a, hb => by
    cases hd : o.dst with
    | none =>
      have e : putAll vs (o :: l) a = putAll vs l a := by simp [putAll, hd]
      obtain ⟨h1, h2, h3⟩ := putAll_spec vs l a (fun o' ho' => hb o' (List.mem_cons_of_mem _ ho'))
      rw [e]
      refine ⟨h1, h2, fun x => ⟨?_, ?_⟩⟩
      · rintro ⟨o', ho', hx⟩
        rcases List.mem_cons.1 ho' with rfl | ho'
        · rw [hd] at hx; cases hx
        · exact (h3 x).1 ⟨o', ho', hx⟩
      · intro hno
        exact (h3 x).2 fun ⟨o', ho', hx⟩ => hno ⟨o', List.mem_cons_of_mem _ ho', hx⟩
    | some d =>
      have e : putAll vs (o :: l) a = putAll vs l (a.put (some d) (vs d)) := by simp [putAll, hd]
      have hdl : d < a.tmps.size := hb o (by simp) d hd
      obtain ⟨h1, h2, h3⟩ := putAll_spec vs l (a.put (some d) (vs d)) (fun o' ho' d' hd' => by rw [putA_len]; exact hb o' (List.mem_cons_of_mem _ ho') d' hd')
      rw [e]
      refine ⟨h1.trans (put_def _ _ _), h2.trans (putA_len _ _ _), fun x => ⟨?_, ?_⟩⟩
      · rintro ⟨o', ho', hx⟩
        by_cases hin : ∃ o ∈ l, o.dst = some x
        · exact (h3 x).1 hin
        · rw [(h3 x).2 hin]
          rcases List.mem_cons.1 ho' with rfl | ho'
          · obtain rfl := Option.some.inj (hd.symm.trans hx)
            exact put_at _ _ _ hdl
          · exact absurd ⟨o', ho', hx⟩ hin
      · intro hno
        rw [(h3 x).2 fun ⟨o', ho', hx⟩ => hno ⟨o', List.mem_cons_of_mem _ ho', hx⟩]
        exact put_off _ _ _ _ fun e => hno ⟨o, by simp, by rw [hd]; exact e⟩

theorem act_ext {a b : Act} (hd : a.defers = b.defers) (hl : a.tmps.size = b.tmps.size) (h : ∀ x, a.eval (.tmp x) = b.eval (.tmp x)) : a = b := by
  obtain ⟨ta, da⟩ := a
  obtain ⟨tb, db⟩ := b
  simp only at hd hl
  subst hd
  congr 1
  refine Array.ext hl fun i h1 h2 => ?_
  have := h i
  simpa [Act.eval, h1, h2] using this

theorem wp_region_slots_n {P : Program} {id : Nat} {Q : Exit → Act → World → Prop} {a0 : Act} {w0 : World} {all : List Oper} (m : Nat) (N : List (List (Tmp × Bool))) (S SF : World → Prop) (SS : Nat → World → Prop) (R : World → World → Prop)
    (hm : P.follows .mixedOrders = true) (hB : tidyB all.toArray m N = true) (hz : (all.all fun o => match o.dst with | some d => decide (d < a0.tmps.size) | none => true) = true)
    (h0 : SS all.length w0.drew) (hstep : ∀ f w w', SS (f + 1) w → R w w' → SS f w') (hSS : ∀ f w, f < all.length → SS (f + 1) w → S w) (hF : ∀ f w, f ≤ all.length → SS f w → SF w)
    (h : wpSlots P a0 S R (fun Ts => ∀ vs w, SF w → factsAt vs w Ts → wpList P all.toArray Q (all.drop m) (putAll vs (all.take m) a0) w) N (all.take m) []) : (Code.region id all.toArray true).wp P Q a0 w0 := by
  simp only [tidyB, Bool.and_eq_true, beq_iff_eq, decide_eq_true_eq] at hB
  obtain ⟨⟨⟨⟨⟨hdist, hguard⟩, hlen⟩, hmle⟩, hseal⟩, htab⟩ := hB
  have hops : ∀ (i : Nat) (o : Oper), all.toArray[i]? = some o → all[i]? = some o := fun i o h => by simpa using h
  have hmemo : ∀ (i : Nat) (o : Oper), all.toArray[i]? = some o → o ∈ all := fun i o h => List.mem_of_getElem? (hops i o h)
  have htk : ∀ (i : Nat) (o : Oper), i < m → all.toArray[i]? = some o → (all.take m)[i]? = some o := fun i o hi h => by rw [List.getElem?_take_of_lt hi]; exact hops i o h
  have hbd : ∀ (i : Nat) (o : Oper) (d : Tmp), all.toArray[i]? = some o → o.dst = some d → d < a0.tmps.size := fun i o d ho hd => by
    have := List.all_eq_true.1 hz o (hmemo i o ho)
    simpa [hd] using this
  obtain ⟨Tf, hfin, _, hmem, hall⟩ := collect N (all.take m) [] h (by simpa using hdist)
  have hrow : ∀ (j : Nat) (o : Oper), all.toArray[j]? = some o → (∀ e ∈ o.after, Region.binds .any e = true → e.on < j) ∧ (j < m → ∃ n, N[j]? = some n ∧ tabRowB all.toArray j o n = true) := fun j o ho => by
    have hj := (Array.getElem?_eq_some_iff.1 ho).1
    have h1 := List.all_eq_true.1 htab j (List.mem_range.2 hj)
    rw [ho] at h1
    simp only [Bool.and_eq_true] at h1
    refine ⟨fun e he hb => ?_, fun hjm => ?_⟩
    · have h2 := Array.all_eq_true'.1 h1.1 e he
      simpa [hb] using h2
    · have hjN : j < N.length := by rw [hlen]; exact hjm
      have h2 := h1.2
      rw [List.getElem?_eq_getElem hjN] at h2
      exact ⟨_, List.getElem?_eq_getElem hjN, h2⟩
  have hback : ∀ (k : Nat) (o : Oper), (all.take m)[k]? = some o → k < m ∧ all.toArray[k]? = some o := fun k o hk => by
    have hkl := (List.getElem?_eq_some_iff.1 hk).1
    have hkm : k < m := by
      rw [List.length_take] at hkl
      omega
    rw [List.getElem?_take_of_lt hkm] at hk
    exact ⟨hkm, by simpa using hk⟩
  refine wp_region_any hm ?_
  refine any_slots (m := m) (Tf := Tf) (a0 := a0) (SS := SS) (S := S) (SF := SF) hmle hseal hstep (fun f w hf => hSS f w (by simpa using hf)) (fun f w hf => hF f w (by simpa using hf)) (fun d p hp => ?_) hbd (fun i o hi ho => ?_) (fun i o ho => (hrow i o ho).1) (fun j o hj ho => ?_) (fun a w hSw hdef hsz hfr hold => ?_) _ _ _ _ ?_ ?_ ?_
  · -- each fact lasts
    rcases hmem d p (lookup_mem hp) with h1 | ⟨_, k, o, hk, hod⟩
    · cases h1
    · obtain ⟨hkm, hk'⟩ := hback k o hk
      obtain ⟨n, hn, _⟩ := (hrow k o hk').2 hkm
      obtain ⟨T, hT, _, hT2⟩ := hall k n o hn hk
      obtain rfl := Option.some.inj ((hT2 d hod).symm.trans hp)
      exact hT
  · have := List.all_eq_true.1 hguard o (List.mem_of_getElem? (htk i o hi ho))
    simpa using this
  · obtain ⟨n, hn, h1⟩ := (hrow j o ho).2 hj
    obtain ⟨T, _, hT1, hT2⟩ := hall j n o hn (htk j o hj ho)
    exact ⟨n, T, h1, hT1, hT2⟩
  · obtain ⟨p1, p2, p3⟩ := putAll_spec (fun d => a.eval (.tmp d)) (all.take m) a0 (fun o ho d hd => by
      obtain ⟨i, hi, he⟩ := List.getElem_of_mem ho
      obtain ⟨_, hi'⟩ := hback i o (by rw [List.getElem?_eq_getElem hi, he])
      exact hbd i o d hi' hd)
    have e : a = putAll (fun d => a.eval (.tmp d)) (all.take m) a0 := by
      refine act_ext (hdef.trans p1.symm) (hsz.trans p2.symm) fun x => ?_
      by_cases hx : ∃ o ∈ all.take m, o.dst = some x
      · exact ((p3 x).1 hx).symm
      · rw [(p3 x).2 hx]
        exact hold x fun i o hi ho hd => hx ⟨o, List.mem_of_getElem? (htk i o hi ho), hd⟩
    rw [e]
    refine hfin _ w hSw (factsAt_of fun d p hdp => ?_)
    rcases hmem d p hdp with h1 | ⟨hlk, k, o, hk, hod⟩
    · cases h1
    · obtain ⟨hkm, hk'⟩ := hback k o hk
      exact hfr k o d p hkm hk' hod hlk
  · simp
  · intro j _ hj
    simp at hj
    simp [hj]
  · refine ⟨by simp, by simpa using h0, rfl, rfl, fun i o ho hli => ?_, fun i o d p ho hli => ?_, fun x _ => rfl⟩
    · rw [rep_false] at hli
      cases hli
    · rw [rep_false] at hli
      cases hli

theorem wp_region_slots {P : Program} {id : Nat} {Q : Exit → Act → World → Prop} {a0 : Act} {w0 : World} {all : List Oper} (m : Nat) (N : List (List (Tmp × Bool))) (S : World → Prop) (R : World → World → Prop)
    (hm : P.follows .mixedOrders = true) (hB : tidyB all.toArray m N = true) (hz : (all.all fun o => match o.dst with | some d => decide (d < a0.tmps.size) | none => true) = true)
    (h0 : S w0.drew) (hS : ∀ w w', S w → R w w' → S w')
    (h : wpSlots P a0 S R (fun Ts => ∀ vs w, S w → factsAt vs w Ts → wpList P all.toArray Q (all.drop m) (putAll vs (all.take m) a0) w) N (all.take m) []) : (Code.region id all.toArray true).wp P Q a0 w0 :=
  wp_region_slots_n m N S S (fun _ => S) R hm hB hz h0 (fun _ => hS) (fun _ _ _ h => h) (fun _ _ _ h => h) h

theorem got_call {P : Program} {K : Value → World → Prop} {f : FuncId} {args : Array Value} {w : World} {T : Ending → World → Prop} (h : Calls P f args w T) (hk : ∀ e w', T e w' → ∃ v, e = .returned v ∧ K v w') : got P K (.ok (.enter f args) w) :=
  h.mono hk

theorem slot_eq {P : Program} {a0 : Act} {S : World → Prop} {R : World → World → Prop} {Fin : Facts → Prop} {n : List (Tmp × Bool)} {N : List (List (Tmp × Bool))} {o : Oper} {l : List Oper} {Ts : Facts} {e : Value}
    (h : obl P a0 S R n o Ts (fun v _ => v = e)) (hr : wpSlots P a0 S R Fin N l (addFact o (fun v _ => v = e) Ts)) : wpSlots P a0 S R Fin (n :: N) (o :: l) Ts :=
  ⟨_, lasts_eq _ _, h, hr⟩

theorem slot_fact {P : Program} {a0 : Act} {S : World → Prop} {R : World → World → Prop} {Fin : Facts → Prop} {n : List (Tmp × Bool)} {N : List (List (Tmp × Bool))} {o : Oper} {l : List Oper} {Ts : Facts} (T : Fact) (hT : lasts R T)
    (h : obl P a0 S R n o Ts T) (hr : wpSlots P a0 S R Fin N l (addFact o T Ts)) : wpSlots P a0 S R Fin (n :: N) (o :: l) Ts :=
  ⟨T, hT, h, hr⟩

theorem slot_end {P : Program} {a0 : Act} {S : World → Prop} {R : World → World → Prop} {Fin : Facts → Prop} {Ts : Facts} (h : Fin Ts) : wpSlots P a0 S R Fin [] [] Ts := h

end Go.Proofs.Ytkcbknjmpfgimaa
