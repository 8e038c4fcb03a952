import Derived.Test.YtkcbknjmpfgimaaRows
import Derived.WalkKit
import Derived.ProofKit
import Derived.OpenShut
import Derived.BigQuiet
import Derived.Deep.QuietTactic
import Derived.Outline
import Derived.Laws.ResultCell
import Derived.Lib.SmallJoins
import Derived.ChangeOld
import Derived.Below
import Derived.Deep.Slices
import Derived.Deep.Strs
import Derived.Deep.DrawnRows
import Derived.Deep.RegionHeld3
import Derived.WalkSmall
import Derived.Deep.OwnRows
import Derived.Laws.BitsAllLaws
import Derived.Lib.Hide
import Derived.Deep.AppendLies
import Derived.Laws.OwnMore
namespace Go.Proofs.Ytkcbknjmpfgimaa
open Go.ChangeShapes Go.WideShapes Go.ChangeAt Go.RowKit

def btw (n lo hi : Int) : Bool := decide (lo ≤ n ∧ n ≤ hi)

theorem between_any (n lo hi : Int) (w : World) :
    Calls Try.prog 33 #[.int .i64 n, .int .i64 lo, .int .i64 hi] w fun e w' => e = .returned (.bool (btw n lo hi)) ∧ w' = w := by
  by_cases h1 : lo ≤ n
  · by_cases h2 : n ≤ hi
    · have e : btw n lo hi = true := by simp [btw, h1, h2]
      rw [e]
      go_enter Try.func33, Try.ntmps33
      go_wp2
      go_ret
      exact ⟨rfl, rfl⟩
    · have e : btw n lo hi = false := by simp [btw, h1, h2]
      rw [e]
      go_enter Try.func33, Try.ntmps33
      go_wp2
      go_ret
      exact ⟨rfl, rfl⟩
  · have e : btw n lo hi = false := by simp [btw, h1]
    rw [e]
    go_enter Try.func33, Try.ntmps33
    go_wp2
    go_ret
    exact ⟨rfl, rfl⟩

theorem inRange_any (n lo hi : Int) (w : World) :
    Calls Try.prog 63 #[.int .i64 n, .int .i64 lo, .int .i64 hi] w fun e w' => e = .returned (.bool (btw n lo hi)) ∧ w' = w := by
  by_cases h1 : lo ≤ n
  · by_cases h2 : n ≤ hi
    · have e : btw n lo hi = true := by simp [btw, h1, h2]
      rw [e]
      go_enter Try.func63, Try.ntmps63
      go_wp2
      go_ret
      exact ⟨rfl, rfl⟩
    · have e : btw n lo hi = false := by simp [btw, h1, h2]
      rw [e]
      go_enter Try.func63, Try.ntmps63
      go_wp2
      go_ret
      exact ⟨rfl, rfl⟩
  · have e : btw n lo hi = false := by simp [btw, h1]
    rw [e]
    go_enter Try.func63, Try.ntmps63
    go_wp2
    go_ret
    exact ⟨rfl, rfl⟩

end Go.Proofs.Ytkcbknjmpfgimaa

namespace Go.Proofs.Ytkcbknjmpfgimaa
open Go.ChangeShapes Go.WideShapes Go.ChangeAt Go.RowKit

abbrev tagV (c s q : Int) : Value := .agg #[.int .i64 c, .int .i64 s, .int .i64 q]

def tagOkB (c s q : Int) : Bool := btw c 1 100000 && (btw s 0 3 && btw q 1 1000)

set_option maxHeartbeats 400000 in
theorem specTagOk_any (c s q : Int) (w : World) :
    Calls Try.prog 32 #[tagV c s q] w fun e w' => e = .returned (.bool (tagOkB c s q)) ∧ Below w.heap.size w w' := by
  cases h1 : btw c 1 100000 <;> cases h2 : btw s 0 3 <;> cases h3 : btw q 1 1000
  all_goals
    have e : tagOkB c s q = (btw c 1 100000 && (btw s 0 3 && btw q 1 1000)) := rfl
    rw [h1, h2, h3] at e
    simp only [Bool.and_true, Bool.and_false] at e
    rw [e]
    clear e
    go_enter Try.func32, Try.ntmps32
    go_wp2_with (go_at_call 33; refine (between_any _ _ _ _).mono ?_; rintro e w' ⟨rfl, rfl⟩)
    go_ret
    exact ⟨rfl, (Below.refl _ _).alloc (Nat.le_refl _) _⟩

set_option maxHeartbeats 400000 in
theorem implTagOk_any (c s q : Int) (w : World) :
    Calls Try.prog 52 #[tagV c s q] w fun e w' => e = .returned (.bool (tagOkB c s q)) ∧ Below w.heap.size w w' := by
  cases h1 : btw c 1 100000 <;> cases h2 : btw s 0 3 <;> cases h3 : btw q 1 1000
  all_goals
    have e : tagOkB c s q = (btw c 1 100000 && (btw s 0 3 && btw q 1 1000)) := rfl
    rw [h1, h2, h3] at e
    simp only [Bool.and_true, Bool.and_false] at e
    rw [e]
    clear e
    go_enter Try.func52, Try.ntmps52
    go_wp2_with (go_at_call 63; refine (inRange_any _ _ _ _).mono ?_; rintro e w' ⟨rfl, rfl⟩)
    go_ret
    exact ⟨rfl, (Below.refl _ _).alloc (Nat.le_refl _) _⟩

set_option maxHeartbeats 400000 in
theorem toTag_any (c s q : Int) (w : World) :
    Calls Try.prog 23 #[tagV c s q] w fun e w' => e = .returned (tagV c s q) ∧ Below w.heap.size w w' := by
  go_enter Try.func23, Try.ntmps23
  go_wp2
  exact bodyPost_ret (v := tagV c s q) (by simp [results, Try.results23, go_sem]) rfl ⟨rfl, (((Below.refl _ _).alloc (Nat.le_refl _) _).alloc (by simp) _).alloc (by simp; omega) _⟩

end Go.Proofs.Ytkcbknjmpfgimaa

namespace Go.Proofs.Ytkcbknjmpfgimaa
open Go.ChangeShapes Go.WideShapes Go.ChangeAt Go.RowKit Go.Joins

theorem own : ownKnob Try.prog.godebug = none := by kernel_rfl

theorem laidOut : laidOutB Try.prog = true := by kernel_rfl

theorem bcell {W w1 : World} (hb : Below W.heap.size W w1) : (∀ b o, b < W.heap.size → w1.cell? ⟨b, o, none⟩ = W.cell? ⟨b, o, none⟩) ∧ (∀ b o, b < W.heap.size → w1.frozen? ⟨b, o, none⟩ = W.frozen? ⟨b, o, none⟩) :=
  ⟨fun b o h => hb.cell (p := ⟨b, o, none⟩) h, fun b o h => hb.frozen (p := ⟨b, o, none⟩) h⟩

theorem below_step {B : Nat} {w w1 w2 : World} (h : Below B w w1) (hB : B ≤ w1.heap.size) (k : Below w1.heap.size w1 w2) : Below B w w2 := h.trans (k.mono hB)

theorem held_cell {W w' : World} {b o : Nat} {v : Value} (hb : Below W.heap.size W w') (h : W.cell? ⟨b, o, none⟩ = some v) (hz : b < W.heap.size) : w'.cell? ⟨b, o, none⟩ = some v :=
  (hb.cell (p := ⟨b, o, none⟩) hz).trans h

end Go.Proofs.Ytkcbknjmpfgimaa

namespace Go.Proofs.Ytkcbknjmpfgimaa

def sgn (a b : Int) : Int := if a < b then -1 else if b < a then 1 else 0

def tcmp (c s q c' s' q' : Int) : Int := if c ≠ c' then sgn c c' else if s ≠ s' then sgn s s' else sgn q q'

def orI : List Int → Int
  | [] => 0
  | x :: r => if x ≠ 0 then x else orI r

theorem sgn_zero {a b : Int} : sgn a b = 0 ↔ a = b := by
  unfold sgn
  split
  · omega
  · split <;> omega

theorem sgn_self (a : Int) : sgn a a = 0 := sgn_zero.2 rfl

theorem sgn_bd (a b : Int) : -1 ≤ sgn a b ∧ sgn a b ≤ 1 := by
  unfold sgn
  split
  · omega
  · split <;> omega

theorem sgn_neg (a b : Int) : sgn b a = - sgn a b := by
  unfold sgn
  rcases Int.lt_trichotomy a b with h | h | h
  · have h' : ¬ b < a := by omega
    rw [if_neg h', if_pos h, if_pos h]
    decide
  · subst h
    simp
  · have h' : ¬ a < b := by omega
    rw [if_pos h, if_neg h', if_pos h]

theorem orI_three (c s q c' s' q' : Int) : orI [sgn c c', sgn s s', sgn q q'] = tcmp c s q c' s' q' := by
  simp only [orI, tcmp, ne_eq, sgn_zero]
  by_cases h1 : c = c'
  · by_cases h2 : s = s'
    · by_cases h3 : q = q'
      · simp [h1, h2, h3, sgn_self]
      · simp [h1, h2, h3]
    · simp [h1, h2]
  · simp [h1]

theorem tcmp_zero {c s q c' s' q' : Int} : tcmp c s q c' s' q' = 0 ↔ (c = c' ∧ s = s' ∧ q = q') := by
  unfold tcmp
  by_cases h1 : c = c'
  · by_cases h2 : s = s'
    · simp [h1, h2, sgn_zero]
    · simp [h1, h2, sgn_zero]
  · simp [h1, sgn_zero]

theorem tcmp_self (c s q : Int) : tcmp c s q c s q = 0 := tcmp_zero.2 ⟨rfl, rfl, rfl⟩

theorem tcmp_bd (c s q c' s' q' : Int) : -1 ≤ tcmp c s q c' s' q' ∧ tcmp c s q c' s' q' ≤ 1 := by
  unfold tcmp
  split
  · exact sgn_bd _ _
  · split
    · exact sgn_bd _ _
    · exact sgn_bd _ _

end Go.Proofs.Ytkcbknjmpfgimaa

namespace Go.Proofs.Ytkcbknjmpfgimaa
open Go.ChangeShapes Go.WideShapes Go.ChangeAt Go.RowKit Go.Joins

structure Dp where
  k : Int
  c : Int
  s : Int
  q : Int

def dz : Dp := ⟨0, 0, 0, 0⟩

theorem specTagOk_is (c s q : Int) (v : Bool) (h : tagOkB c s q = v) (w : World) :
    Calls Try.prog 32 #[tagV c s q] w fun e w' => e = .returned (.bool v) ∧ Below w.heap.size w w' := by
  subst h
  exact specTagOk_any c s q w

theorem implTagOk_is (c s q : Int) (v : Bool) (h : tagOkB c s q = v) (w : World) :
    Calls Try.prog 52 #[tagV c s q] w fun e w' => e = .returned (.bool v) ∧ Below w.heap.size w w' := by
  subst h
  exact implTagOk_any c s q w

set_option maxHeartbeats 400000 in
theorem eqTag_same (c s q : Int) (w : World) :
    Calls Try.prog 66 #[tagV c s q, tagV c s q] w fun e w' => e = .returned (.bool true) ∧ Below w.heap.size w w' := by
  go_enter Try.func66, Try.ntmps66
  go_wp2
  go_ret
  exact ⟨rfl, ((Below.refl _ _).alloc (Nat.le_refl _) _).alloc (by simp) _⟩

def HoldsDeps (w : World) (b o : Nat) (xs : List Dp) : Prop :=
  ∀ i, i < xs.length → w.cell? ⟨b, o + i * 4, none⟩ = some (.int .i64 (xs.getD i dz).k) ∧ w.cell? ⟨b, o + i * 4 + 1, none⟩ = some (.int .i64 (xs.getD i dz).c) ∧
    w.cell? ⟨b, o + i * 4 + 2, none⟩ = some (.int .i64 (xs.getD i dz).s) ∧ w.cell? ⟨b, o + i * 4 + 3, none⟩ = some (.int .i64 (xs.getD i dz).q)

theorem HoldsDeps.below {w w' : World} {b o B : Nat} {xs : List Dp} (h : HoldsDeps w b o xs) (hb : Below B w w') (hB : b < B) : HoldsDeps w' b o xs := by
  intro i hi
  obtain ⟨h0, h1, h2, h3⟩ := h i hi
  exact ⟨(hb.cell (p := ⟨b, _, none⟩) hB).trans h0, (hb.cell (p := ⟨b, _, none⟩) hB).trans h1, (hb.cell (p := ⟨b, _, none⟩) hB).trans h2, (hb.cell (p := ⟨b, _, none⟩) hB).trans h3⟩

def IsDeps (w : World) (a : Option Addr) (xs : List Dp) : Prop := xs = [] ∨ ∃ b o, a = some ⟨b, o, none⟩ ∧ b < w.heap.size ∧ HoldsDeps w b o xs

theorem IsDeps.below {w w' : World} {a : Option Addr} {xs : List Dp} (h : IsDeps w a xs) (hb : Below w.heap.size w w') : IsDeps w' a xs := by
  rcases h with h | ⟨b, o, ha, hlt, hh⟩
  · exact .inl h
  · exact .inr ⟨b, o, ha, Nat.lt_of_lt_of_le hlt hb.size, hh.below hb hlt⟩

theorem IsDeps.at {w w' : World} {a : Option Addr} {xs : List Dp} (h : IsDeps w a xs) (hb : Below w.heap.size w w') {k : Nat} (hk : k < xs.length) :
    ∃ b o, a = some ⟨b, o, none⟩ ∧ b < w'.heap.size ∧ w'.cell? ⟨b, o + k * 4, none⟩ = some (.int .i64 (xs.getD k dz).k) ∧ w'.cell? ⟨b, o + k * 4 + 1, none⟩ = some (.int .i64 (xs.getD k dz).c) ∧
    w'.cell? ⟨b, o + k * 4 + 2, none⟩ = some (.int .i64 (xs.getD k dz).s) ∧ w'.cell? ⟨b, o + k * 4 + 3, none⟩ = some (.int .i64 (xs.getD k dz).q) := by
  rcases h with h | ⟨b, o, ha, hlt, hh⟩
  · subst h
    simp at hk
  · exact ⟨b, o, ha, Nat.lt_of_lt_of_le hlt hb.size, (hh.below hb hlt) k hk⟩

theorem IsDeps.cells {w w' : World} {b o : Nat} {xs : List Dp} (h : IsDeps w (some ⟨b, o, none⟩) xs) (hb : Below w.heap.size w w') {k : Nat} (hk : k < xs.length) :
    b < w'.heap.size ∧ w'.cell? ⟨b, o + k * 4, none⟩ = some (.int .i64 (xs.getD k dz).k) ∧ w'.cell? ⟨b, o + k * 4 + 1, none⟩ = some (.int .i64 (xs.getD k dz).c) ∧
    w'.cell? ⟨b, o + k * 4 + 2, none⟩ = some (.int .i64 (xs.getD k dz).s) ∧ w'.cell? ⟨b, o + k * 4 + 3, none⟩ = some (.int .i64 (xs.getD k dz).q) := by
  obtain ⟨b', o', he, h1⟩ := h.at hb hk
  injection he with he
  injection he with e1 e2
  subst e1 e2
  exact h1

end Go.Proofs.Ytkcbknjmpfgimaa

namespace Go.Proofs.Ytkcbknjmpfgimaa
open Go.ChangeShapes Go.WideShapes Go.ChangeAt Go.RowKit Go.Joins Go.Deep
set_option maxRecDepth 100000

theorem cellsInt : Try.prog.cellsOf 3 = 1 := by kernel_rfl

theorem cellsTag : Try.prog.cellsOf 43 = 3 := by kernel_rfl

section
variable {H : Type} {enc : TypeId × Value → H} {w : World} {base : Nat} {spare : Nat → Bool} {held : Bool}

theorem tag_cells {fuel : Nat} {cs : List Value} {x : DataW H × List MemPlace} (h : DataW.trod enc Try.prog w base spare held fuel 43 cs = some x) : ∃ c s q : Int, cs = [.int .i64 c, .int .i64 s, .int .i64 q] := by
  obtain ⟨y0, y1, y2, n, _, hl, h0, h1, h2⟩ := trod_struct3 Try.underlying43 h
  rw [cellsTag] at hl
  match cs, hl with
  | [v0, v1, v2], _ =>
    obtain ⟨a0, e0, _, _⟩ := DataW.trod_int Try.underlying3 h0
    obtain ⟨a1, e1, _, _⟩ := DataW.trod_int Try.underlying3 h1
    obtain ⟨a2, e2, _, _⟩ := DataW.trod_int Try.underlying3 h2
    simp [cellsInt] at e0 e1 e2
    subst e0 e1 e2
    exact ⟨a0, a1, a2, rfl⟩

theorem add_form {a : Addr} {v : Value} (h : w.cell? a = some v) : a = ⟨a.block, a.off, none⟩ := by
  cases a with
  | mk b o s =>
    cases s with
    | none => rfl
    | some s =>
      simp only [World.cell?] at h
      split at h <;> simp at h

theorem add_plain (b o i : Nat) : (Addr.mk b o none).add i = ⟨b, o + i, none⟩ := by
  unfold Addr.add
  split
  · rename_i h
    rw [h]
    rfl
  · rfl

end
end Go.Proofs.Ytkcbknjmpfgimaa

namespace Go.Proofs.Ytkcbknjmpfgimaa
open Go.RowKit

structure Aft (B : Nat) (w : World) where
  now : World
  below : Below B w now

theorem wp_region_aft {P : Program} {id : Nat} {Q : Exit → Act → World → Prop} {a : Act} {w : World} {l : List Oper} (hm : P.follows .mixedOrders = true) (hB : Region.lexB .any l.toArray = true)
    (h : wpQuiet P l.toArray (fun w' => ∃ p : Aft w.heap.size w, w' = p.now) (fun a' => ∀ w', Below w.heap.size w w' → Q .normal a' w') l a) : (Code.region id l.toArray true).wp P Q a w := by
  refine wp_region_quiet (C := fun w' => ∃ p : Aft w.heap.size w, w' = p.now) hm hB ⟨⟨w.drew, (Below.refl _ _).drew⟩, rfl⟩ ?_
  have e : (fun a' => ∀ w', (∃ p : Aft w.heap.size w, w' = p.now) → Q .normal a' w') = (fun a' => ∀ w', Below w.heap.size w w' → Q .normal a' w') := by
    funext a'
    apply propext
    constructor
    · intro hh w' hb
      exact hh w' ⟨⟨w', hb⟩, rfl⟩
    · rintro hh w' ⟨p, rfl⟩
      exact hh _ p.below
  rw [e]
  simpa using h

theorem aft_some (w : World) : Nonempty (Aft w.heap.size w) := ⟨⟨w, Below.refl _ _⟩⟩

theorem aft_of {P : Program} {f : FuncId} {args : Array Value} {w : World} {p : Aft w.heap.size w} {v : Value}
    (h : Calls P f args p.now fun e w' => e = .returned v ∧ Below p.now.heap.size p.now w') : Calls P f args p.now fun e w'' => e = .returned v ∧ ∃ p' : Aft w.heap.size w, w'' = p'.now :=
  h.mono fun _ w'' ⟨he, hb⟩ => ⟨he, ⟨w'', p.below.trans (hb.mono p.below.size)⟩, rfl⟩

theorem aft_same {P : Program} {f : FuncId} {args : Array Value} {w : World} {p : Aft w.heap.size w} {v : Value}
    (h : Calls P f args p.now fun e w' => e = .returned v ∧ w' = p.now) : Calls P f args p.now fun e w'' => e = .returned v ∧ ∃ p' : Aft w.heap.size w, w'' = p'.now :=
  h.mono fun _ _ ⟨he, hb⟩ => ⟨he, p, hb⟩

theorem aft_cell {w : World} {b o : Nat} {v : Value} (hb : b < w.heap.size) (h : w.cell? ⟨b, o, none⟩ = some v) : ∀ p : Aft w.heap.size w, p.now.cell? ⟨b, o, none⟩ = some v :=
  fun p => (p.below.cell (p := ⟨b, o, none⟩) hb).trans h

end Go.Proofs.Ytkcbknjmpfgimaa

namespace Go.Proofs.Ytkcbknjmpfgimaa
open Go.ChangeShapes Go.WideShapes Go.ChangeAt Go.RowKit Go.Joins
attribute [local go_sem ↓] Go.wp_at_zero Go.wp_at_succ

theorem ret_bool {a b : Bool} (h : a = b) : Ending.returned (.bool a) = .returned (.bool b) := by rw [h]

end Go.Proofs.Ytkcbknjmpfgimaa

namespace Go.Proofs.Ytkcbknjmpfgimaa
open Go.ChangeShapes Go.WideShapes Go.ChangeAt Go.RowKit Go.Joins
attribute [local go_sem ↓] Go.wp_at_zero Go.wp_at_succ

end Go.Proofs.Ytkcbknjmpfgimaa

namespace Go.Proofs.Ytkcbknjmpfgimaa
open Go.ChangeShapes Go.WideShapes Go.ChangeAt Go.RowKit Go.Joins

end Go.Proofs.Ytkcbknjmpfgimaa

namespace Go.Proofs.Ytkcbknjmpfgimaa
open Go.ChangeShapes Go.WideShapes Go.ChangeAt Go.RowKit

theorem sign_any (a b : Int) (w : World) :
    Calls Try.prog 61 #[.int .i64 a, .int .i64 b] w fun e w' => e = .returned (.int .i64 (sgn a b)) ∧ w' = w := by
  rcases Int.lt_trichotomy a b with h | h | h
  · have e : sgn a b = -1 := by simp [sgn, h]
    rw [e]
    go_enter Try.func61, Try.ntmps61
    go_wp2
    go_ret
    exact ⟨rfl, rfl⟩
  · subst h
    rw [sgn_self]
    go_enter Try.func61, Try.ntmps61
    go_wp2
    go_ret
    exact ⟨rfl, rfl⟩
  · have h' : ¬ a < b := by omega
    have e : sgn a b = 1 := by simp [sgn, h, h']
    rw [e]
    go_enter Try.func61, Try.ntmps61
    go_wp2
    go_ret
    exact ⟨rfl, rfl⟩

theorem isNaN_any (a : Int) (w : World) :
    Calls Try.prog 85 #[.int .i64 a] w fun e w' => e = .returned (.bool false) ∧ w' = w := by
  go_enter Try.func85, Try.ntmps85
  go_wp2
  go_ret
  exact ⟨by simp, rfl⟩

theorem compare_any (a b : Int) (w : World) :
    Calls Try.prog 76 #[.int .i64 a, .int .i64 b] w fun e w' => e = .returned (.int .i64 (sgn a b)) ∧ w' = w := by
  rcases Int.lt_trichotomy a b with h | h | h
  · have e : sgn a b = -1 := by simp [sgn, h]
    rw [e]
    go_enter Try.func76, Try.ntmps76
    go_wp2_with (go_at_call 85; refine (isNaN_any _ _).mono ?_; rintro e w' ⟨rfl, rfl⟩)
    go_ret
    exact ⟨rfl, rfl⟩
  · subst h
    rw [sgn_self]
    go_enter Try.func76, Try.ntmps76
    go_wp2_with (go_at_call 85; refine (isNaN_any _ _).mono ?_; rintro e w' ⟨rfl, rfl⟩)
    go_ret
    exact ⟨rfl, rfl⟩
  · have h' : ¬ a < b := by omega
    have e : sgn a b = 1 := by simp [sgn, h, h']
    rw [e]
    go_enter Try.func76, Try.ntmps76
    go_wp2_with (go_at_call 85; refine (isNaN_any _ _).mono ?_; rintro e w' ⟨rfl, rfl⟩)
    go_ret
    exact ⟨rfl, rfl⟩

set_option maxHeartbeats 400000 in
theorem specTagCmp_any (c s q c' s' q' : Int) (w : World) :
    Calls Try.prog 34 #[tagV c s q, tagV c' s' q'] w fun e w' => e = .returned (.int .i64 (tcmp c s q c' s' q')) ∧ Below w.heap.size w w' := by
  by_cases h1 : c = c'
  · by_cases h2 : s = s'
    · subst h1 h2
      have e : tcmp c s q c s q' = sgn q q' := by simp [tcmp]
      rw [e]
      go_enter Try.func34, Try.ntmps34
      go_wp2_with (go_at_call 61; refine (sign_any _ _ _).mono ?_; rintro e w' ⟨rfl, rfl⟩)
      go_ret
      exact ⟨rfl, ((Below.refl _ _).alloc (Nat.le_refl _) _).alloc (by simp) _⟩
    · subst h1
      have e : tcmp c s q c s' q' = sgn s s' := by simp [tcmp, h2]
      rw [e]
      have h2' : (s != s') = true := by rw [bne_iff_ne]; exact h2
      go_enter Try.func34, Try.ntmps34
      go_wp2_with (go_at_call 61; refine (sign_any _ _ _).mono ?_; rintro e w' ⟨rfl, rfl⟩)
      go_ret
      exact ⟨rfl, ((Below.refl _ _).alloc (Nat.le_refl _) _).alloc (by simp) _⟩
  · have e : tcmp c s q c' s' q' = sgn c c' := by simp [tcmp, h1]
    rw [e]
    have h1' : (c != c') = true := by rw [bne_iff_ne]; exact h1
    go_enter Try.func34, Try.ntmps34
    go_wp2_with (go_at_call 61; refine (sign_any _ _ _).mono ?_; rintro e w' ⟨rfl, rfl⟩)
    go_ret
    exact ⟨rfl, ((Below.refl _ _).alloc (Nat.le_refl _) _).alloc (by simp) _⟩

def orTo (zs : List Int) (k : Nat) : Prop := ∀ i, i < k → zs.getD i 0 = 0

theorem orI_of_first : ∀ (zs : List Int) (k : Nat), k < zs.length → (∀ i, i < k → zs.getD i 0 = 0) → zs.getD k 0 ≠ 0 → orI zs = zs.getD k 0
  | [], _, h, _, _ => by simp at h
  | x :: r, 0, _, _, hn => by
    have hn' : x ≠ 0 := hn
    simp [orI, hn']
  | x :: r, k + 1, h, hz, hn => by
    have hx : x = 0 := hz 0 (by omega)
    have := orI_of_first r k (by simpa using h) (fun i hi => by simpa using hz (i + 1) (by omega)) (by simpa using hn)
    simp [orI, hx]
    simpa using this

theorem orI_of_none : ∀ (zs : List Int), (∀ i, i < zs.length → zs.getD i 0 = 0) → orI zs = 0
  | [], _ => rfl
  | x :: r, h => by
    have hx : x = 0 := h 0 (by simp)
    have := orI_of_none r (fun i hi => by simpa using h (i + 1) (by simpa using hi))
    simp [orI, hx, this]

theorem ret_i64 {a b : Int} (h : a = b) : Ending.returned (.int .i64 a) = .returned (.int .i64 b) := by rw [h]

set_option maxHeartbeats 400000 in
theorem or_any (b : Nat) (zs : List Int) (cap : Nat) (w : World) (hn : zs.length ≤ 1000) (hcl : ∀ i, i < zs.length → w.cell? ⟨b, i, none⟩ = some (.int .i64 (zs.getD i 0))) :
    Calls Try.prog 75 #[.slice (some ⟨b, 0, none⟩) zs.length cap] w fun e w' => e = .returned (.int .i64 (orI zs)) ∧ w' = w := by
  have HC : Hid (∀ i, i < zs.length → w.cell? ⟨b, i, none⟩ = some (.int .i64 (zs.getD i 0))) := hcl
  clear hcl
  go_enter Try.func75, Try.ntmps75
  go_wp2
  go_loop [8] (fun i => ∃ k : Nat, k ≤ zs.length ∧ i = .int .i64 k ∧ orTo zs k) (fun i => zs.length - (intOf i).toNat)
  case atStart => exact ⟨0, Nat.zero_le _, rfl, fun i hi => by omega⟩
  case round =>
    obtain ⟨k, hk, rfl, HZ⟩ := hrel
    by_cases hlt : k < zs.length
    · have hcell := HC.out k hlt
      by_cases hz : zs.getD k 0 = 0
      · rw [hz] at hcell
        have HZ0 : Hid (zs.getD k 0 = 0) := hz
        clear hz
        go_wp2
        go_round
        case rel => exact ⟨k + 1, by omega, by go_num, fun i hi => by
          by_cases h : i < k
          · exact HZ i h
          · have : i = k := by omega
            rw [this]
            exact HZ0.out⟩
        case measure => simp [intOf]; omega
      · have HF : Hid (orI zs = zs.getD k 0) := orI_of_first zs k hlt HZ hz
        have hz' : (zs.getD k 0 != 0) = true := by rw [bne_iff_ne]; exact hz
        clear hz
        generalize zs.getD k 0 = z at hcell hz' HF
        go_wp2
        go_ret
        exact ⟨ret_i64 HF.out.symm, rfl⟩
    · have HF : Hid (orI zs = 0) := orI_of_none zs (fun i hi => HZ i (by omega))
      go_wp2
      go_ret
      exact ⟨ret_i64 HF.out.symm, rfl⟩

end Go.Proofs.Ytkcbknjmpfgimaa

namespace Go.Proofs.Ytkcbknjmpfgimaa
open Go.ChangeShapes Go.WideShapes Go.ChangeAt Go.RowKit Go.Joins
attribute [local go_sem ↓] Go.wp_at_zero Go.wp_at_succ

theorem HoldsDeps.set {w : World} {b o : Nat} {xs : List Dp} {a : Addr} (h : HoldsDeps w b o xs) (hne : a.block ≠ b) (v : Value) : HoldsDeps (w.setCell a v) b o xs := by
  intro i hi
  obtain ⟨h0, h1, h2, h3⟩ := h i hi
  have hn : ∀ o', a ≠ ⟨b, o', none⟩ := fun o' e => hne (by rw [e])
  exact ⟨(World.cell?_setCell_other _ _ _ _ (hn _)).trans h0, (World.cell?_setCell_other _ _ _ _ (hn _)).trans h1, (World.cell?_setCell_other _ _ _ _ (hn _)).trans h2, (World.cell?_setCell_other _ _ _ _ (hn _)).trans h3⟩

end Go.Proofs.Ytkcbknjmpfgimaa

namespace Go.Proofs.Ytkcbknjmpfgimaa
open Go.ChangeShapes Go.WideShapes Go.ChangeAt Go.RowKit Go.Joins

def ahead (xs : List Dp) (c s q : Int) (i : Nat) : Bool := decide (tcmp (xs.getD i dz).c (xs.getD i dz).s (xs.getD i dz).q c s q < 0)

structure BoxIn (w0 w : World) (k c s q v : Int) (de : Bool) (a : Option Addr) (len cap : Nat) : Prop where
  lt : w0.heap.size < w.heap.size
  below : Below w0.heap.size w0 w
  c0 : w.cell? ⟨w0.heap.size, 0, none⟩ = some (.int .i64 k)
  c1 : w.cell? ⟨w0.heap.size, 1, none⟩ = some (.int .i64 c)
  c2 : w.cell? ⟨w0.heap.size, 2, none⟩ = some (.int .i64 s)
  c3 : w.cell? ⟨w0.heap.size, 3, none⟩ = some (.int .i64 q)
  c4 : w.cell? ⟨w0.heap.size, 4, none⟩ = some (.int .i64 v)
  c5 : w.cell? ⟨w0.heap.size, 5, none⟩ = some (.bool de)
  c6 : w.cell? ⟨w0.heap.size, 6, none⟩ = some (.slice a len cap)

theorem BoxIn.step {w0 w w1 : World} {k c s q v : Int} {de : Bool} {a : Option Addr} {len cap : Nat} (h : BoxIn w0 w k c s q v de a len cap) (hb : Below w.heap.size w w1) : BoxIn w0 w1 k c s q v de a len cap where
  lt := Nat.lt_of_lt_of_le h.lt hb.size
  below := below_step h.below h.below.size hb
  c0 := held_cell hb h.c0 h.lt
  c1 := held_cell hb h.c1 h.lt
  c2 := held_cell hb h.c2 h.lt
  c3 := held_cell hb h.c3 h.lt
  c4 := held_cell hb h.c4 h.lt
  c5 := held_cell hb h.c5 h.lt
  c6 := held_cell hb h.c6 h.lt

theorem BoxIn.other {w0 w w1 : World} {k c s q v : Int} {de : Bool} {a : Option Addr} {len cap : Nat} (h : BoxIn w0 w k c s q v de a len cap) (hs : w.heap.size ≤ w1.heap.size) (hB : Below w0.heap.size w0 w1) (hc : w1.heap[w0.heap.size]? = w.heap[w0.heap.size]?) : BoxIn w0 w1 k c s q v de a len cap where
  lt := Nat.lt_of_lt_of_le h.lt hs
  below := hB
  c0 := (World.cell?_of_block (w := w) (a := ⟨w0.heap.size, 0, none⟩) hc).trans h.c0
  c1 := (World.cell?_of_block (w := w) (a := ⟨w0.heap.size, 1, none⟩) hc).trans h.c1
  c2 := (World.cell?_of_block (w := w) (a := ⟨w0.heap.size, 2, none⟩) hc).trans h.c2
  c3 := (World.cell?_of_block (w := w) (a := ⟨w0.heap.size, 3, none⟩) hc).trans h.c3
  c4 := (World.cell?_of_block (w := w) (a := ⟨w0.heap.size, 4, none⟩) hc).trans h.c4
  c5 := (World.cell?_of_block (w := w) (a := ⟨w0.heap.size, 5, none⟩) hc).trans h.c5
  c6 := (World.cell?_of_block (w := w) (a := ⟨w0.heap.size, 6, none⟩) hc).trans h.c6

end Go.Proofs.Ytkcbknjmpfgimaa

namespace Go.Proofs.Ytkcbknjmpfgimaa
open Go.ChangeShapes Go.WideShapes Go.ChangeAt Go.RowKit Go.Joins
attribute [local go_sem ↓] Go.wp_at_zero Go.wp_at_succ

structure Wr where
  k : Int
  c : Int
  s : Int
  q : Int
  v : Int
  de : Bool
  xs : List Dp

def wz : Wr := ⟨0, 0, 0, 0, 0, false, []⟩

def WrAt (w : World) (b o : Nat) (x : Wr) (a : Option Addr) (cap : Nat) : Prop :=
  w.cell? ⟨b, o, none⟩ = some (.int .i64 x.k) ∧ w.cell? ⟨b, o + 1, none⟩ = some (.int .i64 x.c) ∧ w.cell? ⟨b, o + 2, none⟩ = some (.int .i64 x.s) ∧ w.cell? ⟨b, o + 3, none⟩ = some (.int .i64 x.q) ∧
  w.cell? ⟨b, o + 4, none⟩ = some (.int .i64 x.v) ∧ w.cell? ⟨b, o + 5, none⟩ = some (.bool x.de) ∧ w.cell? ⟨b, o + 6, none⟩ = some (.slice a x.xs.length cap)

theorem WrAt.of_block {w w' : World} {b o : Nat} {x : Wr} {a : Option Addr} {cap : Nat} (h : WrAt w b o x a cap) (hb : w'.heap[b]? = w.heap[b]?) : WrAt w' b o x a cap := by
  obtain ⟨h0, h1, h2, h3, h4, h5, h6⟩ := h
  have e : ∀ i, w'.cell? ⟨b, i, none⟩ = w.cell? ⟨b, i, none⟩ := fun i => World.cell?_of_block (a := ⟨b, i, none⟩) hb
  exact ⟨(e _).trans h0, (e _).trans h1, (e _).trans h2, (e _).trans h3, (e _).trans h4, (e _).trans h5, (e _).trans h6⟩

def IsWs (w : World) (a : Option Addr) (ws : List Wr) : Prop :=
  ws = [] ∨ ∃ b o, a = some ⟨b, o, none⟩ ∧ b < w.heap.size ∧ ∀ i, i < ws.length → ∃ a' cap, WrAt w b (o + i * 7) (ws.getD i wz) a' cap ∧ (ws.getD i wz).xs.length ≤ maxLen ∧ IsDeps w a' (ws.getD i wz).xs

theorem IsWs.below {w w' : World} {a : Option Addr} {ws : List Wr} (h : IsWs w a ws) (hb : Below w.heap.size w w') : IsWs w' a ws := by
  rcases h with h | ⟨b, o, ha, hlt, hh⟩
  · exact .inl h
  · refine .inr ⟨b, o, ha, Nat.lt_of_lt_of_le hlt hb.size, fun i hi => ?_⟩
    obtain ⟨a', cap, h1, h2, h3⟩ := hh i hi
    exact ⟨a', cap, h1.of_block (hb.block _ hlt), h2, h3.below hb⟩

def HoldsWs (w : World) (b : Nat) (ws : List Wr) (γ : Nat → Nat) : Prop :=
  b < w.heap.size ∧ ∀ i, i < ws.length → (∃ cap, WrAt w b (i * 7) (ws.getD i wz) (some ⟨γ i, 0, none⟩) cap) ∧ γ i < w.heap.size ∧ HoldsDeps w (γ i) 0 (ws.getD i wz).xs

theorem HoldsWs.below {w w' : World} {b : Nat} {ws : List Wr} {γ : Nat → Nat} (h : HoldsWs w b ws γ) (hb : Below w.heap.size w w') : HoldsWs w' b ws γ := by
  refine ⟨Nat.lt_of_lt_of_le h.1 hb.size, fun i hi => ?_⟩
  obtain ⟨⟨cap, h1⟩, h2, h3⟩ := h.2 i hi
  exact ⟨⟨cap, h1.of_block (hb.block _ h.1)⟩, Nat.lt_of_lt_of_le h2 hb.size, h3.below hb h2⟩

def upd (γ : Nat → Nat) (k g : Nat) : Nat → Nat := fun i => if i = k then g else γ i

theorem upd_at (γ : Nat → Nat) (k g : Nat) : upd γ k g k = g := by simp [upd]

theorem upd_off (γ : Nat → Nat) {k i : Nat} (g : Nat) (h : i ≠ k) : upd γ k g i = γ i := by simp [upd, h]

abbrev set7 (w : World) (g o : Nat) (x : Wr) (a : Option Addr) (len cap : Nat) : World :=
  ((((((w.setCell ⟨g, o, none⟩ (.int .i64 x.k)).setCell ⟨g, o + 1, none⟩ (.int .i64 x.c)).setCell ⟨g, o + 2, none⟩ (.int .i64 x.s)).setCell ⟨g, o + 3, none⟩ (.int .i64 x.q)).setCell ⟨g, o + 4, none⟩ (.int .i64 x.v)).setCell ⟨g, o + 5, none⟩ (.bool x.de)).setCell ⟨g, o + 6, none⟩ (.slice a len cap)

theorem HoldsDeps.set7 {w : World} {b o : Nat} {xs : List Dp} (h : HoldsDeps w b o xs) {g : Nat} (hne : g ≠ b) (o' : Nat) (x : Wr) (a : Option Addr) (len cap : Nat) : HoldsDeps (set7 w g o' x a len cap) b o xs :=
  ((((((h.set hne _).set hne _).set hne _).set hne _).set hne _).set hne _).set hne _

def Rows7 (w : World) (B : Nat) (ws : List Wr) (γ : Nat → Nat) (k : Nat) : Prop :=
  (∀ i, i < k → B < γ i ∧ γ i < w.heap.size ∧ HoldsDeps w (γ i) 0 (ws.getD i wz).xs ∧ ∀ o, w.frozen? ⟨γ i, o, none⟩ = false) ∧ ∀ i j, i < k → j < k → γ i = γ j → i = j

theorem Rows7.below {w w' : World} {B : Nat} {ws : List Wr} {γ : Nat → Nat} {k : Nat} (h : Rows7 w B ws γ k) (hb : Below w.heap.size w w') : Rows7 w' B ws γ k :=
  ⟨fun i hi => ⟨(h.1 i hi).1, Nat.lt_of_lt_of_le (h.1 i hi).2.1 hb.size, (h.1 i hi).2.2.1.below hb (h.1 i hi).2.1, fun o => (hb.frozen (p := ⟨γ i, o, none⟩) (h.1 i hi).2.1).trans ((h.1 i hi).2.2.2 o)⟩, h.2⟩

theorem Rows7.step {w w' : World} {B : Nat} {ws : List Wr} {γ : Nat → Nat} {k g : Nat} (h : Rows7 w B ws γ k) (hb : Below w.heap.size w w') (hB : B < w.heap.size) (hg : w.heap.size ≤ g) (hg' : g < w'.heap.size) (hh : HoldsDeps w' g 0 (ws.getD k wz).xs) (hz : ∀ o, w'.frozen? ⟨g, o, none⟩ = false) (o : Nat) (x : Wr) (a : Option Addr) (len cap : Nat) :
    Rows7 (set7 w' B o x a len cap) B ws (upd γ k g) (k + 1) := by
  have h' := h.below hb
  refine ⟨fun i hi => ?_, fun i j hi hj he => ?_⟩
  · by_cases hik : i = k
    · subst hik
      rw [upd_at]
      exact ⟨by omega, by simpa using hg', hh.set7 (by omega) _ _ _ _ _, fun o' => by simpa using hz o'⟩
    · rw [upd_off γ g hik]
      obtain ⟨h1, h2, h3, h4⟩ := h'.1 i (by omega)
      exact ⟨h1, by simpa using h2, h3.set7 (by omega) _ _ _ _ _, fun o' => by simpa using h4 o'⟩
  · by_cases hik : i = k
    · by_cases hjk : j = k
      · omega
      · rw [hik, upd_at, upd_off γ g hjk] at he
        have := (h.1 j (by omega)).2.1
        omega
    · by_cases hjk : j = k
      · rw [hjk, upd_at, upd_off γ g hik] at he
        have := (h.1 i (by omega)).2.1
        omega
      · rw [upd_off γ g hik, upd_off γ g hjk] at he
        exact h.2 i j (by omega) (by omega) he

structure OwnWs (w : World) (base b : Nat) (ws : List Wr) (γ : Nat → Nat) : Prop where
  holds : HoldsWs w b ws γ
  le : base ≤ b
  open_ : ∀ o, w.frozen? ⟨b, o, none⟩ = false
  deps : ∀ i, i < ws.length → base ≤ γ i ∧ γ i ≠ b ∧ ∀ o, w.frozen? ⟨γ i, o, none⟩ = false
  inj : ∀ i j, i < ws.length → j < ws.length → γ i = γ j → i = j

theorem OwnWs.below {w w' : World} {base b : Nat} {ws : List Wr} {γ : Nat → Nat} (h : OwnWs w base b ws γ) (hb : Below w.heap.size w w') : OwnWs w' base b ws γ where
  holds := h.holds.below hb
  le := h.le
  open_ := fun o => (hb.frozen (p := ⟨b, o, none⟩) h.holds.1).trans (h.open_ o)
  deps := fun i hi => ⟨(h.deps i hi).1, (h.deps i hi).2.1, fun o => (hb.frozen (p := ⟨γ i, o, none⟩) (h.holds.2 i hi).2.1).trans ((h.deps i hi).2.2 o)⟩
  inj := h.inj

end Go.Proofs.Ytkcbknjmpfgimaa

namespace Go.Proofs.Ytkcbknjmpfgimaa
open Go.ChangeShapes Go.WideShapes Go.ChangeAt Go.RowKit Go.Joins
attribute [local go_sem ↓] Go.wp_at_zero Go.wp_at_succ

theorem IsWs.at {w w' : World} {a : Option Addr} {ws : List Wr} (h : IsWs w a ws) (hb : Below w.heap.size w w') {k n : Nat} (hn : ws.length = n) (hk : k < n) :
    ∃ b o a' cap, a = some ⟨b, o, none⟩ ∧ b < w'.heap.size ∧ WrAt w' b (o + k * 7) (ws.getD k wz) a' cap ∧ IsDeps w' a' (ws.getD k wz).xs := by
  rcases h.below hb with h | ⟨b, o, ha, hlt, hh⟩
  · subst h
    simp at hn
    omega
  · obtain ⟨a', cap, h1, _, h3⟩ := hh k (by omega)
    exact ⟨b, o, a', cap, ha, hlt, h1, h3⟩

end Go.Proofs.Ytkcbknjmpfgimaa

namespace Go.Proofs.Ytkcbknjmpfgimaa
open Go.ChangeShapes Go.WideShapes Go.ChangeAt Go.RowKit Go.Joins
attribute [local go_sem ↓] Go.wp_at_zero Go.wp_at_succ

end Go.Proofs.Ytkcbknjmpfgimaa

namespace Go.Proofs.Ytkcbknjmpfgimaa
open Go.ChangeShapes Go.WideShapes Go.ChangeAt Go.RowKit Go.Joins
attribute [local go_sem ↓] Go.wp_at_zero Go.wp_at_succ

structure Only (S : Nat → Prop) (w w' : World) : Prop where
  os : w'.os = w.os
  tape : w'.tape = w.tape
  output : w'.output = w.output
  size : w'.heap.size = w.heap.size
  block : ∀ b, ¬ S b → w'.heap[b]? = w.heap[b]?
  frozen : ∀ a, w'.frozen? a = w.frozen? a

theorem Only.refl (S : Nat → Prop) (w : World) : Only S w w := ⟨rfl, rfl, rfl, rfl, fun _ _ => rfl, fun _ => rfl⟩

theorem Only.set {S : Nat → Prop} {w w' : World} (h : Only S w w') {b : Nat} (hb : S b) (o : Nat) (v : Value) : Only S w (w'.setCell ⟨b, o, none⟩ v) :=
  ⟨h.os, h.tape, h.output, by simpa using h.size, fun c hc => (Below.heap_setCell _ _ _ _ (fun e => hc (by rw [e]; exact hb))).trans (h.block c hc), fun a => by simpa using h.frozen a⟩

theorem Only.trans {S T : Nat → Prop} {w w' w'' : World} (h : Only S w w') (k : Only T w' w'') (hT : ∀ b, T b → S b) : Only S w w'' :=
  ⟨k.os.trans h.os, k.tape.trans h.tape, k.output.trans h.output, k.size.trans h.size, fun b hb => (k.block b (fun e => hb (hT b e))).trans (h.block b hb), fun a => (k.frozen a).trans (h.frozen a)⟩

theorem Only.below {S : Nat → Prop} {w w' : World} {B : Nat} (h : Only S w w') (hS : ∀ b, S b → B ≤ b) : Below B w w' :=
  ⟨h.os, h.tape, h.output, by rw [h.size]; exact Nat.le_refl _, fun b hb => h.block b (fun e => by have := hS b e; omega)⟩

def CellsAre (w : World) (b m : Nat) (f : Nat → Value) : Prop := ∀ o, o < m → w.cell? ⟨b, o, none⟩ = some (f o)

theorem CellsAre.of_block {w w' : World} {b m : Nat} {f : Nat → Value} (h : CellsAre w b m f) (hb : w'.heap[b]? = w.heap[b]?) : CellsAre w' b m f :=
  fun o ho => (World.cell?_of_block (a := ⟨b, o, none⟩) hb).trans (h o ho)

theorem CellsAre.set {w : World} {b m : Nat} {f : Nat → Value} (h : CellsAre w b m f) {o : Nat} (ho : o < m) (v : Value) : CellsAre (w.setCell ⟨b, o, none⟩ v) b m (fun j => if j = o then v else f j) := by
  intro j hj
  by_cases e : j = o
  · subst e
    simp [World.cell?_setCell_same, h j hj]
  · simp only [if_neg e]
    rw [World.cell?_setCell_other _ _ _ _ (by intro h; injection h with _ h _; exact e h.symm)]
    exact h j hj

theorem CellsAre.congr {w : World} {b m : Nat} {f f' : Nat → Value} (h : CellsAre w b m f) (he : ∀ o, o < m → f o = f' o) : CellsAre w b m f' := fun o ho => by rw [h o ho, he o ho]

def markFn (k : Int) (o : Nat) : Value := .int .i64 (k + o)

end Go.Proofs.Ytkcbknjmpfgimaa
