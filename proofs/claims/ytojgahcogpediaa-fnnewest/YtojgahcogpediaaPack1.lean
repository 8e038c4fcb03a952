import Derived.Test.YtojgahcogpediaaRows
import Derived.WalkKit
import Derived.ProofKit
import Derived.OpenShut
import Derived.BigQuiet
import Derived.Deep.QuietTactic
import Derived.Outline
import Derived.Laws.ResultCell
import Derived.Lib.SmallJoins
import Derived.ChangeOld
import Derived.Below
import Derived.WalkSmall
import Derived.Deep.AppendLies
import Derived.OwnWalk
/- Contracts of the functions on tags: spec and impl. -/
namespace Go.Proofs.Ytojgahcogpediaa
open Go.ChangeShapes Go.WideShapes Go.ChangeAt Go.RowKit

def btw (n lo hi : Int) : Bool := decide (lo ≤ n ∧ n ≤ hi)

theorem between_any (n lo hi : Int) (w : World) :
    Calls Try.prog 32 #[.int .i64 n, .int .i64 lo, .int .i64 hi] w fun e w' => e = .returned (.bool (btw n lo hi)) ∧ w' = w := by
  by_cases h1 : lo ≤ n
  · by_cases h2 : n ≤ hi
    · have e : btw n lo hi = true := by simp [btw, h1, h2]
      rw [e]
      go_enter Try.func32, Try.ntmps32
      go_wp2
      go_ret
      exact ⟨rfl, rfl⟩
    · have e : btw n lo hi = false := by simp [btw, h1, h2]
      rw [e]
      go_enter Try.func32, Try.ntmps32
      go_wp2
      go_ret
      exact ⟨rfl, rfl⟩
  · have e : btw n lo hi = false := by simp [btw, h1]
    rw [e]
    go_enter Try.func32, Try.ntmps32
    go_wp2
    go_ret
    exact ⟨rfl, rfl⟩

theorem inRange_any (n lo hi : Int) (w : World) :
    Calls Try.prog 37 #[.int .i64 n, .int .i64 lo, .int .i64 hi] w fun e w' => e = .returned (.bool (btw n lo hi)) ∧ w' = w := by
  by_cases h1 : lo ≤ n
  · by_cases h2 : n ≤ hi
    · have e : btw n lo hi = true := by simp [btw, h1, h2]
      rw [e]
      go_enter Try.func37, Try.ntmps37
      go_wp2
      go_ret
      exact ⟨rfl, rfl⟩
    · have e : btw n lo hi = false := by simp [btw, h1, h2]
      rw [e]
      go_enter Try.func37, Try.ntmps37
      go_wp2
      go_ret
      exact ⟨rfl, rfl⟩
  · have e : btw n lo hi = false := by simp [btw, h1]
    rw [e]
    go_enter Try.func37, Try.ntmps37
    go_wp2
    go_ret
    exact ⟨rfl, rfl⟩

end Go.Proofs.Ytojgahcogpediaa

/- Contracts of TagOk (spec and impl) and of toTag. -/
namespace Go.Proofs.Ytojgahcogpediaa
open Go.ChangeShapes Go.WideShapes Go.ChangeAt Go.RowKit

abbrev tagV (c s q : Int) : Value := .agg #[.int .i64 c, .int .i64 s, .int .i64 q]

def tagOkB (c s q : Int) : Bool := btw c 1 100000 && (btw s 0 3 && btw q 1 1000)

set_option maxHeartbeats 400000 in
theorem specTagOk_any (c s q : Int) (w : World) :
    Calls Try.prog 73 #[tagV c s q] w fun e w' => e = .returned (.bool (tagOkB c s q)) ∧ Below w.heap.size w w' := by
  cases h1 : btw c 1 100000 <;> cases h2 : btw s 0 3 <;> cases h3 : btw q 1 1000
  all_goals
    have e : tagOkB c s q = (btw c 1 100000 && (btw s 0 3 && btw q 1 1000)) := rfl
    rw [h1, h2, h3] at e
    simp only [Bool.and_true, Bool.and_false] at e
    rw [e]
    clear e
    go_enter Try.func73, Try.ntmps73
    go_wp2_with (go_at_call 32; refine (between_any _ _ _ _).mono ?_; rintro e w' ⟨rfl, rfl⟩)
    go_ret
    exact ⟨rfl, (Below.refl _ _).alloc (Nat.le_refl _) _⟩

set_option maxHeartbeats 400000 in
theorem implTagOk_any (c s q : Int) (w : World) :
    Calls Try.prog 78 #[tagV c s q] w fun e w' => e = .returned (.bool (tagOkB c s q)) ∧ Below w.heap.size w w' := by
  cases h1 : btw c 1 100000 <;> cases h2 : btw s 0 3 <;> cases h3 : btw q 1 1000
  all_goals
    have e : tagOkB c s q = (btw c 1 100000 && (btw s 0 3 && btw q 1 1000)) := rfl
    rw [h1, h2, h3] at e
    simp only [Bool.and_true, Bool.and_false] at e
    rw [e]
    clear e
    go_enter Try.func78, Try.ntmps78
    go_wp2_with (go_at_call 37; refine (inRange_any _ _ _ _).mono ?_; rintro e w' ⟨rfl, rfl⟩)
    go_ret
    exact ⟨rfl, (Below.refl _ _).alloc (Nat.le_refl _) _⟩

set_option maxHeartbeats 400000 in
theorem toTag_any (c s q : Int) (w : World) :
    Calls Try.prog 85 #[tagV c s q] w fun e w' => e = .returned (tagV c s q) ∧ Below w.heap.size w w' := by
  go_enter Try.func85, Try.ntmps85
  go_wp2
  exact bodyPost_ret (v := tagV c s q) (by simp [results, Try.results85, go_sem]) rfl ⟨rfl, (((Below.refl _ _).alloc (Nat.le_refl _) _).alloc (by simp) _).alloc (by simp; omega) _⟩

end Go.Proofs.Ytojgahcogpediaa

/- Small facts that every law's proof uses. -/
namespace Go.Proofs.Ytojgahcogpediaa
open Go.ChangeShapes Go.WideShapes Go.ChangeAt Go.RowKit Go.Joins

theorem own : ownKnob Try.prog.godebug = none := by kernel_rfl

theorem laidOut : laidOutB Try.prog = true := by kernel_rfl

theorem bcell {W w1 : World} (hb : Below W.heap.size W w1) : (∀ b o, b < W.heap.size → w1.cell? ⟨b, o, none⟩ = W.cell? ⟨b, o, none⟩) ∧ (∀ b o, b < W.heap.size → w1.frozen? ⟨b, o, none⟩ = W.frozen? ⟨b, o, none⟩) :=
  ⟨fun b o h => hb.cell (p := ⟨b, o, none⟩) h, fun b o h => hb.frozen (p := ⟨b, o, none⟩) h⟩

/-- One step more behind a chain of 'Below'. -/
theorem below_step {B : Nat} {w w1 w2 : World} (h : Below B w w1) (hB : B ≤ w1.heap.size) (k : Below w1.heap.size w1 w2) : Below B w w2 := h.trans (k.mono hB)

theorem held_cell {W w' : World} {b o : Nat} {v : Value} (hb : Below W.heap.size W w') (h : W.cell? ⟨b, o, none⟩ = some v) (hz : b < W.heap.size) : w'.cell? ⟨b, o, none⟩ = some v :=
  (hb.cell (p := ⟨b, o, none⟩) hz).trans h

set_option maxRecDepth 100000 in
theorem open_tag {H : Type} {enc : TypeId × Value → H} {W : World} {b0 base : Nat} {r : Reach} {spare : Nat → Bool} {held : Bool} {v : Value} {d : DataW H} {p : List MemPlace} (hv : Value.okWide Try.prog W r b0 72 v) (h : DataW.Trod enc Try.prog W base spare held 72 v d p) : ∃ c s q, v = tagV c s q := by
  obtain ⟨c0, c1, c2, y0, y1, y2, m, rfl, _, _, hy0, hy1, hy2⟩ := open_agg3 Try.underlying72 (by kernel_rfl) (by kernel_rfl) hv h
  obtain ⟨a, e0, _, _⟩ := DataW.trod_int Try.underlying3 hy0
  obtain ⟨b, e1, _, _⟩ := DataW.trod_int Try.underlying3 hy1
  obtain ⟨c, e2, _, _⟩ := DataW.trod_int Try.underlying3 hy2
  simp at e0 e1 e2
  subst e0 e1 e2
  exact ⟨a, b, c, rfl⟩

end Go.Proofs.Ytojgahcogpediaa

/- The cursor of the drawn inputs: its place in memory, and the contracts of l01Open, pick, once. -/
namespace Go.Proofs.Ytojgahcogpediaa
open Go.ChangeShapes Go.WideShapes Go.ChangeAt Go.RowKit Go.Joins

/-- Nothing that was there has turned, but for the one block B. -/
structure Hole (B : Nat) (w w' : World) : Prop where
  os : w'.os = w.os
  tape : w'.tape = w.tape
  output : w'.output = w.output
  size : w.heap.size ≤ w'.heap.size
  block : ∀ k, k < w.heap.size → k ≠ B → w'.heap[k]? = w.heap[k]?

theorem Hole.refl (B : Nat) (w : World) : Hole B w w := ⟨rfl, rfl, rfl, Nat.le_refl _, fun _ _ _ => rfl⟩

theorem Hole.trans {B : Nat} {a b c : World} (h : Hole B a b) (k : Hole B b c) : Hole B a c :=
  ⟨k.os.trans h.os, k.tape.trans h.tape, k.output.trans h.output, Nat.le_trans h.size k.size, fun i hi hn => (k.block i (Nat.lt_of_lt_of_le hi h.size) hn).trans (h.block i hi hn)⟩

theorem Hole.of_below {B : Nat} {w w' : World} (h : Below w.heap.size w w') : Hole B w w' := ⟨h.os, h.tape, h.output, h.size, fun k hk _ => h.block k hk⟩

theorem Hole.drew {B : Nat} {w w' : World} (h : Hole B w w') : Hole B w w'.drew := ⟨h.os, h.tape, h.output, h.size, h.block⟩

theorem Hole.drewN {B : Nat} {w w' : World} (h : Hole B w w') (n : Nat) : Hole B w (w'.drewN n) := h.trans (Hole.of_below (below_drewN (Below.refl _ _) n))

theorem Hole.alloc {B : Nat} {w w' : World} (h : Hole B w w') (o : Obj) : Hole B w (w'.alloc o) := h.trans (Hole.of_below ((Below.refl _ _).alloc (Nat.le_refl _) o))

theorem Hole.set {B : Nat} {w w' : World} (h : Hole B w w') (o : Nat) (v : Value) : Hole B w (w'.setCell ⟨B, o, none⟩ v) :=
  h.trans ⟨rfl, rfl, rfl, by simp [World.setCell], fun k _ hn => Below.heap_setCell _ _ _ _ hn⟩

theorem Hole.cell {B : Nat} {w w' : World} (h : Hole B w w') {b o : Nat} (hb : b < w.heap.size) (hn : b ≠ B) : w'.cell? ⟨b, o, none⟩ = w.cell? ⟨b, o, none⟩ := World.cell?_of_block (w := w) (h.block b hb hn)

theorem Hole.frozen {B : Nat} {w w' : World} (h : Hole B w w') {b o : Nat} (hb : b < w.heap.size) (hn : b ≠ B) : w'.frozen? ⟨b, o, none⟩ = w.frozen? ⟨b, o, none⟩ := World.frozen?_of_block (w := w) (h.block b hb hn)

theorem Hole.below {B c : Nat} {w0 w w' : World} (h0 : Below c w0 w) (h : Hole B w w') (hB : c ≤ B) (hc : c ≤ w.heap.size) : Below c w0 w' :=
  h0.trans ⟨h.os, h.tape, h.output, h.size, fun k hk => h.block k (by omega) (by omega)⟩

structure CurAt (w : World) (B : Nat) (a : Option Addr) (len cap : Nat) (at_ seed : Int) : Prop where
  lt : B < w.heap.size
  c0 : w.cell? ⟨B, 0, none⟩ = some (.slice a len cap)
  c1 : w.cell? ⟨B, 1, none⟩ = some (.int .i64 at_)
  c2 : w.cell? ⟨B, 2, none⟩ = some (.int .i64 seed)
  fz : ∀ o, w.frozen? ⟨B, o, none⟩ = false
  p0 : 0 ≤ at_
  s0 : 0 ≤ seed
  s1 : seed ≤ 65520

/-- The code's bytes, in a block that is not the cursor's. -/
def CodeAt (w : World) (B : Nat) (a : Option Addr) (len : Nat) : Prop :=
  len = 0 ∨ ∃ b o, a = some ⟨b, o, none⟩ ∧ b < B ∧ ∀ i, i < len → ∃ z : Int, 0 ≤ z ∧ z ≤ 255 ∧ w.cell? ⟨b, o + i, none⟩ = some (.int .u8 z)

theorem CodeAt.hole {w w' : World} {B : Nat} {a : Option Addr} {len : Nat} (h : CodeAt w B a len) (hB : B < w.heap.size) (hh : Hole B w w') : CodeAt w' B a len := by
  rcases h with h | ⟨b, o, ha, hb, hz⟩
  · exact .inl h
  · refine .inr ⟨b, o, ha, hb, fun i hi => ?_⟩
    obtain ⟨z, z0, z1, hc⟩ := hz i hi
    exact ⟨z, z0, z1, (hh.cell (by omega) (by omega)).trans hc⟩

/-- The cursor stands at most N bytes on. -/
def Cur (w : World) (B : Nat) (a : Option Addr) (len cap : Nat) (N : Int) : Prop := ∃ at_ seed, CurAt w B a len cap at_ seed ∧ at_ ≤ N ∧ CodeAt w B a len ∧ len ≤ 1048576

theorem Cur.below {w w' : World} {B : Nat} {a : Option Addr} {len cap : Nat} {N : Int} (h : Cur w B a len cap N) (hb : Below w.heap.size w w') : Cur w' B a len cap N := by
  obtain ⟨at_, seed, hc, hN, hk, hl⟩ := h
  refine ⟨at_, seed, ⟨Nat.lt_of_lt_of_le hc.lt hb.size, held_cell hb hc.c0 hc.lt, held_cell hb hc.c1 hc.lt, held_cell hb hc.c2 hc.lt, fun o => (hb.frozen (p := ⟨B, o, none⟩) hc.lt).trans (hc.fz o), hc.p0, hc.s0, hc.s1⟩, hN, hk.hole hc.lt (Hole.of_below hb), hl⟩

theorem Cur.more {w : World} {B : Nat} {a : Option Addr} {len cap : Nat} {N M : Int} (h : Cur w B a len cap N) (hM : N ≤ M) : Cur w B a len cap M := by
  obtain ⟨at_, seed, hc, hN, hk⟩ := h
  exact ⟨at_, seed, hc, Int.le_trans hN hM, hk⟩

theorem Cur.lt {w : World} {B : Nat} {a : Option Addr} {len cap : Nat} {N : Int} (h : Cur w B a len cap N) : B < w.heap.size := by
  obtain ⟨_, _, hc, _⟩ := h
  exact hc.lt

theorem mod_lt {x n : Int} (hn : 2 ≤ n) : 0 ≤ x % n ∧ x % n < n := ⟨Int.emod_nonneg _ (by omega), Int.emod_lt_of_pos _ (by omega)⟩

set_option maxHeartbeats 1000000 in
theorem pick_in (B : Nat) (b o len cap : Nat) (at_ n z : Int) (w : World) (c0 : w.cell? ⟨B, 0, none⟩ = some (.slice (some ⟨b, o, none⟩) len cap)) (c1 : w.cell? ⟨B, 1, none⟩ = some (.int .i64 at_)) (fz : ∀ o, w.frozen? ⟨B, o, none⟩ = false)
    (hz : w.cell? ⟨b, o + at_.toNat, none⟩ = some (.int .u8 z)) (z0 : 0 ≤ z) (z1 : z ≤ 255) (p0 : 0 ≤ at_) (p1 : at_ < len) (hl : len ≤ 1048576) (hn : 2 ≤ n) (hn' : n ≤ 100000) :
    Calls Try.prog 60 #[.pointer (some ⟨B, 0, none⟩), .int .i64 n] w fun e w' => e = .returned (.int .i64 (z % n)) ∧ ∃ m, w' = (w.drewN m).setCell ⟨B, 1, none⟩ (.int .i64 (at_ + 1)) := by
  go_enter Try.func60, Try.ntmps60
  go_wp2_with fail
  go_quiet (fail)
  go_wp2_with fail
  go_quiet (fail)
  go_wp2
  go_ret
  exact ⟨rfl, _, rfl⟩

set_option maxHeartbeats 1000000 in
theorem pick_out (B : Nat) (b o len cap : Nat) (at_ seed n z : Int) (w : World) (hne : b ≠ B) (c0 : w.cell? ⟨B, 0, none⟩ = some (.slice (some ⟨b, o, none⟩) len cap)) (c1 : w.cell? ⟨B, 1, none⟩ = some (.int .i64 at_)) (c2 : w.cell? ⟨B, 2, none⟩ = some (.int .i64 seed)) (fz : ∀ o, w.frozen? ⟨B, o, none⟩ = false)
    (hz : w.cell? ⟨b, o + (at_ % len).toNat, none⟩ = some (.int .u8 z)) (z0 : 0 ≤ z) (z1 : z ≤ 255) (p0 : 0 ≤ at_) (p2 : at_ ≤ 1000000) (p1 : (len : Int) ≤ at_) (s0 : 0 ≤ seed) (s1 : seed ≤ 65520) (hl0 : (0 : Int) < len) (hl : len ≤ 1048576) (hn : 2 ≤ n) (hn' : n ≤ 100000) :
    Calls Try.prog 60 #[.pointer (some ⟨B, 0, none⟩), .int .i64 n] w fun e w' => e = .returned (.int .i64 (((seed * 1103 + 12345) % 65521 / 7 + z) % n)) ∧ ∃ m m', w' = ((((w.drewN m).setCell ⟨B, 2, none⟩ (.int .i64 ((seed * 1103 + 12345) % 65521))).drewN m').setCell ⟨B, 1, none⟩ (.int .i64 (at_ + 1))) := by
  have i1 : (0 : Int) ≤ at_ % len := Int.emod_nonneg _ (by omega)
  have i2 : at_ % len < (len : Int) := Int.emod_lt_of_pos _ hl0
  go_enter Try.func60, Try.ntmps60
  go_wp2_with fail
  go_quiet (fail)
  go_wp2_with fail
  go_quiet (fail)
  go_wp2
  go_ret
  exact ⟨rfl, _, _, rfl⟩

set_option maxHeartbeats 1000000 in
theorem pick_nil (B : Nat) (a : Option Addr) (cap : Nat) (at_ seed n : Int) (w : World) (c0 : w.cell? ⟨B, 0, none⟩ = some (.slice a 0 cap)) (c1 : w.cell? ⟨B, 1, none⟩ = some (.int .i64 at_)) (c2 : w.cell? ⟨B, 2, none⟩ = some (.int .i64 seed)) (fz : ∀ o, w.frozen? ⟨B, o, none⟩ = false)
    (p0 : 0 ≤ at_) (p2 : at_ ≤ 1000000) (s0 : 0 ≤ seed) (s1 : seed ≤ 65520) (hn : 2 ≤ n) (hn' : n ≤ 100000) :
    Calls Try.prog 60 #[.pointer (some ⟨B, 0, none⟩), .int .i64 n] w fun e w' => e = .returned (.int .i64 (0 % n)) ∧ ∃ m m', w' = ((((w.drewN m).setCell ⟨B, 2, none⟩ (.int .i64 ((seed * 1103 + 12345) % 65521))).drewN m').setCell ⟨B, 1, none⟩ (.int .i64 (at_ + 1))) := by
  go_enter Try.func60, Try.ntmps60
  go_wp2_with fail
  go_quiet (fail)
  go_wp2
  go_ret
  exact ⟨by simp, _, 0, rfl⟩

theorem cell_set_same {w : World} {B o : Nat} {u v : Value} (h : w.cell? ⟨B, o, none⟩ = some u) : (w.setCell ⟨B, o, none⟩ v).cell? ⟨B, o, none⟩ = some v := World.cell?_setCell_same _ _ _ h

theorem cell_set_off {w : World} {B o o' : Nat} {u v : Value} (h : w.cell? ⟨B, o', none⟩ = some u) (hn : o ≠ o') : (w.setCell ⟨B, o, none⟩ v).cell? ⟨B, o', none⟩ = some u :=
  (World.cell?_setCell_other _ _ _ _ (fun e => hn (by injection e))).trans h

theorem cur_set1 {w : World} {B : Nat} {a : Option Addr} {len cap : Nat} {at_ seed p : Int} (h : CurAt w B a len cap at_ seed) (hp : 0 ≤ p) : CurAt (w.setCell ⟨B, 1, none⟩ (.int .i64 p)) B a len cap p seed :=
  ⟨by simpa [World.setCell] using h.lt, cell_set_off h.c0 (by omega), cell_set_same h.c1, cell_set_off h.c2 (by omega), fun o => by rw [World.frozen?_setCell]; exact h.fz o, hp, h.s0, h.s1⟩

theorem cur_set2 {w : World} {B : Nat} {a : Option Addr} {len cap : Nat} {at_ seed p : Int} (h : CurAt w B a len cap at_ seed) (hp : 0 ≤ p) (hq : p ≤ 65520) : CurAt (w.setCell ⟨B, 2, none⟩ (.int .i64 p)) B a len cap at_ p :=
  ⟨by simpa [World.setCell] using h.lt, cell_set_off h.c0 (by omega), cell_set_off h.c1 (by omega), cell_set_same h.c2, fun o => by rw [World.frozen?_setCell]; exact h.fz o, h.p0, hp, hq⟩

theorem cur_drewN {w : World} {B : Nat} {a : Option Addr} {len cap : Nat} {at_ seed : Int} (h : CurAt w B a len cap at_ seed) (n : Nat) : CurAt (w.drewN n) B a len cap at_ seed := by
  have hb : Below w.heap.size w (w.drewN n) := below_drewN (Below.refl _ _) n
  exact ⟨Nat.lt_of_lt_of_le h.lt hb.size, held_cell hb h.c0 h.lt, held_cell hb h.c1 h.lt, held_cell hb h.c2 h.lt, fun o => (hb.frozen (p := ⟨B, o, none⟩) h.lt).trans (h.fz o), h.p0, h.s0, h.s1⟩

theorem pick_any (B : Nat) (a : Option Addr) (len cap : Nat) (N n : Int) (w : World) (hN : N ≤ 1000000) (hn : 2 ≤ n) (hn' : n ≤ 100000) (h : Cur w B a len cap N) :
    Calls Try.prog 60 #[.pointer (some ⟨B, 0, none⟩), .int .i64 n] w fun e w' => ∃ r : Int, e = .returned (.int .i64 r) ∧ 0 ≤ r ∧ r < n ∧ Cur w' B a len cap (N + 1) ∧ Hole B w w' := by
  obtain ⟨at_, seed, hc, hN', hk, hl⟩ := h
  have hs : 0 ≤ (seed * 1103 + 12345) % 65521 ∧ (seed * 1103 + 12345) % 65521 ≤ 65520 := by
    have := hc.s0
    have := hc.s1
    omega
  have hp := hc.p0
  rcases hk with h0 | ⟨b, o, rfl, hb, hz⟩
  · subst h0
    refine (pick_nil B a cap at_ seed n w hc.c0 hc.c1 hc.c2 hc.fz hc.p0 (by omega) hc.s0 hc.s1 hn hn').mono ?_
    rintro e w' ⟨rfl, m, m', rfl⟩
    exact ⟨_, rfl, (mod_lt hn).1, (mod_lt hn).2, ⟨at_ + 1, _, cur_set1 (cur_drewN (cur_set2 (cur_drewN hc m) hs.1 hs.2) m') (by omega), by omega, .inl rfl, hl⟩, ((((Hole.refl B w).drewN m).set 2 _).drewN m').set 1 _⟩
  · by_cases hlt : at_ < len
    · obtain ⟨z, z0, z1, hzc⟩ := hz at_.toNat (by omega)
      refine (pick_in B b o len cap at_ n z w hc.c0 hc.c1 hc.fz hzc z0 z1 hc.p0 hlt hl hn hn').mono ?_
      rintro e w' ⟨rfl, m, rfl⟩
      have hh : Hole B w ((w.drewN m).setCell ⟨B, 1, none⟩ (.int .i64 (at_ + 1))) := ((Hole.refl B w).drewN m).set 1 _
      exact ⟨_, rfl, (mod_lt hn).1, (mod_lt hn).2, ⟨at_ + 1, seed, cur_set1 (cur_drewN hc m) (by omega), by omega, (CodeAt.hole (.inr ⟨b, o, rfl, hb, hz⟩) hc.lt hh), hl⟩, hh⟩
    · by_cases h0 : len = 0
      · subst h0
        refine (pick_nil B _ cap at_ seed n w hc.c0 hc.c1 hc.c2 hc.fz hc.p0 (by omega) hc.s0 hc.s1 hn hn').mono ?_
        rintro e w' ⟨rfl, m, m', rfl⟩
        exact ⟨_, rfl, (mod_lt hn).1, (mod_lt hn).2, ⟨at_ + 1, _, cur_set1 (cur_drewN (cur_set2 (cur_drewN hc m) hs.1 hs.2) m') (by omega), by omega, .inl rfl, hl⟩, ((((Hole.refl B w).drewN m).set 2 _).drewN m').set 1 _⟩
      · have hl0 : (0 : Int) < len := by omega
        have i1 : (0 : Int) ≤ at_ % len := Int.emod_nonneg _ (by omega)
        have i2 : at_ % len < (len : Int) := Int.emod_lt_of_pos _ hl0
        obtain ⟨z, z0, z1, hzc⟩ := hz (at_ % len).toNat (by omega)
        refine (pick_out B b o len cap at_ seed n z w (by omega) hc.c0 hc.c1 hc.c2 hc.fz hzc z0 z1 hc.p0 (by omega) (by omega) hc.s0 hc.s1 hl0 hl hn hn').mono ?_
        rintro e w' ⟨rfl, m, m', rfl⟩
        have hh : Hole B w ((((w.drewN m).setCell ⟨B, 2, none⟩ (.int .i64 ((seed * 1103 + 12345) % 65521))).drewN m').setCell ⟨B, 1, none⟩ (.int .i64 (at_ + 1))) := ((((Hole.refl B w).drewN m).set 2 _).drewN m').set 1 _
        exact ⟨_, rfl, (mod_lt hn).1, (mod_lt hn).2, ⟨at_ + 1, _, cur_set1 (cur_drewN (cur_set2 (cur_drewN hc m) hs.1 hs.2) m') (by omega), by omega, (CodeAt.hole (.inr ⟨b, o, rfl, hb, hz⟩) hc.lt hh), hl⟩, hh⟩

set_option maxHeartbeats 400000 in
theorem once_any (B : Nat) (a : Option Addr) (len cap : Nat) (N n : Int) (w : World) (hN : N ≤ 1000000) (hn : 2 ≤ n) (hn' : n ≤ 100000) (h : Cur w B a len cap N) :
    Calls Try.prog 90 #[.pointer (some ⟨B, 0, none⟩), .int .i64 n] w fun e w' => ∃ r : Bool, e = .returned (.bool r) ∧ Cur w' B a len cap (N + 1) ∧ Hole B w w' := by
  have HC : Hid (Cur w B a len cap N) := h
  clear h
  go_enter Try.func90, Try.ntmps90
  go_wp2_with fail
  refine (pick_any B a len cap N n _ hN hn hn' HC.out).mono ?_
  rintro e w1 ⟨r, rfl, r0, r1, hc1, hh1⟩
  have HC1 : Hid (Cur w1 B a len cap (N + 1)) := hc1
  have HH1 : Hid (Hole B w w1) := hh1
  clear hc1 hh1
  go_wp2
  go_ret
  exact ⟨_, rfl, HC1.out, HH1.out⟩

theorem Hole.setNew {B R : Nat} {w w' : World} (h : Hole B w w') (hR : w.heap.size ≤ R) (o : Nat) (v : Value) : Hole B w (w'.setCell ⟨R, o, none⟩ v) :=
  ⟨h.os, h.tape, h.output, by simpa [World.setCell] using h.size, fun k hk hn => (Below.heap_setCell _ _ _ _ (by show k ≠ R; omega)).trans (h.block k hk hn)⟩

theorem Cur.setOther {w : World} {B R : Nat} {a : Option Addr} {len cap : Nat} {N : Int} (h : Cur w B a len cap N) (hR : B < R) (o : Nat) (v : Value) : Cur (w.setCell ⟨R, o, none⟩ v) B a len cap N := by
  obtain ⟨at_, seed, hc, hN, hk, hl⟩ := h
  have hne : ∀ b o', b < R → (Addr.mk R o none) ≠ ⟨b, o', none⟩ := fun b o' hb e => by
    have : R = b := by injection e
    omega
  refine ⟨at_, seed, ⟨by simpa [World.setCell] using hc.lt, (World.cell?_setCell_other _ _ _ _ (hne _ _ hR)).trans hc.c0, (World.cell?_setCell_other _ _ _ _ (hne _ _ hR)).trans hc.c1, (World.cell?_setCell_other _ _ _ _ (hne _ _ hR)).trans hc.c2, fun o => by rw [World.frozen?_setCell]; exact hc.fz o, hc.p0, hc.s0, hc.s1⟩, hN, ?_, hl⟩
  rcases hk with h0 | ⟨b, o', ha, hb, hz⟩
  · exact .inl h0
  · refine .inr ⟨b, o', ha, hb, fun i hi => ?_⟩
    obtain ⟨z, z0, z1, hcz⟩ := hz i hi
    exact ⟨z, z0, z1, (World.cell?_setCell_other _ _ _ _ (hne _ _ (by omega))).trans hcz⟩

/-- A tag in a block of its own. -/
structure TagBox (w : World) (b : Nat) (c s q : Int) : Prop where
  lt : b < w.heap.size
  c0 : w.cell? ⟨b, 0, none⟩ = some (.int .i64 c)
  c1 : w.cell? ⟨b, 1, none⟩ = some (.int .i64 s)
  c2 : w.cell? ⟨b, 2, none⟩ = some (.int .i64 q)
  fz : ∀ o, w.frozen? ⟨b, o, none⟩ = false

theorem TagBox.start (w : World) (c s q : Int) (t : Nat) : TagBox (w.alloc (.cells #[.int .i64 c, .int .i64 s, .int .i64 q] t)) w.heap.size c s q :=
  ⟨by simp, by simp [go_sem], by simp [go_sem], by simp [go_sem], fun o => by simp [go_sem]⟩

theorem TagBox.hole {w w' : World} {B b : Nat} {c s q : Int} (h : TagBox w b c s q) (hh : Hole B w w') (hn : b ≠ B) : TagBox w' b c s q :=
  ⟨Nat.lt_of_lt_of_le h.lt hh.size, (hh.cell h.lt hn).trans h.c0, (hh.cell h.lt hn).trans h.c1, (hh.cell h.lt hn).trans h.c2, fun o => (hh.frozen h.lt hn).trans (h.fz o)⟩

theorem ints_cell (w : World) (l : List Int) (t i : Nat) (hi : i < l.length) : (w.alloc (.cells (l.map (Value.int .i64)).toArray t)).cell? ⟨w.heap.size, i, none⟩ = some (.int .i64 (l.getD i 0)) := by
  simp [go_sem, List.getD, hi]

set_option maxHeartbeats 1000000 in
theorem raw_any (B : Nat) (a : Option Addr) (len cap : Nat) (N : Int) (w : World) (hN : N ≤ 100000) (h : Cur w B a len cap N) :
    Calls Try.prog 96 #[.pointer (some ⟨B, 0, none⟩)] w fun e w' => ∃ r : Int, e = .returned (.int .i64 r) ∧ Cur w' B a len cap (N + 2) ∧ Hole B w w' := by
  have HC : Hid (Cur w B a len cap N) := h
  clear h
  go_enter Try.func96, Try.ntmps96
  go_wp2_with fail
  refine (pick_any B a len cap N 8 _ (by omega) (by omega) (by omega) HC.out).mono ?_
  rintro e w1 ⟨r, rfl, r0, r1, hc1, hh1⟩
  have HC1 : Hid (Cur w1 B a len cap (N + 1)) := hc1
  have HH1 : Hid (Hole B w w1) := hh1
  clear hc1 hh1
  by_cases k0 : r = 0
  · subst k0
    go_wp2_with fail
    refine (pick_any B a len cap (N + 1) 256 _ (by omega) (by omega) (by omega) HC1.out).mono ?_
    rintro e w2 ⟨r2, rfl, q0, q1, hc2, hh2⟩
    have HC2 : Hid (Cur w2 B a len cap (N + 2)) := hc2.more (by omega)
    have HH2 : Hid (Hole B w w2) := HH1.out.trans hh2
    clear hc2 hh2
    go_wp2
    go_ret
    exact ⟨_, rfl, HC2.out, HH2.out⟩
  · by_cases k1 : r = 1
    · subst k1
      go_wp2_with fail
      have HA : Hid (Below w1.heap.size w1 (w1.alloc (.cells ((([9223372036854775807, -9223372036854775808, 4611686018427387904, 1000, 1001, -1000, 100000, 100001] : List Int).map (Value.int .i64)).toArray) 3))) := (Below.refl _ _).alloc (Nat.le_refl _) _
      refine (pick_any B a len cap (N + 1) 8 _ (by omega) (by omega) (by omega) (HC1.out.below HA.out)).mono ?_
      rintro e w2 ⟨r2, rfl, q0, q1, hc2, hh2⟩
      have HC2 : Hid (Cur w2 B a len cap (N + 2)) := hc2.more (by omega)
      have HH2 : Hid (Hole B w w2) := (HH1.out.trans (Hole.of_below HA.out)).trans hh2
      have hcell : w2.cell? ⟨w1.heap.size, r2.toNat, none⟩ = some (.int .i64 _) := (hh2.cell (by simp) (by have := HC1.out.lt; omega)).trans (ints_cell w1 [9223372036854775807, -9223372036854775808, 4611686018427387904, 1000, 1001, -1000, 100000, 100001] _ r2.toNat (by simp; omega))
      generalize List.getD [9223372036854775807, -9223372036854775808, 4611686018427387904, 1000, 1001, -1000, 100000, 100001] r2.toNat 0 = v at hcell
      clear hc2 hh2 HA
      go_wp2
      go_ret
      exact ⟨_, rfl, HC2.out, HH2.out⟩
    · have k0' : (r == 0) = false := by simp [k0]
      have k1' : (r == 1) = false := by simp [k1]
      clear k0 k1
      go_wp2_with fail
      refine (pick_any B a len cap (N + 1) 14 _ (by omega) (by omega) (by omega) HC1.out).mono ?_
      rintro e w2 ⟨r2, rfl, q0, q1, hc2, hh2⟩
      have HC2 : Hid (Cur w2 B a len cap (N + 2)) := hc2.more (by omega)
      have HH2 : Hid (Hole B w w2) := HH1.out.trans hh2
      clear hc2 hh2
      go_wp2
      go_ret
      exact ⟨_, rfl, HC2.out, HH2.out⟩

end Go.Proofs.Ytojgahcogpediaa

/- The contracts of l01Open and of the cursor's tag. -/
namespace Go.Proofs.Ytojgahcogpediaa
open Go.ChangeShapes Go.WideShapes Go.ChangeAt Go.RowKit Go.Joins

/-- What a code that came in is: bytes in a block that was there. -/
def Bytes (w : World) (a : Option Addr) (len : Nat) : Prop :=
  len = 0 ∨ ∃ b o, a = some ⟨b, o, none⟩ ∧ b < w.heap.size ∧ ∀ i, i < len → ∃ z : Int, 0 ≤ z ∧ z ≤ 255 ∧ w.cell? ⟨b, o + i, none⟩ = some (.int .u8 z)

theorem Bytes.below {w w' : World} {a : Option Addr} {len : Nat} (h : Bytes w a len) (hb : Below w.heap.size w w') : Bytes w' a len := by
  rcases h with h | ⟨b, o, ha, hlt, hz⟩
  · exact .inl h
  · refine .inr ⟨b, o, ha, Nat.lt_of_lt_of_le hlt hb.size, fun i hi => ?_⟩
    obtain ⟨z, z0, z1, hc⟩ := hz i hi
    exact ⟨z, z0, z1, held_cell hb hc hlt⟩

theorem cur_start {w : World} {a : Option Addr} {len cap : Nat} (sd : Int) (t : Nat) (h : Bytes w a len) (hl : len ≤ 1048576) (s0 : 0 ≤ sd) (s1 : sd ≤ 65520) :
    Cur (w.alloc (.cells #[.slice a len cap, .int .i64 0, .int .i64 sd] t)) w.heap.size a len cap 0 := by
  refine ⟨0, sd, ⟨by simp, by simp [go_sem], by simp [go_sem], by simp [go_sem], fun o => by simp [go_sem], by omega, s0, s1⟩, by omega, ?_, hl⟩
  rcases h with h | ⟨b, o, ha, hlt, hz⟩
  · exact .inl h
  · refine .inr ⟨b, o, ha, hlt, fun i hi => ?_⟩
    obtain ⟨z, z0, z1, hc⟩ := hz i hi
    exact ⟨z, z0, z1, held_cell ((Below.refl _ _).alloc (Nat.le_refl _) _) hc hlt⟩

set_option maxHeartbeats 400000 in
theorem open_any (a : Option Addr) (len cap : Nat) (w : World) (h : Bytes w a len) (hl : len ≤ 1048576) :
    Calls Try.prog 57 #[.slice a len cap] w fun e w' => e = .returned (.pointer (some ⟨w.heap.size, 0, none⟩)) ∧ Cur w' w.heap.size a len cap 0 ∧ Below w.heap.size w w' := by
  have HB : Hid (Bytes w a len) := h
  clear h
  go_enter Try.func57, Try.ntmps57
  go_wp2
  go_ret
  exact ⟨rfl, cur_start _ _ HB.out hl (by omega) (by omega), (Below.refl _ _).alloc (Nat.le_refl _) _⟩

theorem TagBox.set0 {w : World} {b : Nat} {c s q : Int} (h : TagBox w b c s q) (x : Int) : TagBox (w.setCell ⟨b, 0, none⟩ (.int .i64 x)) b x s q :=
  ⟨by simpa [World.setCell] using h.lt, cell_set_same h.c0, cell_set_off h.c1 (by omega), cell_set_off h.c2 (by omega), fun o => by rw [World.frozen?_setCell]; exact h.fz o⟩

theorem TagBox.set1 {w : World} {b : Nat} {c s q : Int} (h : TagBox w b c s q) (x : Int) : TagBox (w.setCell ⟨b, 1, none⟩ (.int .i64 x)) b c x q :=
  ⟨by simpa [World.setCell] using h.lt, cell_set_off h.c0 (by omega), cell_set_same h.c1, cell_set_off h.c2 (by omega), fun o => by rw [World.frozen?_setCell]; exact h.fz o⟩

theorem TagBox.set2 {w : World} {b : Nat} {c s q : Int} (h : TagBox w b c s q) (x : Int) : TagBox (w.setCell ⟨b, 2, none⟩ (.int .i64 x)) b c s x :=
  ⟨by simpa [World.setCell] using h.lt, cell_set_off h.c0 (by omega), cell_set_off h.c1 (by omega), cell_set_same h.c2, fun o => by rw [World.frozen?_setCell]; exact h.fz o⟩

/-- How a tag's drawing ends, out of any world in which both boxes stand. -/
theorem tag_end {B R : Nat} {a : Option Addr} {len cap : Nat} {N : Int} {w w' : World} {c s q : Int} (hR : w.heap.size ≤ R) (hB : B < w.heap.size) (hc : Cur w' B a len cap N) (hh : Hole B w w') :
    Cur (((w'.setCell ⟨R, 0, none⟩ (.int .i64 c)).setCell ⟨R, 1, none⟩ (.int .i64 s)).setCell ⟨R, 2, none⟩ (.int .i64 q)) B a len cap N ∧ Hole B w (((w'.setCell ⟨R, 0, none⟩ (.int .i64 c)).setCell ⟨R, 1, none⟩ (.int .i64 s)).setCell ⟨R, 2, none⟩ (.int .i64 q)) :=
  ⟨((hc.setOther (by omega) 0 _).setOther (by omega) 1 _).setOther (by omega) 2 _, ((hh.setNew hR 0 _).setNew hR 1 _).setNew hR 2 _⟩

set_option maxHeartbeats 2000000 in
theorem tag_any (B : Nat) (a : Option Addr) (len cap : Nat) (N : Int) (w : World) (hN : N ≤ 10000) (h : Cur w B a len cap N) :
    Calls Try.prog 94 #[.pointer (some ⟨B, 0, none⟩)] w fun e w' => ∃ c s q : Int, e = .returned (tagV c s q) ∧ Cur w' B a len cap (N + 9) ∧ Hole B w w' := by
  have HC : Hid (Cur w B a len cap N) := h
  have hB := h.lt
  clear h
  go_enter Try.func94, Try.ntmps94
  go_wp2_with fail
  have HRb : Hid (TagBox (w.alloc (.cells #[.int .i64 0, .int .i64 0, .int .i64 0] 38)) w.heap.size 0 0 0) := TagBox.start _ _ _ _ _
  have HA : Hid (Below w.heap.size w (w.alloc (.cells #[.int .i64 0, .int .i64 0, .int .i64 0] 38))) := (Below.refl _ _).alloc (Nat.le_refl _) _
  refine (pick_any B a len cap N 12 _ (by omega) (by omega) (by omega) (HC.out.below HA.out)).mono ?_
  rintro e w1 ⟨r1, rfl, q10, q11, hc1, hh1⟩
  have HC1 : Hid (Cur w1 B a len cap (N + 1)) := hc1
  have HR1 : Hid (TagBox w1 w.heap.size 0 0 0) := HRb.out.hole hh1 (by omega)
  have HH1 : Hid (Hole B w w1) := (Hole.of_below HA.out).trans hh1
  clear hc1 hh1 HRb HA
  go_wp2_with fail
  refine (pick_any B a len cap (N + 1) 4 _ (by omega) (by omega) (by omega) HC1.out).mono ?_
  rintro e w2 ⟨r2, rfl, q20, q21, hc2, hh2⟩
  have HC2 : Hid (Cur w2 B a len cap (N + 2)) := hc2.more (by omega)
  have HR2 : Hid (TagBox w2 w.heap.size 0 0 0) := HR1.out.hole hh2 (by omega)
  have HH2 : Hid (Hole B w w2) := HH1.out.trans hh2
  clear hc2 hh2 HC1 HR1 HH1
  go_wp2_with fail
  refine (pick_any B a len cap (N + 2) 6 _ (by omega) (by omega) (by omega) HC2.out).mono ?_
  rintro e w3 ⟨r3, rfl, q30, q31, hc3, hh3⟩
  have HC3 : Hid (Cur w3 B a len cap (N + 3)) := hc3.more (by omega)
  have HR3 : Hid (TagBox w3 w.heap.size 0 0 0) := HR2.out.hole hh3 (by omega)
  have HH3 : Hid (Hole B w w3) := HH2.out.trans hh3
  clear hc3 hh3 HC2 HR2 HH2
  have hz3 := HR3.out.lt
  go_wp2_with fail
  have HA : Hid (Below w3.heap.size w3 (w3.alloc (.cells #[.int .i64 (1 + r1), .int .i64 r2, .int .i64 (1 + r3)] 38))) := (Below.refl _ _).alloc (Nat.le_refl _) _
  have HT : Hid (TagBox (w3.alloc (.cells #[.int .i64 (1 + r1), .int .i64 r2, .int .i64 (1 + r3)] 38)) w3.heap.size (1 + r1) r2 (1 + r3)) := TagBox.start _ _ _ _ _
  refine (once_any B a len cap (N + 3) 14 _ (by omega) (by omega) (by omega) (HC3.out.below HA.out)).mono ?_
  rintro e w4 ⟨b4, rfl, hc4, hh4⟩
  have HC4 : Hid (Cur w4 B a len cap (N + 4)) := hc4.more (by omega)
  have HR4 : Hid (TagBox w4 w.heap.size 0 0 0) := (HR3.out.hole (Hole.of_below (B := B) HA.out) (by omega)).hole hh4 (by omega)
  have HT4 : Hid (TagBox w4 w3.heap.size (1 + r1) r2 (1 + r3)) := HT.out.hole hh4 (by omega)
  have HH4 : Hid (Hole B w w4) := (HH3.out.trans (Hole.of_below HA.out)).trans hh4
  clear hc4 hh4 HC3 HR3 HH3 HA HT
  generalize 1 + r1 = c at *
  generalize 1 + r3 = q at *
  cases b4
  · have x0 := HR4.out.c0
    have x1 := HR4.out.c1
    have x2 := HR4.out.c2
    have xf := HR4.out.fz
    have y0 := HT4.out.c0
    have y1 := HT4.out.c1
    have y2 := HT4.out.c2
    go_wp2
    have HE := tag_end (R := w.heap.size) (c := c) (s := r2) (q := q) (Nat.le_refl _) hB (HC4.out.more (by omega : N + 4 ≤ N + 9)) HH4.out
    exact bodyPost_ret (v := tagV c r2 q) (by simp [results, Try.results94, go_sem, x0, x1, x2]) rfl ⟨c, r2, q, rfl, HE.1, HE.2⟩
  · have xne : w3.heap.size ≠ w.heap.size := by omega
    go_wp2_with fail
    refine (pick_any B a len cap (N + 4) 3 _ (by omega) (by omega) (by omega) HC4.out).mono ?_
    rintro e w5 ⟨r5, rfl, q50, q51, hc5, hh5⟩
    have HC5 : Hid (Cur w5 B a len cap (N + 5)) := hc5.more (by omega)
    have HR5 : Hid (TagBox w5 w.heap.size 0 0 0) := HR4.out.hole hh5 (by omega)
    have HT5 : Hid (TagBox w5 w3.heap.size c r2 q) := HT4.out.hole hh5 (by omega)
    have HH5 : Hid (Hole B w w5) := HH4.out.trans hh5
    clear hc5 hh5 HC4 HR4 HT4 HH4
    by_cases k0 : r5 = 0
    · subst k0
      go_wp2_with fail
      refine (raw_any B a len cap (N + 5) _ (by omega) HC5.out).mono ?_
      rintro e w6 ⟨v, rfl, hc6, hh6⟩
      have HC6 : Hid (Cur w6 B a len cap (N + 7)) := hc6.more (by omega)
      have HR6 : Hid (TagBox w6 w.heap.size 0 0 0) := HR5.out.hole hh6 (by omega)
      have HT6 : Hid (TagBox w6 w3.heap.size c r2 q) := HT5.out.hole hh6 (by omega)
      have HH6 : Hid (Hole B w w6) := HH5.out.trans hh6
      clear hc6 hh6 HC5 HR5 HT5 HH5
      go_wp2_with fail
      have HA : Hid (Below w6.heap.size w6 (w6.alloc (.cells ((([v, 100000, 100001] : List Int).map (Value.int .i64)).toArray) 3))) := (Below.refl _ _).alloc (Nat.le_refl _) _
      refine (pick_any B a len cap (N + 7) 3 _ (by omega) (by omega) (by omega) (HC6.out.below HA.out)).mono ?_
      rintro e w7 ⟨r7, rfl, q70, q71, hc7, hh7⟩
      have hB6 := HC6.out.lt
      have hcell : w7.cell? ⟨w6.heap.size, r7.toNat, none⟩ = some (.int .i64 _) := (hh7.cell (by simp) (by omega)).trans (ints_cell w6 [v, 100000, 100001] _ r7.toNat (by simp; omega))
      generalize List.getD [v, 100000, 100001] r7.toNat 0 = u at hcell
      have HC7 : Hid (Cur w7 B a len cap (N + 8)) := hc7.more (by omega)
      have HR7 : Hid (TagBox w7 w.heap.size 0 0 0) := (HR6.out.hole (Hole.of_below (B := B) HA.out) (by omega)).hole hh7 (by omega)
      have HT7 : Hid (TagBox w7 w3.heap.size c r2 q) := (HT6.out.hole (Hole.of_below (B := B) HA.out) (by omega)).hole hh7 (by omega)
      have HH7 : Hid (Hole B w w7) := (HH6.out.trans (Hole.of_below HA.out)).trans hh7
      clear hc7 hh7 HC6 HR6 HT6 HH6 HA
      have x0 := HR7.out.c0
      have x1 := HR7.out.c1
      have x2 := HR7.out.c2
      have xf := HR7.out.fz
      have y0 := HT7.out.c0
      have y1 := HT7.out.c1
      have y2 := HT7.out.c2
      have yf := HT7.out.fz
      go_wp2
      have HE := tag_end (R := w.heap.size) (c := u) (s := r2) (q := q) (Nat.le_refl _) hB ((HC7.out.setOther (R := w3.heap.size) (by omega) 0 (.int .i64 u)).more (by omega : N + 8 ≤ N + 9)) (HH7.out.setNew (R := w3.heap.size) (by omega) 0 (.int .i64 u))
      exact bodyPost_ret (v := tagV u r2 q) (by simp [results, Try.results94, go_sem, x0, x1, x2]) rfl ⟨u, r2, q, rfl, HE.1, HE.2⟩
    · by_cases k1 : r5 = 1
      · subst k1
        go_wp2_with fail
        refine (raw_any B a len cap (N + 5) _ (by omega) HC5.out).mono ?_
        rintro e w6 ⟨v, rfl, hc6, hh6⟩
        have HC6 : Hid (Cur w6 B a len cap (N + 7)) := hc6.more (by omega)
        have HR6 : Hid (TagBox w6 w.heap.size 0 0 0) := HR5.out.hole hh6 (by omega)
        have HT6 : Hid (TagBox w6 w3.heap.size c r2 q) := HT5.out.hole hh6 (by omega)
        have HH6 : Hid (Hole B w w6) := HH5.out.trans hh6
        clear hc6 hh6 HC5 HR5 HT5 HH5
        have x0 := HR6.out.c0
        have x1 := HR6.out.c1
        have x2 := HR6.out.c2
        have xf := HR6.out.fz
        have y0 := HT6.out.c0
        have y1 := HT6.out.c1
        have y2 := HT6.out.c2
        have yf := HT6.out.fz
        go_wp2
        have HE := tag_end (R := w.heap.size) (c := c) (s := v) (q := q) (Nat.le_refl _) hB ((HC6.out.setOther (R := w3.heap.size) (by omega) 1 (.int .i64 v)).more (by omega : N + 7 ≤ N + 9)) (HH6.out.setNew (R := w3.heap.size) (by omega) 1 (.int .i64 v))
        exact bodyPost_ret (v := tagV c v q) (by simp [results, Try.results94, go_sem, x0, x1, x2]) rfl ⟨c, v, q, rfl, HE.1, HE.2⟩
      · have k0' : (r5 == 0) = false := by simp [k0]
        have k1' : (r5 == 1) = false := by simp [k1]
        clear k0 k1
        go_wp2_with fail
        refine (raw_any B a len cap (N + 5) _ (by omega) HC5.out).mono ?_
        rintro e w6 ⟨v, rfl, hc6, hh6⟩
        have HC6 : Hid (Cur w6 B a len cap (N + 7)) := hc6.more (by omega)
        have HR6 : Hid (TagBox w6 w.heap.size 0 0 0) := HR5.out.hole hh6 (by omega)
        have HT6 : Hid (TagBox w6 w3.heap.size c r2 q) := HT5.out.hole hh6 (by omega)
        have HH6 : Hid (Hole B w w6) := HH5.out.trans hh6
        clear hc6 hh6 HC5 HR5 HT5 HH5
        go_wp2_with fail
        have HA : Hid (Below w6.heap.size w6 (w6.alloc (.cells ((([v, 1000, 1001] : List Int).map (Value.int .i64)).toArray) 3))) := (Below.refl _ _).alloc (Nat.le_refl _) _
        refine (pick_any B a len cap (N + 7) 3 _ (by omega) (by omega) (by omega) (HC6.out.below HA.out)).mono ?_
        rintro e w7 ⟨r7, rfl, q70, q71, hc7, hh7⟩
        have hB6 := HC6.out.lt
        have hcell : w7.cell? ⟨w6.heap.size, r7.toNat, none⟩ = some (.int .i64 _) := (hh7.cell (by simp) (by omega)).trans (ints_cell w6 [v, 1000, 1001] _ r7.toNat (by simp; omega))
        generalize List.getD [v, 1000, 1001] r7.toNat 0 = u at hcell
        have HC7 : Hid (Cur w7 B a len cap (N + 8)) := hc7.more (by omega)
        have HR7 : Hid (TagBox w7 w.heap.size 0 0 0) := (HR6.out.hole (Hole.of_below (B := B) HA.out) (by omega)).hole hh7 (by omega)
        have HT7 : Hid (TagBox w7 w3.heap.size c r2 q) := (HT6.out.hole (Hole.of_below (B := B) HA.out) (by omega)).hole hh7 (by omega)
        have HH7 : Hid (Hole B w w7) := (HH6.out.trans (Hole.of_below HA.out)).trans hh7
        clear hc7 hh7 HC6 HR6 HT6 HH6 HA
        have x0 := HR7.out.c0
        have x1 := HR7.out.c1
        have x2 := HR7.out.c2
        have xf := HR7.out.fz
        have y0 := HT7.out.c0
        have y1 := HT7.out.c1
        have y2 := HT7.out.c2
        have yf := HT7.out.fz
        go_wp2
        have HE := tag_end (R := w.heap.size) (c := c) (s := r2) (q := u) (Nat.le_refl _) hB ((HC7.out.setOther (R := w3.heap.size) (by omega) 2 (.int .i64 u)).more (by omega : N + 8 ≤ N + 9)) (HH7.out.setNew (R := w3.heap.size) (by omega) 2 (.int .i64 u))
        exact bodyPost_ret (v := tagV c r2 u) (by simp [results, Try.results94, go_sem, x0, x1, x2]) rfl ⟨c, r2, u, rfl, HE.1, HE.2⟩

end Go.Proofs.Ytojgahcogpediaa

/- Plain facts on signs and orders: no Go in sight. -/
namespace Go.Proofs.Ytojgahcogpediaa

def sgn (a b : Int) : Int := if a < b then -1 else if b < a then 1 else 0

def tcmp (c s q c' s' q' : Int) : Int := if c ≠ c' then sgn c c' else if s ≠ s' then sgn s s' else sgn q q'

def orI : List Int → Int
  | [] => 0
  | x :: r => if x ≠ 0 then x else orI r

theorem sgn_zero {a b : Int} : sgn a b = 0 ↔ a = b := by
  unfold sgn
  split
  · omega
  · split <;> omega

theorem sgn_self (a : Int) : sgn a a = 0 := sgn_zero.2 rfl

theorem sgn_bd (a b : Int) : -1 ≤ sgn a b ∧ sgn a b ≤ 1 := by
  unfold sgn
  split
  · omega
  · split <;> omega

theorem sgn_neg (a b : Int) : sgn b a = - sgn a b := by
  unfold sgn
  rcases Int.lt_trichotomy a b with h | h | h
  · have h' : ¬ b < a := by omega
    rw [if_neg h', if_pos h, if_pos h]
    decide
  · subst h
    simp
  · have h' : ¬ a < b := by omega
    rw [if_pos h, if_neg h', if_pos h]

theorem orI_three (c s q c' s' q' : Int) : orI [sgn c c', sgn s s', sgn q q'] = tcmp c s q c' s' q' := by
  simp only [orI, tcmp, ne_eq, sgn_zero]
  by_cases h1 : c = c'
  · by_cases h2 : s = s'
    · by_cases h3 : q = q'
      · simp [h1, h2, h3, sgn_self]
      · simp [h1, h2, h3]
    · simp [h1, h2]
  · simp [h1]

theorem tcmp_zero {c s q c' s' q' : Int} : tcmp c s q c' s' q' = 0 ↔ (c = c' ∧ s = s' ∧ q = q') := by
  unfold tcmp
  by_cases h1 : c = c'
  · by_cases h2 : s = s'
    · simp [h1, h2, sgn_zero]
    · simp [h1, h2, sgn_zero]
  · simp [h1, sgn_zero]

theorem tcmp_self (c s q : Int) : tcmp c s q c s q = 0 := tcmp_zero.2 ⟨rfl, rfl, rfl⟩

theorem tcmp_bd (c s q c' s' q' : Int) : -1 ≤ tcmp c s q c' s' q' ∧ tcmp c s q c' s' q' ≤ 1 := by
  unfold tcmp
  split
  · exact sgn_bd _ _
  · split
    · exact sgn_bd _ _
    · exact sgn_bd _ _

end Go.Proofs.Ytojgahcogpediaa

/- Dependencies in memory; contracts of what is small: toDep, eqTag, eqDep, szDepS, l01Key, keyOk. -/
namespace Go.Proofs.Ytojgahcogpediaa
open Go.ChangeShapes Go.WideShapes Go.ChangeAt Go.RowKit Go.Joins

structure Dp where
  k : Int
  c : Int
  s : Int
  q : Int

def dz : Dp := ⟨0, 0, 0, 0⟩

abbrev depV (k c s q : Int) : Value := .agg #[.int .i64 k, .int .i64 c, .int .i64 s, .int .i64 q]

theorem key_any (n : Int) (w : World) :
    Calls Try.prog 72 #[.int .i64 n] w fun e w' => e = .returned (.bool (btw n 0 5)) ∧ w' = w := by
  go_enter Try.func72, Try.ntmps72
  go_wp2_with (go_at_call 32; refine (between_any _ _ _ _).mono ?_; rintro e w' ⟨rfl, rfl⟩)
  go_ret
  exact ⟨rfl, rfl⟩

theorem keyOk_any (n : Int) (w : World) :
    Calls Try.prog 77 #[.int .i64 n] w fun e w' => e = .returned (.bool (btw n 0 5)) ∧ w' = w := by
  go_enter Try.func77, Try.ntmps77
  go_wp2_with (go_at_call 37; refine (inRange_any _ _ _ _).mono ?_; rintro e w' ⟨rfl, rfl⟩)
  go_ret
  exact ⟨rfl, rfl⟩

theorem key_is (n : Int) (v : Bool) (h : btw n 0 5 = v) (w : World) :
    Calls Try.prog 72 #[.int .i64 n] w fun e w' => e = .returned (.bool v) ∧ w' = w := by
  subst h
  exact key_any n w

theorem keyOk_is (n : Int) (v : Bool) (h : btw n 0 5 = v) (w : World) :
    Calls Try.prog 77 #[.int .i64 n] w fun e w' => e = .returned (.bool v) ∧ w' = w := by
  subst h
  exact keyOk_any n w

theorem specTagOk_is (c s q : Int) (v : Bool) (h : tagOkB c s q = v) (w : World) :
    Calls Try.prog 73 #[tagV c s q] w fun e w' => e = .returned (.bool v) ∧ Below w.heap.size w w' := by
  subst h
  exact specTagOk_any c s q w

theorem implTagOk_is (c s q : Int) (v : Bool) (h : tagOkB c s q = v) (w : World) :
    Calls Try.prog 78 #[tagV c s q] w fun e w' => e = .returned (.bool v) ∧ Below w.heap.size w w' := by
  subst h
  exact implTagOk_any c s q w

theorem szDepS_small (a : Option Addr) (len cap : Nat) (left : Int) (w : World) (h0 : 0 ≤ left) (h1 : left ≤ 1048576) (h : (len : Int) ≤ left) :
    Calls Try.prog 84 #[.slice a len cap, .int .i64 left] w fun e w' => e = .returned (.int .i64 (left - len)) ∧ w' = w := by
  go_enter Try.func84, Try.ntmps84
  go_wp2
  go_ret
  exact ⟨rfl, rfl⟩

theorem szDepS_big (a : Option Addr) (len cap : Nat) (left : Int) (w : World) (h0 : 0 ≤ left) (h1 : left ≤ 1048576) (h : left < (len : Int)) (hm : len ≤ maxLen) :
    Calls Try.prog 84 #[.slice a len cap, .int .i64 left] w fun e w' => e = .returned (.int .i64 (-1)) ∧ w' = w := by
  unfold maxLen at hm
  go_enter Try.func84, Try.ntmps84
  go_wp2
  go_ret
  exact ⟨rfl, rfl⟩

set_option maxHeartbeats 400000 in
theorem eqTag_same (c s q : Int) (w : World) :
    Calls Try.prog 46 #[tagV c s q, tagV c s q] w fun e w' => e = .returned (.bool true) ∧ Below w.heap.size w w' := by
  go_enter Try.func46, Try.ntmps46
  go_wp2
  go_ret
  exact ⟨rfl, ((Below.refl _ _).alloc (Nat.le_refl _) _).alloc (by simp) _⟩

set_option maxHeartbeats 400000 in
theorem eqDep_same (k c s q : Int) (w : World) :
    Calls Try.prog 87 #[depV k c s q, depV k c s q] w fun e w' => e = .returned (.bool true) ∧ Below w.heap.size w w' := by
  go_enter Try.func87, Try.ntmps87
  go_wp2_with fail
  refine (eqTag_same _ _ _ _).mono ?_
  rintro e w1 ⟨rfl, hb1⟩
  have HB : Hid (Below w.heap.size w w1) := below_step (((Below.refl _ _).alloc (Nat.le_refl _) _).alloc (by simp) _) (by simp; omega) hb1
  clear hb1
  go_wp2
  go_ret
  exact ⟨rfl, HB.out⟩

set_option maxHeartbeats 400000 in
theorem toDep_any (k c s q : Int) (w : World) :
    Calls Try.prog 93 #[depV k c s q] w fun e w' => e = .returned (depV k c s q) ∧ Below w.heap.size w w' := by
  go_enter Try.func93, Try.ntmps93
  go_wp2_with fail
  refine (toTag_any _ _ _ _).mono ?_
  rintro e w1 ⟨rfl, hb1⟩
  obtain ⟨hc, hf⟩ := bcell hb1
  have hz : w.heap.size + 1 + 1 < w1.heap.size := by have := hb1.size; simp at this; omega
  have HB : Hid (Below w.heap.size w w1) := below_step ((((Below.refl _ _).alloc (Nat.le_refl _) _).alloc (by simp) _).alloc (by simp; omega) _) (by simp; omega) hb1
  clear hb1
  go_wp2
  exact bodyPost_ret (v := depV k c s q) (by simp [results, Try.results93, go_sem, hc]) rfl ⟨rfl, ((((((HB.out.setCell (by simp; omega) _).setCell (by simp; omega) _).setCell (by simp; omega) _).setCell (by simp) _).setCell (by simp) _).setCell (by simp) _).setCell (by simp) _⟩

/-- The cells of block b from place o on hold the list xs. -/
def HoldsDeps (w : World) (b o : Nat) (xs : List Dp) : Prop :=
  ∀ i, i < xs.length → w.cell? ⟨b, o + i * 4, none⟩ = some (.int .i64 (xs.getD i dz).k) ∧ w.cell? ⟨b, o + i * 4 + 1, none⟩ = some (.int .i64 (xs.getD i dz).c) ∧
    w.cell? ⟨b, o + i * 4 + 2, none⟩ = some (.int .i64 (xs.getD i dz).s) ∧ w.cell? ⟨b, o + i * 4 + 3, none⟩ = some (.int .i64 (xs.getD i dz).q)

theorem HoldsDeps.below {w w' : World} {b o B : Nat} {xs : List Dp} (h : HoldsDeps w b o xs) (hb : Below B w w') (hB : b < B) : HoldsDeps w' b o xs := by
  intro i hi
  obtain ⟨h0, h1, h2, h3⟩ := h i hi
  exact ⟨(hb.cell (p := ⟨b, _, none⟩) hB).trans h0, (hb.cell (p := ⟨b, _, none⟩) hB).trans h1, (hb.cell (p := ⟨b, _, none⟩) hB).trans h2, (hb.cell (p := ⟨b, _, none⟩) hB).trans h3⟩

/-- What a slice of dependencies leads to: where it is not empty, to a row that holds xs. -/
def IsDeps (w : World) (a : Option Addr) (xs : List Dp) : Prop := xs = [] ∨ ∃ b o, a = some ⟨b, o, none⟩ ∧ b < w.heap.size ∧ HoldsDeps w b o xs

theorem IsDeps.below {w w' : World} {a : Option Addr} {xs : List Dp} (h : IsDeps w a xs) (hb : Below w.heap.size w w') : IsDeps w' a xs := by
  rcases h with h | ⟨b, o, ha, hlt, hh⟩
  · exact .inl h
  · exact .inr ⟨b, o, ha, Nat.lt_of_lt_of_le hlt hb.size, hh.below hb hlt⟩

/-- One dependency of a slice that is not empty, in this world and in each later one. -/
theorem IsDeps.at {w w' : World} {a : Option Addr} {xs : List Dp} (h : IsDeps w a xs) (hb : Below w.heap.size w w') {k : Nat} (hk : k < xs.length) :
    ∃ b o, a = some ⟨b, o, none⟩ ∧ b < w'.heap.size ∧ w'.cell? ⟨b, o + k * 4, none⟩ = some (.int .i64 (xs.getD k dz).k) ∧ w'.cell? ⟨b, o + k * 4 + 1, none⟩ = some (.int .i64 (xs.getD k dz).c) ∧
    w'.cell? ⟨b, o + k * 4 + 2, none⟩ = some (.int .i64 (xs.getD k dz).s) ∧ w'.cell? ⟨b, o + k * 4 + 3, none⟩ = some (.int .i64 (xs.getD k dz).q) := by
  rcases h with h | ⟨b, o, ha, hlt, hh⟩
  · subst h
    simp at hk
  · exact ⟨b, o, ha, Nat.lt_of_lt_of_le hlt hb.size, (hh.below hb hlt) k hk⟩

theorem IsDeps.cells {w w' : World} {b o : Nat} {xs : List Dp} (h : IsDeps w (some ⟨b, o, none⟩) xs) (hb : Below w.heap.size w w') {k : Nat} (hk : k < xs.length) :
    b < w'.heap.size ∧ w'.cell? ⟨b, o + k * 4, none⟩ = some (.int .i64 (xs.getD k dz).k) ∧ w'.cell? ⟨b, o + k * 4 + 1, none⟩ = some (.int .i64 (xs.getD k dz).c) ∧
    w'.cell? ⟨b, o + k * 4 + 2, none⟩ = some (.int .i64 (xs.getD k dz).s) ∧ w'.cell? ⟨b, o + k * 4 + 3, none⟩ = some (.int .i64 (xs.getD k dz).q) := by
  obtain ⟨b', o', he, h1⟩ := h.at hb hk
  injection he with he
  injection he with e1 e2
  subst e1 e2
  exact h1

def depGood (xs : List Dp) (i : Nat) : Bool :=
  btw (xs.getD i dz).k 0 5 && (tagOkB (xs.getD i dz).c (xs.getD i dz).s (xs.getD i dz).q && decide (i = 0 ∨ (xs.getD (i - 1) dz).k < (xs.getD i dz).k))

def depsOkB (xs : List Dp) : Bool := (List.range xs.length).all (depGood xs)

theorem depsOk_true {xs : List Dp} (h : ∀ i, i < xs.length → depGood xs i = true) : depsOkB xs = true := by
  unfold depsOkB
  rw [List.all_eq_true]
  intro i hi
  exact h i (List.mem_range.1 hi)

theorem depsOk_false {xs : List Dp} {i : Nat} (hi : i < xs.length) (h : depGood xs i = false) : depsOkB xs = false := by
  unfold depsOkB
  rw [List.all_eq_false]
  exact ⟨i, List.mem_range.2 hi, by simp [h]⟩

end Go.Proofs.Ytojgahcogpediaa

/- The contract of the cursor's deps. -/
namespace Go.Proofs.Ytojgahcogpediaa
open Go.ChangeShapes Go.WideShapes Go.ChangeAt Go.RowKit Go.Joins

theorem Cur.belowAt {w w' : World} {B c : Nat} {a : Option Addr} {len cap : Nat} {N : Int} (h : Cur w B a len cap N) (hb : Below c w w') (hB : B < c) : Cur w' B a len cap N := by
  obtain ⟨at_, seed, hc, hN, hk, hl⟩ := h
  have hcell : ∀ b o, b < c → w'.cell? ⟨b, o, none⟩ = w.cell? ⟨b, o, none⟩ := fun b o h => hb.cell (p := ⟨b, o, none⟩) h
  refine ⟨at_, seed, ⟨Nat.lt_of_lt_of_le hc.lt hb.size, (hcell _ _ hB).trans hc.c0, (hcell _ _ hB).trans hc.c1, (hcell _ _ hB).trans hc.c2, fun o => (hb.frozen (p := ⟨B, o, none⟩) hB).trans (hc.fz o), hc.p0, hc.s0, hc.s1⟩, hN, ?_, hl⟩
  rcases hk with h0 | ⟨b, o, ha, hlt, hz⟩
  · exact .inl h0
  · refine .inr ⟨b, o, ha, hlt, fun i hi => ?_⟩
    obtain ⟨z, z0, z1, hcz⟩ := hz i hi
    exact ⟨z, z0, z1, (hcell _ _ (by omega)).trans hcz⟩

theorem Hole.belowAt {B : Nat} {w0 w w' : World} (h : Hole B w0 w) (hb : Below w0.heap.size w w') : Hole B w0 w' :=
  ⟨hb.os.trans h.os, hb.tape.trans h.tape, hb.output.trans h.output, Nat.le_trans h.size hb.size, fun k hk hn => (hb.block k hk).trans (h.block k hk hn)⟩

def flat (ds : List Dp) : List Value := ds.flatMap fun d => [.int .i64 d.k, .int .i64 d.c, .int .i64 d.s, .int .i64 d.q]

theorem flat_length : ∀ ds : List Dp, (flat ds).length = ds.length * 4
  | [] => rfl
  | d :: r => by
    have := flat_length r
    simp only [flat, List.flatMap_cons, List.length_append, List.length_cons, List.length_nil] at this ⊢
    omega

theorem flat_snoc (ds : List Dp) (d : Dp) : flat (ds ++ [d]) = flat ds ++ [.int .i64 d.k, .int .i64 d.c, .int .i64 d.s, .int .i64 d.q] := by
  simp [flat]

theorem flat_at : ∀ (ds : List Dp) (i : Nat), i < ds.length → (flat ds)[i * 4]? = some (.int .i64 (ds.getD i dz).k) ∧ (flat ds)[i * 4 + 1]? = some (.int .i64 (ds.getD i dz).c) ∧ (flat ds)[i * 4 + 2]? = some (.int .i64 (ds.getD i dz).s) ∧ (flat ds)[i * 4 + 3]? = some (.int .i64 (ds.getD i dz).q)
  | [], _, h => by simp at h
  | d :: r, 0, _ => by simp [flat]
  | d :: r, i + 1, h => by
    have ih := flat_at r i (by simpa using h)
    have e : flat (d :: r) = [.int .i64 d.k, .int .i64 d.c, .int .i64 d.s, .int .i64 d.q] ++ flat r := by simp [flat]
    rw [e]
    have g : (d :: r).getD (i + 1) dz = r.getD i dz := by simp
    rw [g]
    refine ⟨?_, ?_, ?_, ?_⟩
    · rw [List.getElem?_append_right (by simp; omega)]
      simpa [show (i + 1) * 4 - 4 = i * 4 by omega] using ih.1
    · rw [List.getElem?_append_right (by simp; omega)]
      simpa [show (i + 1) * 4 + 1 - 4 = i * 4 + 1 by omega] using ih.2.1
    · rw [List.getElem?_append_right (by simp; omega)]
      simpa [show (i + 1) * 4 + 2 - 4 = i * 4 + 2 by omega] using ih.2.2.1
    · rw [List.getElem?_append_right (by simp; omega)]
      simpa [show (i + 1) * 4 + 3 - 4 = i * 4 + 3 by omega] using ih.2.2.2

/-- A list of dependencies of the call's own: its slice, and the row that it leads to. -/
structure OwnDeps (w : World) (base g cap : Nat) (ds : List Dp) : Prop where
  le : base ≤ g
  lt : g < w.heap.size
  own : w.ownsRow base 98 4 (.slice (some ⟨g, 0, none⟩) ds.length cap) ds.length (flat ds)

theorem OwnDeps.holds {w : World} {base g cap : Nat} {ds : List Dp} (h : OwnDeps w base g cap ds) : HoldsDeps w g 0 ds := by
  intro i hi
  obtain ⟨_, h1 | ⟨g', cap', cur, hv, _, hb, _, _, _, htake⟩⟩ := h.own
  · obtain ⟨h1, _⟩ := h1
    cases h1
  · have hg : g = g' := by
      injection hv with h1
      injection h1 with h1
      injection h1
    subst hg
    have hc : ∀ j, j < ds.length * 4 → w.cell? ⟨g, j, none⟩ = (flat ds)[j]? := by
      intro j hj
      rw [cell_of_row w g j cur _ _ hb, ← htake, List.getElem?_take_of_lt hj]
      simp
    have ha := flat_at ds i hi
    rw [Nat.zero_add]
    exact ⟨(hc _ (by omega)).trans ha.1, (hc _ (by omega)).trans ha.2.1, (hc _ (by omega)).trans ha.2.2.1, (hc _ (by omega)).trans ha.2.2.2⟩

theorem OwnDeps.hole {w w' : World} {B base g cap : Nat} {ds : List Dp} (h : OwnDeps w base g cap ds) (hh : Hole B w w') (hB : B < base) : OwnDeps w' base g cap ds := by
  refine ⟨h.le, Nat.lt_of_lt_of_le h.lt hh.size, h.own.1, ?_⟩
  rcases h.own.2 with h1 | ⟨g', cap', cur, hv, hb, hblk, r1, r2, r3, r4⟩
  · exact .inl h1
  · have hg : g = g' := by
      injection hv with h1
      injection h1 with h1
      injection h1
    subst hg
    exact .inr ⟨g, cap', cur, hv, hb, (hh.block g h.lt (by have := h.le; omega)).trans hblk, r1, r2, r3, r4⟩

theorem infoDep' : (Try.prog.info? 98).map (fun i => (i.zero, i.size, i.bytes)) = some (some (depV 0 0 0 0), 4, 32) := by kernel_rfl

theorem own_start (w : World) (base : Nat) (hb : base ≤ w.heap.size) : OwnDeps (w.alloc (.cells #[] 98)) base w.heap.size 0 [] :=
  ⟨hb, by simp, World.ownsRow_made w #[] 0 hb (by simp [maxLen]) (by simp)⟩

/-- Behind an append of one element. -/
theorem own_next {w W w1 : World} {base g g' cap' : Nat} {ds : List Dp} {d : Dp} (hle : base ≤ g) (hW : Below w.heap.size w W)
    (hown1 : w1.ownsRow base 98 4 (.slice (some ⟨g', 0, none⟩) (ds.length + 1) cap') (ds.length + 1) (flat ds ++ [.int .i64 d.k, .int .i64 d.c, .int .i64 d.s, .int .i64 d.q])) (hgrow : W.grownBy w1 (some g)) (hlt : g' < w1.heap.size) (hb : base ≤ w.heap.size) :
    OwnDeps w1 base g' cap' (ds ++ [d]) ∧ Below base w w1 := by
  have e : (ds ++ [d]).length = ds.length + 1 := by simp
  refine ⟨⟨?_, hlt, by rw [e, flat_snoc]; exact hown1⟩, ?_⟩
  · rcases hown1.2 with h1 | ⟨g2, _, _, hv, hb2, _⟩
    · obtain ⟨h1, _⟩ := h1
      cases h1
    · have hg : g' = g2 := by
        injection hv with h1
        injection h1 with h1
        injection h1
      omega
  · exact (hW.mono hb).trans ((Below.refl base W).grown hgrow (Nat.le_trans hb hW.size) (fun k hk => by injection hk with hk; omega))

set_option maxRecDepth 100000 in
set_option maxHeartbeats 4000000 in
theorem deps_any (B : Nat) (a : Option Addr) (len cap : Nat) (N : Int) (w : World) (hN : N ≤ 5000) (h : Cur w B a len cap N) :
    Calls Try.prog 95 #[.pointer (some ⟨B, 0, none⟩)] w fun e w' => ∃ (g cp : Nat) (ds : List Dp), e = .returned (.slice (some ⟨g, 0, none⟩) ds.length cp) ∧ ds.length ≤ 7 ∧ OwnDeps w' w.heap.size g cp ds ∧ Cur w' B a len cap (N + 40) ∧ Hole B w w' := by
  have HC : Hid (Cur w B a len cap N) := h
  have hB := h.lt
  obtain ⟨i0, hi0, hz0, hz1, hz2⟩ := info_parts infoDep'
  have HI0 : Hid (Try.prog.info? 98 = some i0) := hi0
  have HZ0 : Hid (i0.zero = some (depV 0 0 0 0)) := hz0
  have HZ1 : Hid (i0.size = 4) := hz1
  have HZ2 : Hid (i0.bytes = 32) := hz2
  clear h hi0 hz0 hz1 hz2
  go_enter Try.func95, Try.ntmps95
  go_wp2
  go_loopw [3, 4] (fun o i wr => ∃ (j g cp : Nat) (ds : List Dp), j ≤ 6 ∧ ds.length ≤ j ∧ i = .int .i64 j ∧ o = .slice (some ⟨g, 0, none⟩) ds.length cp ∧ Hid (OwnDeps wr w.heap.size g cp ds) ∧ Hid (Cur wr B a len cap (N + 4 * j)) ∧ Hid (Hole B w wr)) (fun _ i _ => 6 - (intOf i).toNat)
  case atStart => exact ⟨0, w.heap.size, 0, [], by omega, by simp, rfl, rfl, own_start w _ (Nat.le_refl _), (HC.out.below ((Below.refl _ _).alloc (Nat.le_refl _) _)).more (by omega), Hole.of_below ((Below.refl _ _).alloc (Nat.le_refl _) _)⟩
  case round =>
    obtain ⟨j, g, cp, ds, hj, hds, rfl, rfl, HO, HC1, HH⟩ := hrel
    by_cases hj' : j < 6
    · have i1 : (j : Int) < 6 := by omega
      go_wp2_with fail
      refine (pick_any B a len cap (N + 4 * j) 4 _ (by omega) (by omega) (by omega) HC1.out).mono ?_
      rintro e w1 ⟨r1, rfl, q10, q11, hc1, hh1⟩
      have HC2 : Hid (Cur w1 B a len cap (N + 4 * j + 1)) := hc1
      have HO2 : Hid (OwnDeps w1 w.heap.size g cp ds) := HO.out.hole hh1 hB
      have HH2 : Hid (Hole B w w1) := HH.out.trans hh1
      clear hc1 hh1 HO HC1 HH
      by_cases k0 : r1 = 0
      · subst k0
        go_wp2_with fail
        refine (pick_any B a len cap (N + 4 * j + 1) 4 _ (by omega) (by omega) (by omega) HC2.out).mono ?_
        rintro e w2 ⟨r2, rfl, q20, q21, hc2, hh2⟩
        have HC3 : Hid (Cur w2 B a len cap (N + 4 * j + 2)) := hc2.more (by omega)
        have HO3 : Hid (OwnDeps w2 w.heap.size g cp ds) := HO2.out.hole hh2 hB
        have HH3 : Hid (Hole B w w2) := HH2.out.trans hh2
        clear hc2 hh2 HO2 HC2 HH2
        go_wp2_with fail
        refine (pick_any B a len cap (N + 4 * j + 2) 4 _ (by omega) (by omega) (by omega) HC3.out).mono ?_
        rintro e w3 ⟨r3, rfl, q30, q31, hc3, hh3⟩
        have HC4 : Hid (Cur w3 B a len cap (N + 4 * j + 3)) := hc3.more (by omega)
        have HO4 : Hid (OwnDeps w3 w.heap.size g cp ds) := HO3.out.hole hh3 hB
        have HH4 : Hid (Hole B w w3) := HH3.out.trans hh3
        clear hc3 hh3 HO3 HC3 HH3
        go_wp2_with fail
        refine (pick_any B a len cap (N + 4 * j + 3) 4 _ (by omega) (by omega) (by omega) HC4.out).mono ?_
        rintro e w4 ⟨r4, rfl, q40, q41, hc4, hh4⟩
        have HC5 : Hid (Cur w4 B a len cap (N + 4 * j + 4)) := hc4.more (by omega)
        have HO5 : Hid (OwnDeps w4 w.heap.size g cp ds) := HO4.out.hole hh4 hB
        have HH5 : Hid (Hole B w w4) := HH4.out.trans hh4
        clear hc4 hh4 HO4 HC4 HH4
        have hzw4 : w.heap.size ≤ w4.heap.size := HH5.out.size
        go_wp2_with (at_builtin; refine wpList_append_lies _ (by rfl) _ _ _ (by rfl) w.heap.size 98 i0 _ 4 32 Try.underlying39 HI0.out HZ0.out HZ1.out HZ2.out (by rfl) (by omega) (.slice (some ⟨g, 0, none⟩) ds.length cp) ds.length (flat ds) (by rfl) (HO5.out.own.alloc _) ⟨w4.heap.size, 0, none⟩ 1 1 [.int .i64 (j : Int), .int .i64 (1 + r2), .int .i64 r3, .int .i64 (1 + r4)] (by rfl) (by rfl) (World.news_of_block (cs := #[.int .i64 (j : Int), .int .i64 (1 + r2), .int .i64 r3, .int .i64 (1 + r4)]) (t := 98) (fr := (0, 0)) (heap_alloc_new w4 _)) (by simp [Value.oneCell']) (by omega) (by simp [maxLen]; omega) (by omega) (by simp; omega) (w4.heap.size + 1) (by simp) ?_; intro g' cp' w5 hown1 hgrow hat hlt)
        obtain ⟨hO6, hb6⟩ := own_next (d := ⟨(j : Int), 1 + r2, r3, 1 + r4⟩) HO5.out.le ((Below.refl w4.heap.size w4).alloc (Nat.le_refl _) _) hown1 hgrow hlt hzw4
        have HO6 : Hid (OwnDeps w5 w.heap.size g' cp' (ds ++ [⟨(j : Int), 1 + r2, r3, 1 + r4⟩])) := hO6
        have HC6 : Hid (Cur w5 B a len cap (N + 4 * (j + 1 : Nat))) := (HC5.out.belowAt hb6 hB).more (by omega)
        have HH6 : Hid (Hole B w w5) := HH5.out.belowAt hb6
        clear hO6 hb6 hown1 hgrow hat hlt HO5 HC5 HH5
        have HL : Hid ((ds ++ [(⟨(j : Int), 1 + r2, r3, 1 + r4⟩ : Dp)]).length = ds.length + 1) := by simp [Hid]
        go_wp2
        exact ⟨⟨j + 1, g', cp', ds ++ [⟨(j : Int), 1 + r2, r3, 1 + r4⟩], by omega, by rw [HL.out]; omega, by go_num, by rw [HL.out], HO6, HC6, HH6⟩, by simp [intOf]; omega⟩
      · have k0' : (r1 == 0) = false := by simp [k0]
        clear k0
        have HC3 : Hid (Cur w1 B a len cap (N + 4 * (j + 1 : Nat))) := HC2.out.more (by omega)
        go_wp2
        exact ⟨⟨j + 1, g, cp, ds, by omega, by omega, by go_num, rfl, HO2, HC3, HH2⟩, by simp [intOf]; omega⟩
    · have hj6 : j = 6 := by omega
      subst hj6
      go_wp2_with fail
      refine (once_any B a len cap (N + 24) 16 _ (by omega) (by omega) (by omega) (HC1.out.more (by omega))).mono ?_
      rintro e w1 ⟨b1, rfl, hc1, hh1⟩
      have HC2 : Hid (Cur w1 B a len cap (N + 25)) := hc1.more (by omega)
      have HO2 : Hid (OwnDeps w1 w.heap.size g cp ds) := HO.out.hole hh1 hB
      have HH2 : Hid (Hole B w w1) := HH.out.trans hh1
      clear hc1 hh1 HO HC1 HH
      cases b1
      · go_wp2
        go_ret
        exact ⟨g, cp, ds, rfl, by omega, HO2.out, HC2.out.more (by omega), HH2.out⟩
      · go_wp2_with fail
        refine (raw_any B a len cap (N + 25) _ (by omega) HC2.out).mono ?_
        rintro e w2 ⟨v, rfl, hc2, hh2⟩
        have HC3 : Hid (Cur w2 B a len cap (N + 27)) := hc2.more (by omega)
        have HO3 : Hid (OwnDeps w2 w.heap.size g cp ds) := HO2.out.hole hh2 hB
        have HH3 : Hid (Hole B w w2) := HH2.out.trans hh2
        clear hc2 hh2 HO2 HC2 HH2
        go_wp2_with fail
        refine (tag_any B a len cap (N + 27) _ (by omega) HC3.out).mono ?_
        rintro e w4 ⟨c, s, q, rfl, hc4, hh4⟩
        have HC5 : Hid (Cur w4 B a len cap (N + 36)) := hc4.more (by omega)
        have HO5 : Hid (OwnDeps w4 w.heap.size g cp ds) := HO3.out.hole hh4 hB
        have HH5 : Hid (Hole B w w4) := HH3.out.trans hh4
        clear hc4 hh4 HO3 HC3 HH3
        have hzw4 : w.heap.size ≤ w4.heap.size := HH5.out.size
        go_wp2_with (at_builtin; refine wpList_append_lies _ (by rfl) _ _ _ (by rfl) w.heap.size 98 i0 _ 4 32 Try.underlying39 HI0.out HZ0.out HZ1.out HZ2.out (by rfl) (by omega) (.slice (some ⟨g, 0, none⟩) ds.length cp) ds.length (flat ds) (by rfl) (HO5.out.own.alloc _) ⟨w4.heap.size, 0, none⟩ 1 1 [.int .i64 v, .int .i64 c, .int .i64 s, .int .i64 q] (by rfl) (by rfl) (World.news_of_block (cs := #[.int .i64 v, .int .i64 c, .int .i64 s, .int .i64 q]) (t := 98) (fr := (0, 0)) (heap_alloc_new w4 _)) (by simp [Value.oneCell']) (by omega) (by simp [maxLen]; omega) (by omega) (by simp; omega) (w4.heap.size + 1) (by simp) ?_; intro g' cp' w5 hown1 hgrow hat hlt)
        obtain ⟨hO6, hb6⟩ := own_next (d := ⟨v, c, s, q⟩) HO5.out.le ((Below.refl w4.heap.size w4).alloc (Nat.le_refl _) _) hown1 hgrow hlt hzw4
        have HO6 : Hid (OwnDeps w5 w.heap.size g' cp' (ds ++ [⟨v, c, s, q⟩])) := hO6
        have HC6 : Hid (Cur w5 B a len cap (N + 40)) := (HC5.out.belowAt hb6 hB).more (by omega)
        have HH6 : Hid (Hole B w w5) := HH5.out.belowAt hb6
        clear hO6 hb6 hown1 hgrow hat hlt HO5 HC5 HH5
        have HL : Hid ((ds ++ [(⟨v, c, s, q⟩ : Dp)]).length = ds.length + 1) := by simp [Hid]
        go_wp2
        go_ret
        exact ⟨g', cp', ds ++ [⟨v, c, s, q⟩], by rw [HL.out]; rfl, by rw [HL.out]; omega, HO6.out, HC6.out, HH6.out⟩

end Go.Proofs.Ytojgahcogpediaa

/- A region that draws its order, whose operations only read, and whose callees may make memory and turn nothing that was there: walked once, in the order of the text. The class of worlds: those that hold what was there ('Below'). -/
namespace Go.Proofs.Ytojgahcogpediaa
open Go.RowKit

structure Aft (B : Nat) (w : World) where
  now : World
  below : Below B w now

theorem wp_region_aft {P : Program} {id : Nat} {Q : Exit → Act → World → Prop} {a : Act} {w : World} {l : List Oper} (hm : P.follows .mixedOrders = true) (hB : Region.lexB .any l.toArray = true)
    (h : wpQuiet P l.toArray (fun w' => ∃ p : Aft w.heap.size w, w' = p.now) (fun a' => ∀ w', Below w.heap.size w w' → Q .normal a' w') l a) : (Code.region id l.toArray true).wp P Q a w := by
  refine wp_region_quiet (C := fun w' => ∃ p : Aft w.heap.size w, w' = p.now) hm hB ⟨⟨w.drew, (Below.refl _ _).drew⟩, rfl⟩ ?_
  have e : (fun a' => ∀ w', (∃ p : Aft w.heap.size w, w' = p.now) → Q .normal a' w') = (fun a' => ∀ w', Below w.heap.size w w' → Q .normal a' w') := by
    funext a'
    apply propext
    constructor
    · intro hh w' hb
      exact hh w' ⟨⟨w', hb⟩, rfl⟩
    · rintro hh w' ⟨p, rfl⟩
      exact hh _ p.below
  rw [e]
  simpa using h

theorem aft_some (w : World) : Nonempty (Aft w.heap.size w) := ⟨⟨w, Below.refl _ _⟩⟩

theorem aft_of {P : Program} {f : FuncId} {args : Array Value} {w : World} {p : Aft w.heap.size w} {v : Value}
    (h : Calls P f args p.now fun e w' => e = .returned v ∧ Below p.now.heap.size p.now w') : Calls P f args p.now fun e w'' => e = .returned v ∧ ∃ p' : Aft w.heap.size w, w'' = p'.now :=
  h.mono fun _ w'' ⟨he, hb⟩ => ⟨he, ⟨w'', p.below.trans (hb.mono p.below.size)⟩, rfl⟩

theorem aft_same {P : Program} {f : FuncId} {args : Array Value} {w : World} {p : Aft w.heap.size w} {v : Value}
    (h : Calls P f args p.now fun e w' => e = .returned v ∧ w' = p.now) : Calls P f args p.now fun e w'' => e = .returned v ∧ ∃ p' : Aft w.heap.size w, w'' = p'.now :=
  h.mono fun _ _ ⟨he, hb⟩ => ⟨he, p, hb⟩

theorem aft_cell {w : World} {b o : Nat} {v : Value} (hb : b < w.heap.size) (h : w.cell? ⟨b, o, none⟩ = some v) : ∀ p : Aft w.heap.size w, p.now.cell? ⟨b, o, none⟩ = some v :=
  fun p => (p.below.cell (p := ⟨b, o, none⟩) hb).trans h

end Go.Proofs.Ytojgahcogpediaa
