/- The cursor of the drawn inputs: its place in memory, and the contracts of l01Open, pick, once. -/
import Derived.Test.YtofejfmfbifphacDoorSmall
import Derived.BigQuiet
import Derived.Deep.QuietTactic
import Derived.WalkSmall
namespace Go.Proofs.YtofejfmfbifphacDoor
open Go.ChangeShapes Go.WideShapes Go.ChangeAt Go.RowKit Go.Joins

/-- Nothing that was there has turned, but for the one block B. -/
structure Hole (B : Nat) (w w' : World) : Prop where
  os : w'.os = w.os
  tape : w'.tape = w.tape
  output : w'.output = w.output
  size : w.heap.size ≤ w'.heap.size
  block : ∀ k, k < w.heap.size → k ≠ B → w'.heap[k]? = w.heap[k]?

theorem Hole.refl (B : Nat) (w : World) : Hole B w w := ⟨rfl, rfl, rfl, Nat.le_refl _, fun _ _ _ => rfl⟩

theorem Hole.trans {B : Nat} {a b c : World} (h : Hole B a b) (k : Hole B b c) : Hole B a c :=
  ⟨k.os.trans h.os, k.tape.trans h.tape, k.output.trans h.output, Nat.le_trans h.size k.size, fun i hi hn => (k.block i (Nat.lt_of_lt_of_le hi h.size) hn).trans (h.block i hi hn)⟩

theorem Hole.of_below {B : Nat} {w w' : World} (h : Below w.heap.size w w') : Hole B w w' := ⟨h.os, h.tape, h.output, h.size, fun k hk _ => h.block k hk⟩

theorem Hole.drew {B : Nat} {w w' : World} (h : Hole B w w') : Hole B w w'.drew := ⟨h.os, h.tape, h.output, h.size, h.block⟩

theorem Hole.drewN {B : Nat} {w w' : World} (h : Hole B w w') (n : Nat) : Hole B w (w'.drewN n) := h.trans (Hole.of_below (below_drewN (Below.refl _ _) n))

theorem Hole.alloc {B : Nat} {w w' : World} (h : Hole B w w') (o : Obj) : Hole B w (w'.alloc o) := h.trans (Hole.of_below ((Below.refl _ _).alloc (Nat.le_refl _) o))

theorem Hole.set {B : Nat} {w w' : World} (h : Hole B w w') (o : Nat) (v : Value) : Hole B w (w'.setCell ⟨B, o, none⟩ v) :=
  h.trans ⟨rfl, rfl, rfl, by simp [World.setCell], fun k _ hn => Below.heap_setCell _ _ _ _ hn⟩

theorem Hole.cell {B : Nat} {w w' : World} (h : Hole B w w') {b o : Nat} (hb : b < w.heap.size) (hn : b ≠ B) : w'.cell? ⟨b, o, none⟩ = w.cell? ⟨b, o, none⟩ := World.cell?_of_block (w := w) (h.block b hb hn)

theorem Hole.frozen {B : Nat} {w w' : World} (h : Hole B w w') {b o : Nat} (hb : b < w.heap.size) (hn : b ≠ B) : w'.frozen? ⟨b, o, none⟩ = w.frozen? ⟨b, o, none⟩ := World.frozen?_of_block (w := w) (h.block b hb hn)

theorem Hole.below {B c : Nat} {w0 w w' : World} (h0 : Below c w0 w) (h : Hole B w w') (hB : c ≤ B) (hc : c ≤ w.heap.size) : Below c w0 w' :=
  h0.trans ⟨h.os, h.tape, h.output, h.size, fun k hk => h.block k (by omega) (by omega)⟩

structure CurAt (w : World) (B : Nat) (a : Option Addr) (len cap : Nat) (at_ seed : Int) : Prop where
  lt : B < w.heap.size
  c0 : w.cell? ⟨B, 0, none⟩ = some (.slice a len cap)
  c1 : w.cell? ⟨B, 1, none⟩ = some (.int .i64 at_)
  c2 : w.cell? ⟨B, 2, none⟩ = some (.int .i64 seed)
  fz : ∀ o, w.frozen? ⟨B, o, none⟩ = false
  p0 : 0 ≤ at_
  s0 : 0 ≤ seed
  s1 : seed ≤ 65520

/-- The code's bytes, in a block that is not the cursor's. -/
def CodeAt (w : World) (B : Nat) (a : Option Addr) (len : Nat) : Prop :=
  len = 0 ∨ ∃ b o, a = some ⟨b, o, none⟩ ∧ b < B ∧ ∀ i, i < len → ∃ z : Int, 0 ≤ z ∧ z ≤ 255 ∧ w.cell? ⟨b, o + i, none⟩ = some (.int .u8 z)

theorem CodeAt.hole {w w' : World} {B : Nat} {a : Option Addr} {len : Nat} (h : CodeAt w B a len) (hB : B < w.heap.size) (hh : Hole B w w') : CodeAt w' B a len := by
  rcases h with h | ⟨b, o, ha, hb, hz⟩
  · exact .inl h
  · refine .inr ⟨b, o, ha, hb, fun i hi => ?_⟩
    obtain ⟨z, z0, z1, hc⟩ := hz i hi
    exact ⟨z, z0, z1, (hh.cell (by omega) (by omega)).trans hc⟩

/-- The cursor stands at most N bytes on. -/
def Cur (w : World) (B : Nat) (a : Option Addr) (len cap : Nat) (N : Int) : Prop := ∃ at_ seed, CurAt w B a len cap at_ seed ∧ at_ ≤ N ∧ CodeAt w B a len ∧ len ≤ 1048576

theorem Cur.below {w w' : World} {B : Nat} {a : Option Addr} {len cap : Nat} {N : Int} (h : Cur w B a len cap N) (hb : Below w.heap.size w w') : Cur w' B a len cap N := by
  obtain ⟨at_, seed, hc, hN, hk, hl⟩ := h
  refine ⟨at_, seed, ⟨Nat.lt_of_lt_of_le hc.lt hb.size, held_cell hb hc.c0 hc.lt, held_cell hb hc.c1 hc.lt, held_cell hb hc.c2 hc.lt, fun o => (hb.frozen (p := ⟨B, o, none⟩) hc.lt).trans (hc.fz o), hc.p0, hc.s0, hc.s1⟩, hN, hk.hole hc.lt (Hole.of_below hb), hl⟩

theorem Cur.more {w : World} {B : Nat} {a : Option Addr} {len cap : Nat} {N M : Int} (h : Cur w B a len cap N) (hM : N ≤ M) : Cur w B a len cap M := by
  obtain ⟨at_, seed, hc, hN, hk⟩ := h
  exact ⟨at_, seed, hc, Int.le_trans hN hM, hk⟩

theorem Cur.lt {w : World} {B : Nat} {a : Option Addr} {len cap : Nat} {N : Int} (h : Cur w B a len cap N) : B < w.heap.size := by
  obtain ⟨_, _, hc, _⟩ := h
  exact hc.lt

theorem mod_lt {x n : Int} (hn : 2 ≤ n) : 0 ≤ x % n ∧ x % n < n := ⟨Int.emod_nonneg _ (by omega), Int.emod_lt_of_pos _ (by omega)⟩

set_option maxHeartbeats 1000000 in
theorem pick_in (B : Nat) (b o len cap : Nat) (at_ n z : Int) (w : World) (c0 : w.cell? ⟨B, 0, none⟩ = some (.slice (some ⟨b, o, none⟩) len cap)) (c1 : w.cell? ⟨B, 1, none⟩ = some (.int .i64 at_)) (fz : ∀ o, w.frozen? ⟨B, o, none⟩ = false)
    (hz : w.cell? ⟨b, o + at_.toNat, none⟩ = some (.int .u8 z)) (z0 : 0 ≤ z) (z1 : z ≤ 255) (p0 : 0 ≤ at_) (p1 : at_ < len) (hl : len ≤ 1048576) (hn : 2 ≤ n) (hn' : n ≤ 100000) :
    Calls Tryd.prog 16 #[.pointer (some ⟨B, 0, none⟩), .int .i64 n] w fun e w' => e = .returned (.int .i64 (z % n)) ∧ ∃ m, w' = (w.drewN m).setCell ⟨B, 1, none⟩ (.int .i64 (at_ + 1)) := by
  go_enter Tryd.func16, Tryd.ntmps16
  go_wp2_with fail
  go_quiet (fail)
  go_wp2_with fail
  go_quiet (fail)
  go_wp2
  go_ret
  exact ⟨rfl, _, rfl⟩

set_option maxHeartbeats 1000000 in
theorem pick_out (B : Nat) (b o len cap : Nat) (at_ seed n z : Int) (w : World) (hne : b ≠ B) (c0 : w.cell? ⟨B, 0, none⟩ = some (.slice (some ⟨b, o, none⟩) len cap)) (c1 : w.cell? ⟨B, 1, none⟩ = some (.int .i64 at_)) (c2 : w.cell? ⟨B, 2, none⟩ = some (.int .i64 seed)) (fz : ∀ o, w.frozen? ⟨B, o, none⟩ = false)
    (hz : w.cell? ⟨b, o + (at_ % len).toNat, none⟩ = some (.int .u8 z)) (z0 : 0 ≤ z) (z1 : z ≤ 255) (p0 : 0 ≤ at_) (p2 : at_ ≤ 1000000) (p1 : (len : Int) ≤ at_) (s0 : 0 ≤ seed) (s1 : seed ≤ 65520) (hl0 : (0 : Int) < len) (hl : len ≤ 1048576) (hn : 2 ≤ n) (hn' : n ≤ 100000) :
    Calls Tryd.prog 16 #[.pointer (some ⟨B, 0, none⟩), .int .i64 n] w fun e w' => e = .returned (.int .i64 (((seed * 1103 + 12345) % 65521 / 7 + z) % n)) ∧ ∃ m m', w' = ((((w.drewN m).setCell ⟨B, 2, none⟩ (.int .i64 ((seed * 1103 + 12345) % 65521))).drewN m').setCell ⟨B, 1, none⟩ (.int .i64 (at_ + 1))) := by
  have i1 : (0 : Int) ≤ at_ % len := Int.emod_nonneg _ (by omega)
  have i2 : at_ % len < (len : Int) := Int.emod_lt_of_pos _ hl0
  go_enter Tryd.func16, Tryd.ntmps16
  go_wp2_with fail
  go_quiet (fail)
  go_wp2_with fail
  go_quiet (fail)
  go_wp2
  go_ret
  exact ⟨rfl, _, _, rfl⟩

set_option maxHeartbeats 1000000 in
theorem pick_nil (B : Nat) (a : Option Addr) (cap : Nat) (at_ seed n : Int) (w : World) (c0 : w.cell? ⟨B, 0, none⟩ = some (.slice a 0 cap)) (c1 : w.cell? ⟨B, 1, none⟩ = some (.int .i64 at_)) (c2 : w.cell? ⟨B, 2, none⟩ = some (.int .i64 seed)) (fz : ∀ o, w.frozen? ⟨B, o, none⟩ = false)
    (p0 : 0 ≤ at_) (p2 : at_ ≤ 1000000) (s0 : 0 ≤ seed) (s1 : seed ≤ 65520) (hn : 2 ≤ n) (hn' : n ≤ 100000) :
    Calls Tryd.prog 16 #[.pointer (some ⟨B, 0, none⟩), .int .i64 n] w fun e w' => e = .returned (.int .i64 (0 % n)) ∧ ∃ m m', w' = ((((w.drewN m).setCell ⟨B, 2, none⟩ (.int .i64 ((seed * 1103 + 12345) % 65521))).drewN m').setCell ⟨B, 1, none⟩ (.int .i64 (at_ + 1))) := by
  go_enter Tryd.func16, Tryd.ntmps16
  go_wp2_with fail
  go_quiet (fail)
  go_wp2
  go_ret
  exact ⟨by simp, _, 0, rfl⟩

theorem cell_set_same {w : World} {B o : Nat} {u v : Value} (h : w.cell? ⟨B, o, none⟩ = some u) : (w.setCell ⟨B, o, none⟩ v).cell? ⟨B, o, none⟩ = some v := World.cell?_setCell_same _ _ _ h

theorem cell_set_off {w : World} {B o o' : Nat} {u v : Value} (h : w.cell? ⟨B, o', none⟩ = some u) (hn : o ≠ o') : (w.setCell ⟨B, o, none⟩ v).cell? ⟨B, o', none⟩ = some u :=
  (World.cell?_setCell_other _ _ _ _ (fun e => hn (by injection e))).trans h

theorem cur_set1 {w : World} {B : Nat} {a : Option Addr} {len cap : Nat} {at_ seed p : Int} (h : CurAt w B a len cap at_ seed) (hp : 0 ≤ p) : CurAt (w.setCell ⟨B, 1, none⟩ (.int .i64 p)) B a len cap p seed :=
  ⟨by simpa [World.setCell] using h.lt, cell_set_off h.c0 (by omega), cell_set_same h.c1, cell_set_off h.c2 (by omega), fun o => by rw [World.frozen?_setCell]; exact h.fz o, hp, h.s0, h.s1⟩

theorem cur_set2 {w : World} {B : Nat} {a : Option Addr} {len cap : Nat} {at_ seed p : Int} (h : CurAt w B a len cap at_ seed) (hp : 0 ≤ p) (hq : p ≤ 65520) : CurAt (w.setCell ⟨B, 2, none⟩ (.int .i64 p)) B a len cap at_ p :=
  ⟨by simpa [World.setCell] using h.lt, cell_set_off h.c0 (by omega), cell_set_off h.c1 (by omega), cell_set_same h.c2, fun o => by rw [World.frozen?_setCell]; exact h.fz o, h.p0, hp, hq⟩

theorem cur_drewN {w : World} {B : Nat} {a : Option Addr} {len cap : Nat} {at_ seed : Int} (h : CurAt w B a len cap at_ seed) (n : Nat) : CurAt (w.drewN n) B a len cap at_ seed := by
  have hb : Below w.heap.size w (w.drewN n) := below_drewN (Below.refl _ _) n
  exact ⟨Nat.lt_of_lt_of_le h.lt hb.size, held_cell hb h.c0 h.lt, held_cell hb h.c1 h.lt, held_cell hb h.c2 h.lt, fun o => (hb.frozen (p := ⟨B, o, none⟩) h.lt).trans (h.fz o), h.p0, h.s0, h.s1⟩

theorem pick_any (B : Nat) (a : Option Addr) (len cap : Nat) (N n : Int) (w : World) (hN : N ≤ 1000000) (hn : 2 ≤ n) (hn' : n ≤ 100000) (h : Cur w B a len cap N) :
    Calls Tryd.prog 16 #[.pointer (some ⟨B, 0, none⟩), .int .i64 n] w fun e w' => ∃ r : Int, e = .returned (.int .i64 r) ∧ 0 ≤ r ∧ r < n ∧ Cur w' B a len cap (N + 1) ∧ Hole B w w' := by
  obtain ⟨at_, seed, hc, hN', hk, hl⟩ := h
  have hs : 0 ≤ (seed * 1103 + 12345) % 65521 ∧ (seed * 1103 + 12345) % 65521 ≤ 65520 := by
    have := hc.s0
    have := hc.s1
    omega
  have hp := hc.p0
  rcases hk with h0 | ⟨b, o, rfl, hb, hz⟩
  · subst h0
    refine (pick_nil B a cap at_ seed n w hc.c0 hc.c1 hc.c2 hc.fz hc.p0 (by omega) hc.s0 hc.s1 hn hn').mono ?_
    rintro e w' ⟨rfl, m, m', rfl⟩
    exact ⟨_, rfl, (mod_lt hn).1, (mod_lt hn).2, ⟨at_ + 1, _, cur_set1 (cur_drewN (cur_set2 (cur_drewN hc m) hs.1 hs.2) m') (by omega), by omega, .inl rfl, hl⟩, ((((Hole.refl B w).drewN m).set 2 _).drewN m').set 1 _⟩
  · by_cases hlt : at_ < len
    · obtain ⟨z, z0, z1, hzc⟩ := hz at_.toNat (by omega)
      refine (pick_in B b o len cap at_ n z w hc.c0 hc.c1 hc.fz hzc z0 z1 hc.p0 hlt hl hn hn').mono ?_
      rintro e w' ⟨rfl, m, rfl⟩
      have hh : Hole B w ((w.drewN m).setCell ⟨B, 1, none⟩ (.int .i64 (at_ + 1))) := ((Hole.refl B w).drewN m).set 1 _
      exact ⟨_, rfl, (mod_lt hn).1, (mod_lt hn).2, ⟨at_ + 1, seed, cur_set1 (cur_drewN hc m) (by omega), by omega, (CodeAt.hole (.inr ⟨b, o, rfl, hb, hz⟩) hc.lt hh), hl⟩, hh⟩
    · by_cases h0 : len = 0
      · subst h0
        refine (pick_nil B _ cap at_ seed n w hc.c0 hc.c1 hc.c2 hc.fz hc.p0 (by omega) hc.s0 hc.s1 hn hn').mono ?_
        rintro e w' ⟨rfl, m, m', rfl⟩
        exact ⟨_, rfl, (mod_lt hn).1, (mod_lt hn).2, ⟨at_ + 1, _, cur_set1 (cur_drewN (cur_set2 (cur_drewN hc m) hs.1 hs.2) m') (by omega), by omega, .inl rfl, hl⟩, ((((Hole.refl B w).drewN m).set 2 _).drewN m').set 1 _⟩
      · have hl0 : (0 : Int) < len := by omega
        have i1 : (0 : Int) ≤ at_ % len := Int.emod_nonneg _ (by omega)
        have i2 : at_ % len < (len : Int) := Int.emod_lt_of_pos _ hl0
        obtain ⟨z, z0, z1, hzc⟩ := hz (at_ % len).toNat (by omega)
        refine (pick_out B b o len cap at_ seed n z w (by omega) hc.c0 hc.c1 hc.c2 hc.fz hzc z0 z1 hc.p0 (by omega) (by omega) hc.s0 hc.s1 hl0 hl hn hn').mono ?_
        rintro e w' ⟨rfl, m, m', rfl⟩
        have hh : Hole B w ((((w.drewN m).setCell ⟨B, 2, none⟩ (.int .i64 ((seed * 1103 + 12345) % 65521))).drewN m').setCell ⟨B, 1, none⟩ (.int .i64 (at_ + 1))) := ((((Hole.refl B w).drewN m).set 2 _).drewN m').set 1 _
        exact ⟨_, rfl, (mod_lt hn).1, (mod_lt hn).2, ⟨at_ + 1, _, cur_set1 (cur_drewN (cur_set2 (cur_drewN hc m) hs.1 hs.2) m') (by omega), by omega, (CodeAt.hole (.inr ⟨b, o, rfl, hb, hz⟩) hc.lt hh), hl⟩, hh⟩

set_option maxHeartbeats 400000 in
theorem once_any (B : Nat) (a : Option Addr) (len cap : Nat) (N n : Int) (w : World) (hN : N ≤ 1000000) (hn : 2 ≤ n) (hn' : n ≤ 100000) (h : Cur w B a len cap N) :
    Calls Tryd.prog 30 #[.pointer (some ⟨B, 0, none⟩), .int .i64 n] w fun e w' => ∃ r : Bool, e = .returned (.bool r) ∧ Cur w' B a len cap (N + 1) ∧ Hole B w w' := by
  have HC : Hid (Cur w B a len cap N) := h
  clear h
  go_enter Tryd.func30, Tryd.ntmps30
  go_wp2_with fail
  refine (pick_any B a len cap N n _ hN hn hn' HC.out).mono ?_
  rintro e w1 ⟨r, rfl, r0, r1, hc1, hh1⟩
  have HC1 : Hid (Cur w1 B a len cap (N + 1)) := hc1
  have HH1 : Hid (Hole B w w1) := hh1
  clear hc1 hh1
  go_wp2
  go_ret
  exact ⟨_, rfl, HC1.out, HH1.out⟩

theorem Hole.setNew {B R : Nat} {w w' : World} (h : Hole B w w') (hR : w.heap.size ≤ R) (o : Nat) (v : Value) : Hole B w (w'.setCell ⟨R, o, none⟩ v) :=
  ⟨h.os, h.tape, h.output, by simpa [World.setCell] using h.size, fun k hk hn => (Below.heap_setCell _ _ _ _ (by show k ≠ R; omega)).trans (h.block k hk hn)⟩

theorem Cur.setOther {w : World} {B R : Nat} {a : Option Addr} {len cap : Nat} {N : Int} (h : Cur w B a len cap N) (hR : B < R) (o : Nat) (v : Value) : Cur (w.setCell ⟨R, o, none⟩ v) B a len cap N := by
  obtain ⟨at_, seed, hc, hN, hk, hl⟩ := h
  have hne : ∀ b o', b < R → (Addr.mk R o none) ≠ ⟨b, o', none⟩ := fun b o' hb e => by
    have : R = b := by injection e
    omega
  refine ⟨at_, seed, ⟨by simpa [World.setCell] using hc.lt, (World.cell?_setCell_other _ _ _ _ (hne _ _ hR)).trans hc.c0, (World.cell?_setCell_other _ _ _ _ (hne _ _ hR)).trans hc.c1, (World.cell?_setCell_other _ _ _ _ (hne _ _ hR)).trans hc.c2, fun o => by rw [World.frozen?_setCell]; exact hc.fz o, hc.p0, hc.s0, hc.s1⟩, hN, ?_, hl⟩
  rcases hk with h0 | ⟨b, o', ha, hb, hz⟩
  · exact .inl h0
  · refine .inr ⟨b, o', ha, hb, fun i hi => ?_⟩
    obtain ⟨z, z0, z1, hcz⟩ := hz i hi
    exact ⟨z, z0, z1, (World.cell?_setCell_other _ _ _ _ (hne _ _ (by omega))).trans hcz⟩

/-- A tag in a block of its own. -/
structure TagBox (w : World) (b : Nat) (c s q : Int) : Prop where
  lt : b < w.heap.size
  c0 : w.cell? ⟨b, 0, none⟩ = some (.int .i64 c)
  c1 : w.cell? ⟨b, 1, none⟩ = some (.int .i64 s)
  c2 : w.cell? ⟨b, 2, none⟩ = some (.int .i64 q)
  fz : ∀ o, w.frozen? ⟨b, o, none⟩ = false

theorem TagBox.start (w : World) (c s q : Int) (t : Nat) : TagBox (w.alloc (.cells #[.int .i64 c, .int .i64 s, .int .i64 q] t)) w.heap.size c s q :=
  ⟨by simp, by simp [go_sem], by simp [go_sem], by simp [go_sem], fun o => by simp [go_sem]⟩

theorem TagBox.hole {w w' : World} {B b : Nat} {c s q : Int} (h : TagBox w b c s q) (hh : Hole B w w') (hn : b ≠ B) : TagBox w' b c s q :=
  ⟨Nat.lt_of_lt_of_le h.lt hh.size, (hh.cell h.lt hn).trans h.c0, (hh.cell h.lt hn).trans h.c1, (hh.cell h.lt hn).trans h.c2, fun o => (hh.frozen h.lt hn).trans (h.fz o)⟩

theorem ints_cell (w : World) (l : List Int) (t i : Nat) (hi : i < l.length) : (w.alloc (.cells (l.map (Value.int .i64)).toArray t)).cell? ⟨w.heap.size, i, none⟩ = some (.int .i64 (l.getD i 0)) := by
  simp [go_sem, List.getD, hi]

set_option maxHeartbeats 1000000 in
theorem raw_any (B : Nat) (a : Option Addr) (len cap : Nat) (N : Int) (w : World) (hN : N ≤ 100000) (h : Cur w B a len cap N) :
    Calls Tryd.prog 15 #[.pointer (some ⟨B, 0, none⟩)] w fun e w' => ∃ r : Int, e = .returned (.int .i64 r) ∧ Cur w' B a len cap (N + 2) ∧ Hole B w w' := by
  have HC : Hid (Cur w B a len cap N) := h
  clear h
  go_enter Tryd.func15, Tryd.ntmps15
  go_wp2_with fail
  refine (pick_any B a len cap N 8 _ (by omega) (by omega) (by omega) HC.out).mono ?_
  rintro e w1 ⟨r, rfl, r0, r1, hc1, hh1⟩
  have HC1 : Hid (Cur w1 B a len cap (N + 1)) := hc1
  have HH1 : Hid (Hole B w w1) := hh1
  clear hc1 hh1
  by_cases k0 : r = 0
  · subst k0
    go_wp2_with fail
    refine (pick_any B a len cap (N + 1) 256 _ (by omega) (by omega) (by omega) HC1.out).mono ?_
    rintro e w2 ⟨r2, rfl, q0, q1, hc2, hh2⟩
    have HC2 : Hid (Cur w2 B a len cap (N + 2)) := hc2.more (by omega)
    have HH2 : Hid (Hole B w w2) := HH1.out.trans hh2
    clear hc2 hh2
    go_wp2
    go_ret
    exact ⟨_, rfl, HC2.out, HH2.out⟩
  · by_cases k1 : r = 1
    · subst k1
      go_wp2_with fail
      have HA : Hid (Below w1.heap.size w1 (w1.alloc (.cells ((([9223372036854775807, -9223372036854775808, 4611686018427387904, 1000, 1001, -1000, 100000, 100001] : List Int).map (Value.int .i64)).toArray) 3))) := (Below.refl _ _).alloc (Nat.le_refl _) _
      refine (pick_any B a len cap (N + 1) 8 _ (by omega) (by omega) (by omega) (HC1.out.below HA.out)).mono ?_
      rintro e w2 ⟨r2, rfl, q0, q1, hc2, hh2⟩
      have HC2 : Hid (Cur w2 B a len cap (N + 2)) := hc2.more (by omega)
      have HH2 : Hid (Hole B w w2) := (HH1.out.trans (Hole.of_below HA.out)).trans hh2
      have hcell : w2.cell? ⟨w1.heap.size, r2.toNat, none⟩ = some (.int .i64 _) := (hh2.cell (by simp) (by have := HC1.out.lt; omega)).trans (ints_cell w1 [9223372036854775807, -9223372036854775808, 4611686018427387904, 1000, 1001, -1000, 100000, 100001] _ r2.toNat (by simp; omega))
      generalize List.getD [9223372036854775807, -9223372036854775808, 4611686018427387904, 1000, 1001, -1000, 100000, 100001] r2.toNat 0 = v at hcell
      clear hc2 hh2 HA
      go_wp2
      go_ret
      exact ⟨_, rfl, HC2.out, HH2.out⟩
    · have k0' : (r == 0) = false := by simp [k0]
      have k1' : (r == 1) = false := by simp [k1]
      clear k0 k1
      go_wp2_with fail
      refine (pick_any B a len cap (N + 1) 14 _ (by omega) (by omega) (by omega) HC1.out).mono ?_
      rintro e w2 ⟨r2, rfl, q0, q1, hc2, hh2⟩
      have HC2 : Hid (Cur w2 B a len cap (N + 2)) := hc2.more (by omega)
      have HH2 : Hid (Hole B w w2) := HH1.out.trans hh2
      clear hc2 hh2
      go_wp2
      go_ret
      exact ⟨_, rfl, HC2.out, HH2.out⟩

end Go.Proofs.YtofejfmfbifphacDoor
