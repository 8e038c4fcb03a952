import Derived.Test.YtlbcpppmpbbkdabDoorPack9
import Derived.Test.YtlbcpppmpbbkdabDoorPack1
import Derived.Test.YtlbcpppmpbbkdabDoorPack4
import Derived.Test.YtlbcpppmpbbkdabDoorPack2
import Derived.Deep.DrawnRows
import Derived.Test.YtlbcpppmpbbkdabDoorPack7
import Derived.Lib.Hide
import Derived.Test.YtlbcpppmpbbkdabDoorPack8
/- What an operation may do where the cursor is at work; picks. (As in Story, Amap, DrawPut, for a seat whose program has no registers.) -/
namespace Go.Proofs.YtlbcpppmpbbkdabDoor.wb
open Go.ChangeShapes Go.WideShapes Go.ChangeAt Go.RowKit Go.Joins
attribute [local go_sem ↓] Go.wp_at_zero Go.wp_at_succ

/-- What an operation may do where the cursor is at work: write the cursor's own block, and go on by one at most. -/
def CurR (B : Nat) (a : Option Addr) (len cap : Nat) (w w' : World) : Prop := Hole B w w' ∧ ∀ K, Cur w B a len cap K → Cur w' B a len cap (K + 1)

def CurS (w3 : World) (B : Nat) (a : Option Addr) (len cap : Nat) (M : Int) (f : Nat) (w' : World) : Prop := Hole B w3 w' ∧ Cur w' B a len cap (M - f)

def CurAny (w3 : World) (B : Nat) (a : Option Addr) (len cap : Nat) (M : Int) (w' : World) : Prop := Hole B w3 w' ∧ Cur w' B a len cap M

set_option maxRecDepth 100000 in
theorem cur_drew {w : World} {B : Nat} {a : Option Addr} {len cap : Nat} {N : Int} (h : Cur w B a len cap N) : Cur w.drew B a len cap N := h.below (Below.refl _ _).drew

set_option maxRecDepth 100000 in
theorem cur_alloc {w : World} {B : Nat} {a : Option Addr} {len cap : Nat} {N : Int} (h : Cur w B a len cap N) (o : Obj) : Cur (w.alloc o) B a len cap N := h.below ((Below.refl _ _).alloc (Nat.le_refl _) _)

set_option maxRecDepth 100000 in
theorem curS_step {w3 : World} {B : Nat} {a : Option Addr} {len cap : Nat} {M : Int} (f : Nat) (w w' : World) (h : CurS w3 B a len cap M (f + 1) w) (hr : CurR B a len cap w w') : CurS w3 B a len cap M f w' :=
  ⟨h.1.trans hr.1, (hr.2 _ h.2).more (by push_cast; omega)⟩

set_option maxRecDepth 100000 in
theorem curS_any {w3 : World} {B : Nat} {a : Option Addr} {len cap : Nat} {M : Int} {f : Nat} {w : World} (h : CurS w3 B a len cap M f w) : CurAny w3 B a len cap M w :=
  ⟨h.1, h.2.more (by omega)⟩

set_option maxRecDepth 100000 in
theorem curS_start {w : World} {B : Nat} {a : Option Addr} {len cap : Nat} {M : Int} (n : Nat) (h : Cur w B a len cap (M - n)) : CurS w B a len cap M n w.drew :=
  ⟨(Hole.refl _ _).drew, cur_drew h⟩

set_option maxRecDepth 100000 in
theorem curR_refl (B : Nat) (a : Option Addr) (len cap : Nat) (w : World) : CurR B a len cap w w := ⟨Hole.refl _ _, fun _ h => h.more (by omega)⟩

set_option maxRecDepth 100000 in
theorem curR_alloc (B : Nat) (a : Option Addr) (len cap : Nat) (w : World) (o : Obj) : CurR B a len cap w (w.alloc o) := ⟨(Hole.refl _ _).alloc o, fun _ h => (cur_alloc h o).more (by omega)⟩

set_option maxRecDepth 100000 in
theorem pick_curR (B : Nat) (a : Option Addr) (len cap : Nat) (N n : Int) (w : World) (hN : N ≤ 1000000) (hn : 2 ≤ n) (hn' : n ≤ 100000) (h : Cur w B a len cap N) :
    Calls Tryd.prog 29 #[.pointer (some ⟨B, 0, none⟩), .int .i64 n] w fun e w' => ∃ r : Int, e = .returned (.int .i64 r) ∧ CurR B a len cap w w' ∧ 0 ≤ r ∧ r < n := by
  obtain ⟨at_, seed, hc, hN', hk, hl⟩ := h
  refine (pick_any B a len cap at_ n w (by omega) hn hn' ⟨at_, seed, hc, Int.le_refl _, hk, hl⟩).mono ?_
  rintro e w' ⟨r, he, h0, h1, h2, h3⟩
  refine ⟨r, he, ⟨h3, fun K hK => ?_⟩, h0, h1⟩
  obtain ⟨at2, seed2, hc2, hN2, _⟩ := hK
  have e1 := hc.c1.symm.trans hc2.c1
  simp only [Option.some.injEq, Value.int.injEq, true_and] at e1
  exact h2.more (by omega)

set_option maxRecDepth 100000 in
set_option maxHeartbeats 1000000 in
theorem pick_one (B : Nat) (w : World) :
    Calls Tryd.prog 29 #[.pointer (some ⟨B, 0, none⟩), .int .i64 1] w fun e w' => e = .returned (.int .i64 0) ∧ w' = w := by
  go_enter Tryd.func29, Tryd.ntmps29
  go_wp2
  go_ret
  exact ⟨rfl, rfl⟩

set_option maxRecDepth 100000 in
theorem pick_len (B : Nat) (a : Option Addr) (len cap : Nat) (N : Int) (n : Nat) (w : World) (hN : N ≤ 1000000) (hn : 1 ≤ n) (hn' : n ≤ 100000) (h : Cur w B a len cap N) :
    Calls Tryd.prog 29 #[.pointer (some ⟨B, 0, none⟩), .int .i64 (n : Int)] w fun e w' => ∃ r : Nat, e = .returned (.int .i64 (r : Int)) ∧ r < n ∧ Cur w' B a len cap (N + 1) ∧ Hole B w w' := by
  by_cases h1 : n = 1
  · subst h1
    refine (pick_one B w).mono ?_
    rintro e w' ⟨rfl, rfl⟩
    exact ⟨0, rfl, by omega, h.more (by omega), Hole.refl _ _⟩
  · refine (pick_any B a len cap N n w hN (by omega) (by omega) h).mono ?_
    rintro e w' ⟨r, rfl, h2, h3, h4, h5⟩
    obtain ⟨r', rfl⟩ := Int.eq_ofNat_of_zero_le h2
    exact ⟨r', rfl, by omega, h4, h5⟩

set_option maxRecDepth 100000 in
theorem pick_len_curR (B : Nat) (a : Option Addr) (len cap : Nat) (N : Int) (n : Nat) (w : World) (hN : N ≤ 1000000) (hn : 1 ≤ n) (hn' : n ≤ 100000) (h : Cur w B a len cap N) :
    Calls Tryd.prog 29 #[.pointer (some ⟨B, 0, none⟩), .int .i64 (n : Int)] w fun e w' => ∃ r : Nat, e = .returned (.int .i64 (r : Int)) ∧ CurR B a len cap w w' ∧ r < n := by
  by_cases h1 : n = 1
  · subst h1
    refine (pick_one B w).mono ?_
    rintro e w' ⟨rfl, rfl⟩
    exact ⟨0, rfl, curR_refl _ _ _ _ _, by omega⟩
  · refine (pick_curR B a len cap N n w hN (by omega) (by omega) h).mono ?_
    rintro e w' ⟨r, rfl, h2, h3, h4⟩
    obtain ⟨r', rfl⟩ := Int.eq_ofNat_of_zero_le h3
    exact ⟨r', rfl, h2, by omega⟩

def NatFact (n : Nat) : Fact := fun v _ => ∃ r : Nat, v = .int .i64 (r : Int) ∧ r < n

set_option maxRecDepth 100000 in
theorem wcmp_self (k c s q v : Int) (de : Bool) (xs : List Dp) : wcmp k c s q v de xs k c s q v de xs = 0 := by
  have h := wcmp_neg k c s q v de xs k c s q v de xs
  omega

end Go.Proofs.YtlbcpppmpbbkdabDoor.wb

/- The contracts of the specification's MapAt and MapHas. -/
namespace Go.Proofs.YtlbcpppmpbbkdabDoor
open Go.ChangeShapes Go.WideShapes Go.ChangeAt Go.RowKit Go.Joins
attribute [local go_sem ↓] Go.wp_at_zero Go.wp_at_succ

/-- Number i is the first write of this key. -/
def FirstAt (ws : List Wr) (key : Int) (i : Nat) : Prop := i < ws.length ∧ (ws.getD i wz).k = key ∧ ∀ j, j < i → (ws.getD j wz).k ≠ key
/-- There is none of this key. -/
def NoneAt (ws : List Wr) (key : Int) : Prop := ∀ j, j < ws.length → (ws.getD j wz).k ≠ key

theorem FirstAt.same {ws : List Wr} {key : Int} {i j : Nat} (h : FirstAt ws key i) (h' : FirstAt ws key j) : i = j := by
  by_cases h1 : i < j
  · exact absurd h.2.1 (h'.2.2 i h1)
  · by_cases h2 : j < i
    · exact absurd h'.2.1 (h.2.2 j h2)
    · omega

theorem FirstAt.no {ws : List Wr} {key : Int} {i : Nat} (h : FirstAt ws key i) (h' : NoneAt ws key) : False := h' i h.1 h.2.1

/-- What a look at a map tells: a write of one's own, or nothing. -/
def Told (ws : List Wr) (key : Int) (w w' : World) (v : Value) : Prop :=
  (∃ i g cp, FirstAt ws key i ∧ v = .tuple #[wrOf (ws.getD i wz) (some ⟨g, 0, none⟩) cp, .bool true] ∧ w.heap.size ≤ g ∧ g < w'.heap.size ∧ HoldsDeps w' g 0 (ws.getD i wz).xs) ∨
  (NoneAt ws key ∧ v = .tuple #[wrV 0 0 0 0 0 false none 0 0, .bool false])

def findW (ws : List Wr) (key : Int) : Option Wr := ws.find? fun x => x.k == key

theorem find_first : ∀ {ws : List Wr} {key : Int} {i : Nat}, FirstAt ws key i → findW ws key = some (ws.getD i wz)
  | [], _, _, h => by simp [FirstAt] at h
  | x :: r, key, 0, h => by
    have hk : x.k = key := h.2.1
    simp [findW, hk]
  | x :: r, key, i + 1, h => by
    have hk : x.k ≠ key := h.2.2 0 (by omega)
    have : FirstAt r key i := ⟨by simpa using h.1, h.2.1, fun j hj => h.2.2 (j + 1) (by omega)⟩
    have := find_first this
    simp only [findW, List.find?_cons, beq_eq_false_iff_ne.2 hk] at this ⊢
    exact this

theorem find_none {ws : List Wr} {key : Int} (h : NoneAt ws key) : findW ws key = none := by
  induction ws with
  | nil => rfl
  | cons x r ih =>
    have hk : x.k ≠ key := h 0 (by simp)
    have := ih fun j hj => h (j + 1) (by simpa using hj)
    simp only [findW, List.find?_cons, beq_eq_false_iff_ne.2 hk] at this ⊢
    exact this

def hasB (ws : List Wr) (key c s q : Int) : Bool := match findW ws key with | some x => decide (0 ≤ tcmp x.c x.s x.q c s q) | none => false

end Go.Proofs.YtlbcpppmpbbkdabDoor

/- The contract of impl.TagCmp. -/
namespace Go.Proofs.YtlbcpppmpbbkdabDoor
open Go.ChangeShapes Go.WideShapes Go.ChangeAt Go.RowKit
attribute [local go_sem ↓] Go.wp_at_zero Go.wp_at_succ

theorem three_cells (W : World) (x y z : Int) (t b : Nat) (hb : W.heap.size = b) : ∀ i, i < [x, y, z].length → (W.alloc (Obj.cells #[.int .i64 x, .int .i64 y, .int .i64 z] t)).drew.cell? ⟨b, i, none⟩ = some (.int .i64 ([x, y, z].getD i 0)) := by
  subst hb
  intro i hi
  match i, hi with
  | 0, _ => simp [go_sem]
  | 1, _ => simp [go_sem]
  | 2, _ => simp [go_sem]

end Go.Proofs.YtlbcpppmpbbkdabDoor

/- Contracts of impl.MapOk, placeOfKey, copyWrite, MapAt, MapHas. -/
namespace Go.Proofs.YtlbcpppmpbbkdabDoor
open Go.ChangeShapes Go.WideShapes Go.ChangeAt Go.RowKit Go.Joins
attribute [local go_sem ↓] Go.wp_at_zero Go.wp_at_succ

def lastW (ws : List Wr) (k : Nat) : Int := if k = 0 then -1 else (ws.getD (k - 1) wz).k

theorem okW_key {x : Wr} (h : okW x = true) : 0 ≤ x.k ∧ x.k ≤ 5 := by
  unfold okW writeOkB btw at h
  simp only [Bool.and_eq_true, decide_eq_true_eq] at h
  exact h.1

theorem wrGood_bad {ws : List Wr} {k : Nat} (h1 : okW (ws.getD k wz) = true) (h : (ws.getD k wz).k ≤ lastW ws k) : wrGood ws k = false := by
  unfold wrGood
  rw [h1, Bool.true_and]
  refine decide_eq_false ?_
  have := okW_key h1
  unfold lastW at h
  by_cases hk : k = 0
  · rw [if_pos hk] at h
    omega
  · rw [if_neg hk] at h
    omega

theorem wrGood_good {ws : List Wr} {k : Nat} (h1 : okW (ws.getD k wz) = true) (h : lastW ws k < (ws.getD k wz).k) : wrGood ws k = true := by
  unfold wrGood
  rw [h1, Bool.true_and]
  refine decide_eq_true ?_
  unfold lastW at h
  by_cases hk : k = 0
  · exact .inl hk
  · rw [if_neg hk] at h
    exact .inr h

theorem wrGood_not {ws : List Wr} {k : Nat} (h1 : okW (ws.getD k wz) = false) : wrGood ws k = false := by
  unfold wrGood
  rw [h1, Bool.false_and]

theorem kept_new {W w1 : World} {b t : Nat} {vs : Array Value} (hg : W.grownBy w1 none) (h : W.heap[b]? = some (.cells vs t (0, 0))) : (∀ j v, vs[j]? = some v → w1.cell? ⟨b, j, none⟩ = some v) ∧ ∀ j, w1.frozen? ⟨b, j, none⟩ = false := by
  have hb : b < W.heap.size := (Array.getElem?_eq_some_iff.1 h).1
  have e := hg.block b hb (by simp)
  rw [h] at e
  exact ⟨fun j v hv => by rw [cell_of_row w1 b j vs t (0, 0) e]; exact hv, fun j => frozen_of_row w1 b j vs t e⟩

theorem heap_one (w : World) (o1 o2 : Obj) : ((w.alloc o1).alloc o2).heap[w.heap.size]? = some o1 ∧ ((w.alloc o1).alloc o2).heap[w.heap.size + 1]? = some o2 := by
  constructor
  · rw [Below.heap_alloc _ _ _ (by simp)]
    exact heap_alloc_new w o1
  · have := heap_alloc_new (w.alloc o1) o2
    simpa using this

/-- A place, or none. -/
def PlaceAt (ws : List Wr) (key r : Int) : Prop := (∃ i : Nat, FirstAt ws key i ∧ r = i) ∨ (NoneAt ws key ∧ r = -1)

/-- Dependencies of one's own, from block number B on, where there are some. -/
def FreshDeps (B : Nat) (w : World) (a : Option Addr) (g : Nat) (xs : List Dp) : Prop := 0 < xs.length → a = some ⟨g, 0, none⟩ ∧ B ≤ g ∧ g < w.heap.size ∧ HoldsDeps w g 0 xs ∧ ∀ o, w.frozen? ⟨g, o, none⟩ = false

theorem FreshDeps.below {B : Nat} {w w' : World} {a : Option Addr} {g : Nat} {xs : List Dp} (h : FreshDeps B w a g xs) (hb : Below w.heap.size w w') : FreshDeps B w' a g xs := fun hp => by
  obtain ⟨h1, h2, h3, h4, h5⟩ := h hp
  exact ⟨h1, h2, Nat.lt_of_lt_of_le h3 hb.size, h4.below hb h3, fun o => (hb.frozen (p := ⟨g, o, none⟩) h3).trans (h5 o)⟩

theorem FreshDeps.isDeps {B : Nat} {w : World} {a : Option Addr} {g : Nat} {xs : List Dp} (h : FreshDeps B w a g xs) : IsDeps w a xs := by
  by_cases hp : 0 < xs.length
  · obtain ⟨h1, _, h3, h4, _⟩ := h hp
    exact .inr ⟨g, 0, h1, h3, h4⟩
  · exact .inl (List.length_eq_zero_iff.1 (by omega))

theorem fresh_set {w : World} {g : Nat} {xs : List Dp} {p : Addr} (h : g < w.heap.size ∧ HoldsDeps w g 0 xs ∧ ∀ o, w.frozen? ⟨g, o, none⟩ = false) (hne : p.block ≠ g) (v : Value) : g < (w.setCell p v).heap.size ∧ HoldsDeps (w.setCell p v) g 0 xs ∧ ∀ o, (w.setCell p v).frozen? ⟨g, o, none⟩ = false :=
  ⟨by simpa using h.1, h.2.1.set hne v, fun o => by rw [World.frozen?_setCell]; exact h.2.2 o⟩

end Go.Proofs.YtlbcpppmpbbkdabDoor

/- Contracts of impl.MapAt and impl.MapHas. -/
namespace Go.Proofs.YtlbcpppmpbbkdabDoor
open Go.ChangeShapes Go.WideShapes Go.ChangeAt Go.RowKit Go.Joins
attribute [local go_sem ↓] Go.wp_at_zero Go.wp_at_succ

/-- What a look at a map tells: a write of one's own, or nothing. -/
def ToldG (ws : List Wr) (key : Int) (B : Nat) (w' : World) (v : Value) : Prop :=
  (∃ i a g cp, FirstAt ws key i ∧ v = .tuple #[wrOf (ws.getD i wz) a cp, .bool true] ∧ FreshDeps B w' a g (ws.getD i wz).xs) ∨
  (NoneAt ws key ∧ v = .tuple #[wrV 0 0 0 0 0 false none 0 0, .bool false])

theorem fresh_set7 {B : Nat} {w : World} {g : Nat} {xs : List Dp} {a : Option Addr} (h : FreshDeps B w a g xs) {b : Nat} (hne : b < B) (o0 o1 o2 o3 o4 o5 o6 : Nat) (v0 v1 v2 v3 v4 v5 v6 : Value) :
    FreshDeps B (((((((w.setCell ⟨b, o0, none⟩ v0).setCell ⟨b, o1, none⟩ v1).setCell ⟨b, o2, none⟩ v2).setCell ⟨b, o3, none⟩ v3).setCell ⟨b, o4, none⟩ v4).setCell ⟨b, o5, none⟩ v5).setCell ⟨b, o6, none⟩ v6) a g xs := fun hp => by
  obtain ⟨h1, h2, h3⟩ := h hp
  have hn : b ≠ g := by omega
  exact ⟨h1, h2, fresh_set (fresh_set (fresh_set (fresh_set (fresh_set (fresh_set (fresh_set h3 hn _) hn _) hn _) hn _) hn _) hn _) hn _⟩

theorem FreshDeps.mono {B B' : Nat} {w : World} {a : Option Addr} {g : Nat} {xs : List Dp} (h : FreshDeps B w a g xs) (hb : B' ≤ B) : FreshDeps B' w a g xs := fun hp => by
  obtain ⟨h1, h2, h3⟩ := h hp
  exact ⟨h1, Nat.le_trans hb h2, h3⟩

end Go.Proofs.YtlbcpppmpbbkdabDoor

/- Contracts of HashOf of both sides: the sum of a text. -/
namespace Go.Proofs.YtlbcpppmpbbkdabDoor
open Go.ChangeShapes Go.WideShapes Go.ChangeAt Go.RowKit Go.Joins

def hashL (bs : List UInt8) : Int := bs.foldl (fun x b => (33 * x + (b.toNat : Int)) % 65521) 5381

set_option maxRecDepth 100000 in
theorem hashL_snoc (bs : List UInt8) (b : UInt8) : hashL (bs ++ [b]) = (33 * hashL bs + (b.toNat : Int)) % 65521 := by
  unfold hashL
  rw [List.foldl_append]
  rfl

set_option maxRecDepth 100000 in
theorem hash_run (bs : List UInt8) : ∀ x : Int, 0 ≤ x → x < 65521 → 0 ≤ bs.foldl (fun x b => (33 * x + (b.toNat : Int)) % 65521) x ∧ bs.foldl (fun x b => (33 * x + (b.toNat : Int)) % 65521) x < 65521 := by
  induction bs with
  | nil => exact fun x h0 h1 => ⟨h0, h1⟩
  | cons b bs ih => exact fun x _ _ => ih _ (Int.emod_nonneg _ (by decide)) (Int.emod_lt_of_pos _ (by decide))

set_option maxRecDepth 100000 in
theorem hashL_bd (bs : List UInt8) : 0 ≤ hashL bs ∧ hashL bs < 65521 := hash_run bs 5381 (by omega) (by omega)

set_option maxRecDepth 100000 in
theorem take_sign {s : ByteArray} {k : Nat} (h : k < s.size) : s.data.toList.take (k + 1) = s.data.toList.take k ++ [s[k]] := by
  have hl : k < s.data.toList.length := by simpa using h
  rw [List.take_succ_eq_append_getElem hl]
  rfl

set_option maxRecDepth 100000 in
theorem hash_take {s : ByteArray} {k : Nat} (h : k < s.size) : hashL (s.data.toList.take (k + 1)) = (33 * hashL (s.data.toList.take k) + (s[k].toNat : Int)) % 65521 := by
  rw [take_sign h, hashL_snoc]

set_option maxRecDepth 100000 in
theorem hash_all (s : ByteArray) : hashL (s.data.toList.take s.size) = hashL s.data.toList := by
  rw [List.take_of_length_le (by simp)]

end Go.Proofs.YtlbcpppmpbbkdabDoor

/- Contracts of LeafSum of both sides. -/
namespace Go.Proofs.YtlbcpppmpbbkdabDoor
open Go.ChangeShapes Go.WideShapes Go.ChangeAt Go.RowKit Go.Joins
attribute [local go_sem ↓] Go.wp_at_zero Go.wp_at_succ

def wrText (x : Wr) : List UInt8 := writeText x.k x.c x.s x.q x.v x.de x.xs

/-- The sum of what a map has of a key. -/
def leafB (ws : List Wr) (key : Int) : Int := match findW ws key with | some x => hashL (wrText x) | none => 0

set_option maxRecDepth 100000 in
theorem leafB_bd (ws : List Wr) (key : Int) : 0 ≤ leafB ws key ∧ leafB ws key < 65521 := by
  unfold leafB
  split
  · exact hashL_bd _
  · omega

set_option maxRecDepth 100000 in
theorem flat_len (f : Dp → List UInt8) (m : Nat) : ∀ (ds : List Dp), (∀ d ∈ ds, (f d).length ≤ m) → (ds.flatMap f).length ≤ m * ds.length
  | [], _ => by simp
  | d :: r, h => by
    have h1 := h d (by simp)
    have h2 := flat_len f m r fun x hx => h x (List.mem_cons_of_mem _ hx)
    rw [List.flatMap_cons, List.length_append, List.length_cons, Nat.mul_add, Nat.mul_one]
    omega

set_option maxRecDepth 100000 in
theorem numsText_le (ns : List Int) (h : Ints64 ns) : (numsText ns).length ≤ 22 * ns.length := by
  have := nums_len ns h ns.length (Nat.le_refl _)
  rwa [List.take_length] at this

set_option maxRecDepth 100000 in
theorem writeText_le (k c s q v : Int) (de : Bool) (xs : List Dp) : (writeText k c s q v de xs).length ≤ 700 := by
  unfold writeText
  split
  · rename_i h
    obtain ⟨o1, o2, o3, o4, -⟩ := ok_parts h
    have h6 := depR_len o4
    have n1 := numsText_le _ (ints_key o1)
    have n2 := numsText_le _ (ints_tag o2)
    have n3 := numsText_le _ (ints_rest (n := xs.length) o3 (by omega))
    have n4 : (xs.flatMap depText).length ≤ 88 * xs.length := flat_len depText 88 xs fun d hd => by
      obtain ⟨i, hi, rfl⟩ := List.getElem_of_mem hd
      have e : xs.getD i dz = xs[i] := by simp [List.getD, hi]
      have m1 := numsText_le _ (ints_key (dep_key o4 hi))
      have m2 := numsText_le _ (ints_tag (depsOk_tag o4 hi))
      rw [e] at m1 m2
      unfold depText
      rw [List.length_append]
      simp only [List.length_cons, List.length_nil] at m1 m2
      omega
    unfold headText
    simp only [List.length_append, List.length_cons, List.length_nil] at n1 n2 n3 ⊢
    omega
  · simp

set_option maxRecDepth 100000 in
theorem deps0_below {w w' : World} {a : Option Addr} {xs : List Dp} (h : Deps0 w a xs) (hb : Below w.heap.size w w') : Deps0 w' a xs := by
  rcases h with h | ⟨g, h1, h2, h3⟩
  · exact .inl h
  · exact .inr ⟨g, h1, Nat.lt_of_lt_of_le h2 hb.size, h3.below hb h2⟩

set_option maxRecDepth 100000 in
theorem str_bytes (bs : List UInt8) : (str bs).data.toList = bs := rfl

end Go.Proofs.YtlbcpppmpbbkdabDoor

/- The draws of FnWriteBack: a write, a text. -/
namespace Go.Proofs.YtlbcpppmpbbkdabDoor
open Go.ChangeShapes Go.WideShapes Go.ChangeAt Go.RowKit Go.Joins
open Go.Proofs.YtlbcpppmpbbkdabDoor.wb
attribute [local go_sem ↓] Go.wp_at_zero Go.wp_at_succ

set_option maxRecDepth 100000 in
theorem infoWr7 : (Tryd.prog.info? 28).map (·.size) = some 7 := by kernel_rfl

set_option maxRecDepth 100000 in
theorem rowSet_below {w W : World} {B g : Nat} (h : Below B w W) (hg : B ≤ g) (cs : Array Value) : Below B w (W.setRow g cs) :=
  ⟨h.os, h.tape, h.output, by simpa [World.setRow] using h.size, fun j hj => by
    have hne : ¬ g = j := by omega
    show (W.heap.modify g _)[j]? = _
    rw [Array.getElem?_modify, if_neg hne]
    exact h.block j hj⟩

set_option maxRecDepth 100000 in
theorem rowSet_block {W : World} {g t : Nat} {old : Array Value} (h : W.heap[g]? = some (.cells old t (0, 0))) (cs : Array Value) : (W.setRow g cs).heap[g]? = some (.cells cs t (0, 0)) := by
  simp [World.setRow, Array.getElem?_modify, h]

set_option maxRecDepth 100000 in
theorem rowSet_other {W : World} {g j : Nat} (h : g ≠ j) (cs : Array Value) : (W.setRow g cs).heap[j]? = W.heap[j]? := by
  show (W.heap.modify g _)[j]? = _
  rw [Array.getElem?_modify, if_neg h]

set_option maxRecDepth 100000 in
theorem holds_of_block {w w' : World} {g : Nat} {xs : List Dp} (h : HoldsDeps w g 0 xs) (hb : w'.heap[g]? = w.heap[g]?) : HoldsDeps w' g 0 xs := fun i hi => by
  have e : ∀ o, w'.cell? ⟨g, o, none⟩ = w.cell? ⟨g, o, none⟩ := fun o => World.cell?_of_block (a := ⟨g, o, none⟩) hb
  obtain ⟨a0, a1, a2, a3⟩ := h i hi
  exact ⟨(e _).trans a0, (e _).trans a1, (e _).trans a2, (e _).trans a3⟩

set_option maxRecDepth 100000 in
set_option maxHeartbeats 4000000 in
theorem drawText_any (a : Option Addr) (len cap : Nat) (w : World) (h : Bytes w a len) (hl : len ≤ 1048576) :
    Calls Tryd.prog 5 #[.slice a len cap] w fun e w' => ∃ (k c s q v : Int) (de : Bool) (g cp : Nat) (ds : List Dp), e = .returned (wrV k c s q v de (some ⟨g, 0, none⟩) ds.length cp) ∧ ds.length ≤ 7 ∧ w.heap.size ≤ g ∧ g < w'.heap.size ∧ HoldsDeps w' g 0 ds ∧ Below w.heap.size w w' := by
  have HY := Lib.hid h
  clear h
  have HA : Hid (Below w.heap.size w (w.alloc (.cells #[.int .i64 0, .int .i64 0, .int .i64 0, .int .i64 0, .int .i64 0, .bool false, .slice none 0 0] 28))) := (Below.refl _ _).alloc (Nat.le_refl _) _
  have HZ : Hid ((w.alloc (.cells #[.int .i64 0, .int .i64 0, .int .i64 0, .int .i64 0, .int .i64 0, .bool false, .slice none 0 0] 28)).heap[w.heap.size]? = some (.cells #[.int .i64 0, .int .i64 0, .int .i64 0, .int .i64 0, .int .i64 0, .bool false, .slice none 0 0] 28 (0, 0))) := heap_alloc_new w _
  go_enter Tryd.func5, Tryd.ntmps5
  go_wp2_with fail
  refine (open_as _ _ _ (w.heap.size + 1) _ (by simp) (HY.out.below HA.out) hl).mono ?_
  rintro e w1 ⟨rfl, hc1, hb1⟩
  have HC1 : Hid (Cur w1 (w.heap.size + 1) a len cap 0) := hc1
  have HZ1 := Lib.hid ((hb1.block w.heap.size (by simp)).trans HZ.out)
  have HB1 : Hid (Below w.heap.size w w1) := below_step HA.out HA.out.size hb1
  have hlt1 : w.heap.size + 1 < w1.heap.size := hc1.lt
  clear hc1 hb1 HA HZ HY
  go_wp2_with fail
  refine (write_any (w.heap.size + 1) a len cap 0 _ (by omega) HC1.out).mono ?_
  rintro e w2 ⟨k, c, s, q, v, de, g, cp, ds, rfl, hd, hg1, hg2, hD, -, hh⟩
  have hz : w2.heap[w.heap.size]? = some (.cells #[.int .i64 0, .int .i64 0, .int .i64 0, .int .i64 0, .int .i64 0, .bool false, .slice none 0 0] 28 (0, 0)) := (hh.block w.heap.size (by omega) (by omega)).trans HZ1.out
  have HB2 : Hid (Below w.heap.size w w2) := Hole.below HB1.out hh (Nat.le_succ _) HB1.out.size
  have HD := Lib.hid hD
  clear hh hD HB1 HC1
  have s0 : (Tryd.prog.info? 28).map (·.size) = some (#[.int .i64 k, .int .i64 c, .int .i64 s, .int .i64 q, .int .i64 v, .bool de, .slice (some ⟨g, 0, none⟩) ds.length cp] : Array Value).size := by rw [infoWr7]; rfl
  have s2 : (#[.int .i64 k, .int .i64 c, .int .i64 s, .int .i64 q, .int .i64 v, .bool de, .slice (some ⟨g, 0, none⟩) ds.length cp] : Array Value).all (·.oneCell') = true := by simp [Value.oneCell']
  have s1 : (#[.int .i64 0, .int .i64 0, .int .i64 0, .int .i64 0, .int .i64 0, .bool false, .slice none 0 0] : Array Value).size = (#[.int .i64 k, .int .i64 c, .int .i64 s, .int .i64 q, .int .i64 v, .bool de, .slice (some ⟨g, 0, none⟩) ds.length cp] : Array Value).size := rfl
  go_wp2_with (refine wpList_store_row rfl 28 _ _ rfl w.heap.size #[.int .i64 k, .int .i64 c, .int .i64 s, .int .i64 q, .int .i64 v, .bool de, .slice (some ⟨g, 0, none⟩) ds.length cp] rfl rfl _ _ hz s0 s1 s2 ?_)
  exact bodyPost_ret (v := wrV k c s q v de (some ⟨g, 0, none⟩) ds.length cp) (results_cell_row Tryd.results5 _ _ w.heap.size _ _ _ _ rfl (rowSet_block hz _) Tryd.underlying28 rfl s0) rfl ⟨k, c, s, q, v, de, g, cp, ds, rfl, hd, by omega, by simpa [World.setRow] using hg2, holds_of_block HD.out (rowSet_other (by omega) _), rowSet_below HB2.out (Nat.le_refl _) _⟩

/-- A text of at most so many bytes. -/
def StrF (n : Nat) : Fact := fun v _ => ∃ t : ByteArray, v = .string t ∧ t.size ≤ n

/-- A row of six short texts. -/
def SixAt (lo g : Nat) (w : World) : Prop := lo ≤ g ∧ g < w.heap.size ∧ ∀ i, i < 6 → ∃ t : ByteArray, w.cell? ⟨g, i, none⟩ = some (.string t) ∧ t.size ≤ 1

def SixF (lo : Nat) : Fact := fun v w => ∃ g, v = .slice (some ⟨g, 0, none⟩) 6 6 ∧ SixAt lo g w

def OneF (lo : Nat) : Fact := fun v w => ∃ g i, v = .pointer (some ⟨g, i, none⟩) ∧ i < 6 ∧ SixAt lo g w

set_option maxRecDepth 100000 in
theorem six_step {lo g B : Nat} {a : Option Addr} {len cap : Nat} {w w' : World} (h : SixAt lo g w) (hr : CurR B a len cap w w') (hB : B < lo) : SixAt lo g w' := by
  obtain ⟨h1, h2, h3⟩ := h
  refine ⟨h1, Nat.lt_of_lt_of_le h2 hr.1.size, fun i hi => ?_⟩
  obtain ⟨t, ht, hs⟩ := h3 i hi
  exact ⟨t, (hr.1.cell h2 (by omega)).trans ht, hs⟩

set_option maxRecDepth 100000 in
theorem lasts_six (lo B : Nat) (a : Option Addr) (len cap : Nat) (hB : B < lo) : lasts (CurR B a len cap) (SixF lo) := by
  rintro v w w' ⟨g, hv, h⟩ hr
  exact ⟨g, hv, six_step h hr hB⟩

set_option maxRecDepth 100000 in
theorem lasts_oneT (lo B : Nat) (a : Option Addr) (len cap : Nat) (hB : B < lo) : lasts (CurR B a len cap) (OneF lo) := by
  rintro v w w' ⟨g, i, hv, hi, h⟩ hr
  exact ⟨g, i, hv, hi, six_step h hr hB⟩

set_option maxRecDepth 100000 in
theorem six_new (w : World) (t : Nat) (lo : Nat) (hlo : lo ≤ w.heap.size) : SixF lo (.slice (some ⟨w.heap.size, 0, none⟩) 6 6) (w.alloc (.cells #[.string ⟨#[]⟩, .string ⟨#[48]⟩, .string ⟨#[32]⟩, .string ⟨#[45]⟩, .string ⟨#[49]⟩, .string ⟨#[120]⟩] t)) := by
  refine ⟨w.heap.size, rfl, hlo, by simp, fun i hi => ?_⟩
  rw [cell_of_row _ _ i _ t (0, 0) (heap_alloc_new w _)]
  match i, hi with
  | 0, _ => exact ⟨_, rfl, by decide⟩
  | 1, _ => exact ⟨_, rfl, by decide⟩
  | 2, _ => exact ⟨_, rfl, by decide⟩
  | 3, _ => exact ⟨_, rfl, by decide⟩
  | 4, _ => exact ⟨_, rfl, by decide⟩
  | 5, _ => exact ⟨_, rfl, by decide⟩

set_option maxRecDepth 100000 in
set_option maxHeartbeats 8000000 in
theorem drawRead_any (a : Option Addr) (len cap : Nat) (w : World) (h : Bytes w a len) (hl : len ≤ 1048576) :
    Calls Tryd.prog 10 #[.slice a len cap] w fun e w' => ∃ t : ByteArray, e = .returned (.string t) ∧ t.size ≤ 2000 ∧ Below w.heap.size w w' := by
  have HO := Lib.hid (open_any a len cap w h hl)
  clear h
  go_enter Tryd.func10, Tryd.ntmps10
  go_wp2_with fail
  refine HO.out.mono ?_
  rintro e w1 ⟨rfl, hc1, hb1⟩
  have HC1 := Lib.hid hc1
  have HB1 := Lib.hid hb1
  have hlt1 := hc1.lt
  clear hc1 hb1 HO
  go_wp2_with fail
  refine (write_any w.heap.size a len cap 0 _ (by omega) HC1.out).mono ?_
  rintro e w2 ⟨k, c, s, q, v, de, g, cp, ds, rfl, hd, hg1, hg2, hD, hc2, hh2⟩
  have HC2 := Lib.hid hc2
  have HB2 : Hid (Below w.heap.size w w2) := Hole.below HB1.out hh2 (Nat.le_refl _) HB1.out.size
  have HD := Lib.hid hD
  clear hc2 hh2 hD HB1 HC1
  go_wp2_with fail
  refine (specText_gen k c s q v de (some ⟨g, 0, none⟩) ds ds.length cp _ rfl (by omega) (.inr ⟨g, rfl, hg2, HD.out⟩)).mono ?_
  rintro e w3 ⟨rfl, hb3⟩
  have HC3 := Lib.hid (HC2.out.below hb3)
  have HB3 : Hid (Below w.heap.size w w3) := below_step HB2.out HB2.out.size hb3
  have hsz : (str (writeText k c s q v de ds)).size ≤ 700 := by rw [str_size]; exact writeText_le ..
  clear hb3 HC2 HB2 HD
  generalize str (writeText k c s q v de ds) = t at *
  go_wp2_with fail
  refine (once_any w.heap.size a len cap _ 3 _ (by omega) (by omega) (by omega) HC3.out).mono ?_
  rintro e w4 ⟨r, rfl, hc4, hh4⟩
  have HC4 := Lib.hid hc4
  have HB4 : Hid (Below w.heap.size w w4) := Hole.below HB3.out hh4 (Nat.le_refl _) HB3.out.size
  clear hc4 hh4 HC3 HB3
  cases r
  · go_wp2
    go_ret
    exact ⟨t, rfl, by omega, HB4.out⟩
  have hp : ((t.size + 1 : Nat) : Int) = (t.size : Int) + 1 := by push_cast; rfl
  have HPK := Lib.hid (pick_len w.heap.size a len cap (0 + 80 + 1) (t.size + 1) w4 (by omega) (by omega) (by omega) HC4.out)
  rw [hp] at HPK
  clear hp
  go_wp2_with fail
  refine HPK.out.mono ?_
  rintro e w5 ⟨j, rfl, hj, hc5, hh5⟩
  have HC5 : Hid (Cur w5 w.heap.size a len cap (200 - (20 : Nat))) := hc5.more (by omega)
  have HB5 : Hid (Below w.heap.size w w5) := Hole.below HB4.out hh5 (Nat.le_refl _) HB4.out.size
  have hw5 : w.heap.size < w5.heap.size := hc5.lt
  clear hc5 hh5 HC4 HB4 HPK
  have i1 : (0 : Int) ≤ (j : Int) := by omega
  have i2 : (j : Int) ≤ (t.size : Int) := by omega
  go_wp2_with fail
  refine wp_region_slots_n 19 [[(4, false)], [(5, false)], [(18, true), (19, true)], [], [(3, false)], [(22, true)], [(21, true), (23, true)], [(24, true)], [(20, true), (25, true)], [(4, false)], [(4, false)], [(28, true)], [(5, false)], [(3, false)], [(31, true)], [(30, true), (32, true)], [(29, true), (33, true)], [(27, true), (34, true)], [(26, true), (35, true)]] (CurAny w5 w.heap.size a len cap 200) (CurAny w5 w.heap.size a len cap 200) (CurS w5 w.heap.size a len cap 200) (CurR w.heap.size a len cap) (by kernel_rfl) (by kernel_rfl) (by rfl) (curS_start _ HC5.out) curS_step (fun _ _ _ h => curS_any h) (fun _ _ _ h => curS_any h) ?_
  iterate 2 (apply slot_eq; · (intro ρ w' ⟨p1, p2, p3⟩ ⟨hH, hC⟩ hn; simp at hn; go_simp; exact ⟨curR_refl _ _ _ _ _, rfl⟩))
  refine slot_fact (StrF 700) (fun _ _ _ h _ => h) ?_ ?_
  · intro ρ w' ⟨p1, p2, p3⟩ ⟨hH, hC⟩ hn
    simp at hn
    obtain ⟨e1, e2⟩ := hn
    go_simp
    exact ⟨curR_refl _ _ _ _ _, t.extract 0 j, rfl, by rw [ByteArray.size_extract]; omega⟩
  refine slot_fact (SixF w5.heap.size) (lasts_six _ _ _ _ _ hw5) ?_ ?_
  · intro ρ w' ⟨p1, p2, p3⟩ ⟨hH, hC⟩ hn
    simp at hn
    go_simp
    exact ⟨curR_alloc _ _ _ _ _ _, six_new w' _ _ hH.size⟩
  apply slot_eq
  · intro ρ w' ⟨p1, p2, p3⟩ ⟨hH, hC⟩ hn
    simp at hn
    go_simp
    exact ⟨curR_refl _ _ _ _ _, rfl⟩
  refine slot_fact (NatFact 6) (fun _ _ _ h _ => h) ?_ ?_
  · intro ρ w' ⟨p1, p2, p3⟩ ⟨hH, hC⟩ hn
    simp at hn
    go_simp
    exact got_call (pick_len_curR w.heap.size a len cap _ 6 _ (by omega) (by omega) (by omega) hC) fun e w'' ⟨r, he, hr, h1⟩ => ⟨_, he, hr, r, rfl, h1⟩
  refine slot_fact (OneF w5.heap.size) (lasts_oneT _ _ _ _ _ hw5) ?_ ?_
  · intro ρ w' ⟨p1, p2, p3⟩ ⟨hH, hC⟩ hn
    simp at hn
    obtain ⟨⟨g6, e1, h6⟩, r, e2, hr⟩ := hn
    have j1 : (0 : Int) ≤ (r : Int) := by omega
    have j2 : (r : Int) < 6 := by omega
    go_simp
    exact ⟨curR_refl _ _ _ _ _, g6, r, rfl, hr, h6⟩
  refine slot_fact (StrF 1) (fun _ _ _ h _ => h) ?_ ?_
  · intro ρ w' ⟨p1, p2, p3⟩ ⟨hH, hC⟩ hn
    simp at hn
    obtain ⟨g6, r, e1, hr, h6⟩ := hn
    obtain ⟨t6, c6, s6⟩ := h6.2.2 r hr
    go_simp
    exact ⟨curR_refl _ _ _ _ _, t6, rfl, s6⟩
  refine slot_fact (StrF 701) (fun _ _ _ h _ => h) ?_ ?_
  · intro ρ w' ⟨p1, p2, p3⟩ ⟨hH, hC⟩ hn
    simp at hn
    obtain ⟨⟨t1, e1, s1⟩, t2, e2, s2⟩ := hn
    have s3 : (t1 ++ t2).size ≤ 701 := by rw [ByteArray.size_append]; omega
    go_simp
    rw [if_neg (by omega)]
    exact ⟨curR_refl _ _ _ _ _, t1 ++ t2, rfl, s3⟩
  iterate 5 (apply slot_eq; · (intro ρ w' ⟨p1, p2, p3⟩ ⟨hH, hC⟩ hn; simp at hn; go_simp; exact ⟨curR_refl _ _ _ _ _, rfl⟩))
  refine slot_fact (NatFact 2) (fun _ _ _ h _ => h) ?_ ?_
  · intro ρ w' ⟨p1, p2, p3⟩ ⟨hH, hC⟩ hn
    simp at hn
    go_simp
    exact got_call (pick_len_curR w.heap.size a len cap _ 2 _ (by omega) (by omega) (by omega) hC) fun e w'' ⟨r, he, hr, h1⟩ => ⟨_, he, hr, r, rfl, h1⟩
  refine slot_fact (NatFact 1000) (fun _ _ _ h _ => h) ?_ ?_
  · intro ρ w' ⟨p1, p2, p3⟩ ⟨hH, hC⟩ hn
    simp at hn
    obtain ⟨e1, r, e2, hr⟩ := hn
    have m1 : IntKind.i64.wrap ((j : Int) + (r : Int)) = ((j + r : Nat) : Int) := by rw [wrap_small _ (by omega) (by omega)]; push_cast; rfl
    go_simp
    exact ⟨curR_refl _ _ _ _ _, j + r, by push_cast; rfl, by omega⟩
  refine slot_fact (NatFact (t.size + 1)) (fun _ _ _ h _ => h) ?_ ?_
  · intro ρ w' ⟨p1, p2, p3⟩ ⟨hH, hC⟩ hn
    simp at hn
    obtain ⟨e1, r, e2, hr⟩ := hn
    go_simp
    exact ⟨curR_refl _ _ _ _ _, min t.size r, by congr 1; omega, by omega⟩
  refine slot_fact (StrF 700) (fun _ _ _ h _ => h) ?_ ?_
  · intro ρ w' ⟨p1, p2, p3⟩ ⟨hH, hC⟩ hn
    simp at hn
    obtain ⟨e1, r, e2, hr⟩ := hn
    have j1 : (0 : Int) ≤ (r : Int) := by omega
    have j2 : (r : Int) ≤ (t.size : Int) := by omega
    go_simp
    exact ⟨curR_refl _ _ _ _ _, t.extract r t.size, rfl, by rw [ByteArray.size_extract]; omega⟩
  refine slot_fact (StrF 1401) (fun _ _ _ h _ => h) ?_ ?_
  · intro ρ w' ⟨p1, p2, p3⟩ ⟨hH, hC⟩ hn
    simp at hn
    obtain ⟨⟨t1, e1, s1⟩, t2, e2, s2⟩ := hn
    have s3 : (t1 ++ t2).size ≤ 1401 := by rw [ByteArray.size_append]; omega
    go_simp
    rw [if_neg (by omega)]
    exact ⟨curR_refl _ _ _ _ _, t1 ++ t2, rfl, s3⟩
  refine slot_end ?_
  rintro tv w6 ⟨hH, hC⟩ hF
  simp at hF
  obtain ⟨⟨t36, e36, s36⟩, -⟩ := hF
  have HB6 : Hid (Below w.heap.size w w6) := Hole.below HB5.out hH (Nat.le_refl _) HB5.out.size
  clear hH hC
  simp only [List.take_succ_cons, List.take_zero, List.drop_succ_cons, List.drop_zero, putAll, e36]
  clear e36
  simp only [Act.put, List.setIfInBounds_toArray, List.set_cons_succ, List.set_cons_zero]
  go_wp2
  go_ret
  exact ⟨t36, rfl, by omega, HB6.out⟩

end Go.Proofs.YtlbcpppmpbbkdabDoor

/- The laws' own big; a row's bytes, opened. -/
namespace Go.Proofs.YtlbcpppmpbbkdabDoor
open Go.ChangeShapes Go.WideShapes Go.ChangeAt Go.RowKit Go.Joins

namespace lawBytes

set_option maxRecDepth 100000 in
theorem big_is (a : Option Addr) (len cap : Nat) (r : Bool) (h : decide (1048576 < len) = r) (hm : len ≤ maxLen) (w : World) :
    Calls Tryd.prog 4 #[.slice a len cap] w fun e w' => e = .returned (.bool r) ∧ w' = w := by
  unfold maxLen at hm
  cases r
  · have h' : len ≤ 1048576 := by simpa using h
    clear h
    go_enter Tryd.func4, Tryd.ntmps4
    go_wp2
    go_ret
    exact ⟨by simp; omega, rfl⟩
  · have h' : 1048576 < len := by simpa using h
    clear h
    go_enter Tryd.func4, Tryd.ntmps4
    go_wp2
    go_ret
    exact ⟨by simp; omega, rfl⟩

set_option maxRecDepth 100000 in
theorem open_bytes {H : Type} {enc : TypeId × Value → H} {w : World} {base b0 : Nat} {held : Bool} {r : Go.Reach} {v : Value} {d : DataW H} {p : List MemPlace} (hv : Value.okWide Tryd.prog w r b0 22 v) (h : DataW.Trod enc Tryd.prog w base (fun _ => true) held 22 v d p) :
    ∃ (a : Option Addr) (len cap : Nat), v = .slice a len cap ∧ (len ≤ maxLen ∧ Bytes w a len) := by
  obtain ⟨a, len, cap, rfl⟩ := okWide_slice Tryd.underlying22 hv
  obtain ⟨fuel, hf⟩ := h
  refine ⟨a, len, cap, rfl, ?_⟩
  rcases open_ints Tryd.underlying22 Tryd.underlying5 (by kernel_rfl) hf with ⟨hcs, _⟩ | ⟨x, l, c, zs, hcs, _, hl, hm, hz, _, hcell, hwz⟩
  · simp [Value.cells] at hcs
    obtain ⟨rfl, rfl, rfl⟩ := hcs
    exact ⟨Nat.zero_le _, .inl rfl⟩
  · simp [Value.cells] at hcs
    obtain ⟨rfl, rfl, rfl⟩ := hcs
    refine ⟨by omega, ?_⟩
    by_cases h0 : len = 0
    · exact .inl h0
    · have hzl : zs.length = cap := by simpa using hz
      have hx : x = ⟨x.block, x.off, none⟩ := by
        have h1 := hcell 0 (by omega)
        simp [Addr.add] at h1
        cases x with
        | mk b o s =>
          cases s with
          | none => rfl
          | some s =>
            simp only [World.cell?] at h1
            split at h1 <;> simp at h1
      refine .inr ⟨x.block, x.off, by rw [← hx], ?_, fun i hi => ?_⟩
      · have h1 := hcell 0 (by omega)
        have := World.block_lt_of_cell? w _ h1
        simpa [Addr.add] using this
      · have h1 := hcell i (by omega)
        have hw : (Lit.int .u8 (zs.getD i 0)).wf = true := hwz _ (by rw [List.getD_eq_getElem?_getD, List.getElem?_eq_getElem (by omega)]; exact List.getElem_mem _)
        have hb := bounds_u8 hw
        refine ⟨zs.getD i 0, hb.1, hb.2, ?_⟩
        rw [hx] at h1
        have e : (Addr.mk x.block x.off none).add i = ⟨x.block, x.off + i, none⟩ := by
          unfold Addr.add
          split
          · rename_i h
            rw [h]
            rfl
          · rfl
        rw [e] at h1
        exact h1

end lawBytes

end Go.Proofs.YtlbcpppmpbbkdabDoor

/- Contracts of impl.flagNum, spec.l01Bit, impl.depCmp, slices.CompareFunc over dependencies. -/
namespace Go.Proofs.YtlbcpppmpbbkdabDoor
open Go.ChangeShapes Go.WideShapes Go.ChangeAt Go.RowKit Go.Joins
attribute [local go_sem ↓] Go.wp_at_zero Go.wp_at_succ

theorem flagNum_any (b : Bool) (w : World) :
    Calls Tryd.prog 16 #[.bool b] w fun e w' => e = .returned (.int .i64 (bit b)) ∧ w' = w := by
  cases b
  · go_enter Tryd.func16, Tryd.ntmps16
    go_wp2
    go_ret
    exact ⟨rfl, rfl⟩
  · go_enter Tryd.func16, Tryd.ntmps16
    go_wp2
    go_ret
    exact ⟨rfl, rfl⟩

theorem bit_any (b : Bool) (w : World) :
    Calls Tryd.prog 26 #[.bool b] w fun e w' => e = .returned (.int .i64 (bit b)) ∧ w' = w := by
  cases b
  · go_enter Tryd.func26, Tryd.ntmps26
    go_wp2
    go_ret
    exact ⟨rfl, rfl⟩
  · go_enter Tryd.func26, Tryd.ntmps26
    go_wp2
    go_ret
    exact ⟨rfl, rfl⟩

theorem two_cells (W : World) (x y : Int) (t b : Nat) (hb : W.heap.size = b) : ∀ i, i < [x, y].length → (W.alloc (Obj.cells #[.int .i64 x, .int .i64 y] t)).cell? ⟨b, i, none⟩ = some (.int .i64 ([x, y].getD i 0)) := by
  subst hb
  intro i hi
  match i, hi with
  | 0, _ => simp [go_sem]
  | 1, _ => simp [go_sem]

theorem alloc_held {W : World} {b o : Nat} {v : Value} (X : Obj) (h : W.cell? ⟨b, o, none⟩ = some v) (hz : b < W.heap.size) : (W.alloc X).cell? ⟨b, o, none⟩ = some v :=
  held_cell ((Below.refl _ _).alloc (Nat.le_refl _) X) h hz

theorem alloc_lt {W : World} {b : Nat} (X : Obj) (h : b < W.heap.size) : b < (W.alloc X).heap.size := by simp; omega

theorem alloc_below {w W : World} (X : Obj) (h : Below w.heap.size w W) : Below w.heap.size w (W.alloc X) := h.alloc h.size X

end Go.Proofs.YtlbcpppmpbbkdabDoor

/- The contract of impl.WriteCmp. -/
namespace Go.Proofs.YtlbcpppmpbbkdabDoor
open Go.ChangeShapes Go.WideShapes Go.ChangeAt Go.RowKit Go.Joins
attribute [local go_sem ↓] Go.wp_at_zero Go.wp_at_succ

theorem five_cells (W : World) (x y z u v : Int) (t b : Nat) (hb : W.heap.size = b) : ∀ i, i < [x, y, z, u, v].length → (W.alloc (Obj.cells #[.int .i64 x, .int .i64 y, .int .i64 z, .int .i64 u, .int .i64 v] t)).cell? ⟨b, i, none⟩ = some (.int .i64 ([x, y, z, u, v].getD i 0)) := by
  subst hb
  intro i hi
  match i, hi with
  | 0, _ => simp [go_sem]
  | 1, _ => simp [go_sem]
  | 2, _ => simp [go_sem]
  | 3, _ => simp [go_sem]
  | 4, _ => simp [go_sem]

/-- Two boxes of writes behind what was there. -/
abbrev TwoIn (w : World) (k c s q v : Int) (de : Bool) (a : Option Addr) (len cap : Nat) (k' c' s' q' v' : Int) (de' : Bool) (a' : Option Addr) (len' cap' : Nat) (W : World) : Prop :=
  W.cell? ⟨w.heap.size, 0, none⟩ = some (.int .i64 k) ∧ W.cell? ⟨w.heap.size, 1, none⟩ = some (.int .i64 c) ∧ W.cell? ⟨w.heap.size, 2, none⟩ = some (.int .i64 s) ∧ W.cell? ⟨w.heap.size, 3, none⟩ = some (.int .i64 q) ∧ W.cell? ⟨w.heap.size, 4, none⟩ = some (.int .i64 v) ∧ W.cell? ⟨w.heap.size, 5, none⟩ = some (.bool de) ∧ W.cell? ⟨w.heap.size, 6, none⟩ = some (.slice a len cap) ∧ W.cell? ⟨w.heap.size + 1, 0, none⟩ = some (.int .i64 k') ∧ W.cell? ⟨w.heap.size + 1, 1, none⟩ = some (.int .i64 c') ∧ W.cell? ⟨w.heap.size + 1, 2, none⟩ = some (.int .i64 s') ∧ W.cell? ⟨w.heap.size + 1, 3, none⟩ = some (.int .i64 q') ∧ W.cell? ⟨w.heap.size + 1, 4, none⟩ = some (.int .i64 v') ∧ W.cell? ⟨w.heap.size + 1, 5, none⟩ = some (.bool de') ∧ W.cell? ⟨w.heap.size + 1, 6, none⟩ = some (.slice a' len' cap') ∧ w.heap.size + 1 < W.heap.size ∧ Below w.heap.size w W

theorem two_step {w W w1 : World} {k c s q v : Int} {de : Bool} {a : Option Addr} {len cap : Nat} {k' c' s' q' v' : Int} {de' : Bool} {a' : Option Addr} {len' cap' : Nat} (h : TwoIn w k c s q v de a len cap k' c' s' q' v' de' a' len' cap' W) (hb : Below W.heap.size W w1) : TwoIn w k c s q v de a len cap k' c' s' q' v' de' a' len' cap' w1 := by
  obtain ⟨e0, e1, e2, e3, e4, e5, e6, f0, f1, f2, f3, f4, f5, f6, hz, hB⟩ := h
  have hz' : w.heap.size < W.heap.size := by omega
  exact ⟨held_cell hb e0 hz', held_cell hb e1 hz', held_cell hb e2 hz', held_cell hb e3 hz', held_cell hb e4 hz', held_cell hb e5 hz', held_cell hb e6 hz', held_cell hb f0 hz, held_cell hb f1 hz, held_cell hb f2 hz, held_cell hb f3 hz, held_cell hb f4 hz, held_cell hb f5 hz, held_cell hb f6 hz, Nat.lt_of_lt_of_le hz hb.size, below_step hB hB.size hb⟩

theorem two_alloc {w W : World} {k c s q v : Int} {de : Bool} {a : Option Addr} {len cap : Nat} {k' c' s' q' v' : Int} {de' : Bool} {a' : Option Addr} {len' cap' : Nat} (X : Obj) (h : TwoIn w k c s q v de a len cap k' c' s' q' v' de' a' len' cap' W) : TwoIn w k c s q v de a len cap k' c' s' q' v' de' a' len' cap' (W.alloc X) :=
  two_step h ((Below.refl _ _).alloc (Nat.le_refl _) X)

theorem two_start (w : World) (k c s q v : Int) (de : Bool) (a : Option Addr) (len cap : Nat) (k' c' s' q' v' : Int) (de' : Bool) (a' : Option Addr) (len' cap' : Nat) (t t' : Nat) : TwoIn w k c s q v de a len cap k' c' s' q' v' de' a' len' cap' ((w.alloc (.cells #[.int .i64 k, .int .i64 c, .int .i64 s, .int .i64 q, .int .i64 v, .bool de, .slice a len cap] t)).alloc (.cells #[.int .i64 k', .int .i64 c', .int .i64 s', .int .i64 q', .int .i64 v', .bool de', .slice a' len' cap'] t')) := by
  refine ⟨?_, ?_, ?_, ?_, ?_, ?_, ?_, ?_, ?_, ?_, ?_, ?_, ?_, ?_, ?_, ?_⟩ <;> first | (simp [go_sem]; done) | (simp; omega) | exact ((Below.refl _ _).alloc (Nat.le_refl _) _).alloc (by simp) _

theorem two_drew {w W : World} {k c s q v : Int} {de : Bool} {a : Option Addr} {len cap : Nat} {k' c' s' q' v' : Int} {de' : Bool} {a' : Option Addr} {len' cap' : Nat} (h : TwoIn w k c s q v de a len cap k' c' s' q' v' de' a' len' cap' W) : TwoIn w k c s q v de a len cap k' c' s' q' v' de' a' len' cap' W.drew :=
  two_step h (Below.refl _ _).drew

end Go.Proofs.YtlbcpppmpbbkdabDoor
