import Derived.Test.YtidpcjcnhklmpalGreatDoorPack6
import Derived.Test.YtidpcjcnhklmpalGreatDoorPack2
import Derived.Deep.DrawnRows
import Derived.Test.YtidpcjcnhklmpalGreatDoorPack9
import Derived.Test.YtidpcjcnhklmpalGreatDoorPack4
import Derived.Test.YtidpcjcnhklmpalGreatDoorPack5
import Derived.Test.YtidpcjcnhklmpalGreatDoorPack3
import Derived.Test.YtidpcjcnhklmpalGreatDoorPack7
import Derived.Test.YtidpcjcnhklmpalGreatDoorPack10
import Derived.Test.YtidpcjcnhklmpalGreatDoorPack1
/- The contracts of the specification's MapAt and MapHas. -/
namespace Go.Proofs.YtidpcjcnhklmpalGreatDoor
open Go.ChangeShapes Go.WideShapes Go.ChangeAt Go.RowKit Go.Joins
attribute [local go_sem ↓] Go.wp_at_zero Go.wp_at_succ

/-- Number i is the first write of this key. -/
def FirstAt (ws : List Wr) (key : Int) (i : Nat) : Prop := i < ws.length ∧ (ws.getD i wz).k = key ∧ ∀ j, j < i → (ws.getD j wz).k ≠ key
/-- There is none of this key. -/
def NoneAt (ws : List Wr) (key : Int) : Prop := ∀ j, j < ws.length → (ws.getD j wz).k ≠ key

theorem FirstAt.same {ws : List Wr} {key : Int} {i j : Nat} (h : FirstAt ws key i) (h' : FirstAt ws key j) : i = j := by
  by_cases h1 : i < j
  · exact absurd h.2.1 (h'.2.2 i h1)
  · by_cases h2 : j < i
    · exact absurd h'.2.1 (h.2.2 j h2)
    · omega

theorem FirstAt.no {ws : List Wr} {key : Int} {i : Nat} (h : FirstAt ws key i) (h' : NoneAt ws key) : False := h' i h.1 h.2.1

/-- What a look at a map tells: a write of one's own, or nothing. -/
def Told (ws : List Wr) (key : Int) (w w' : World) (v : Value) : Prop :=
  (∃ i g cp, FirstAt ws key i ∧ v = .tuple #[wrOf (ws.getD i wz) (some ⟨g, 0, none⟩) cp, .bool true] ∧ w.heap.size ≤ g ∧ g < w'.heap.size ∧ HoldsDeps w' g 0 (ws.getD i wz).xs) ∨
  (NoneAt ws key ∧ v = .tuple #[wrV 0 0 0 0 0 false none 0 0, .bool false])

def findW (ws : List Wr) (key : Int) : Option Wr := ws.find? fun x => x.k == key

theorem find_first : ∀ {ws : List Wr} {key : Int} {i : Nat}, FirstAt ws key i → findW ws key = some (ws.getD i wz)
  | [], _, _, h => by simp [FirstAt] at h
  | x :: r, key, 0, h => by
    have hk : x.k = key := h.2.1
    simp [findW, hk]
  | x :: r, key, i + 1, h => by
    have hk : x.k ≠ key := h.2.2 0 (by omega)
    have : FirstAt r key i := ⟨by simpa using h.1, h.2.1, fun j hj => h.2.2 (j + 1) (by omega)⟩
    have := find_first this
    simp only [findW, List.find?_cons, beq_eq_false_iff_ne.2 hk] at this ⊢
    exact this

theorem find_none {ws : List Wr} {key : Int} (h : NoneAt ws key) : findW ws key = none := by
  induction ws with
  | nil => rfl
  | cons x r ih =>
    have hk : x.k ≠ key := h 0 (by simp)
    have := ih fun j hj => h (j + 1) (by simpa using hj)
    simp only [findW, List.find?_cons, beq_eq_false_iff_ne.2 hk] at this ⊢
    exact this

def hasB (ws : List Wr) (key c s q : Int) : Bool := match findW ws key with | some x => decide (0 ≤ tcmp x.c x.s x.q c s q) | none => false

end Go.Proofs.YtidpcjcnhklmpalGreatDoor

/- The contract of impl.TagCmp. -/
namespace Go.Proofs.YtidpcjcnhklmpalGreatDoor
open Go.ChangeShapes Go.WideShapes Go.ChangeAt Go.RowKit
attribute [local go_sem ↓] Go.wp_at_zero Go.wp_at_succ

theorem three_cells (W : World) (x y z : Int) (t b : Nat) (hb : W.heap.size = b) : ∀ i, i < [x, y, z].length → (W.alloc (Obj.cells #[.int .i64 x, .int .i64 y, .int .i64 z] t)).drew.cell? ⟨b, i, none⟩ = some (.int .i64 ([x, y, z].getD i 0)) := by
  subst hb
  intro i hi
  match i, hi with
  | 0, _ => simp [go_sem]
  | 1, _ => simp [go_sem]
  | 2, _ => simp [go_sem]

end Go.Proofs.YtidpcjcnhklmpalGreatDoor

/- Contracts of impl.MapOk, placeOfKey, copyWrite, MapAt, MapHas. -/
namespace Go.Proofs.YtidpcjcnhklmpalGreatDoor
open Go.ChangeShapes Go.WideShapes Go.ChangeAt Go.RowKit Go.Joins
attribute [local go_sem ↓] Go.wp_at_zero Go.wp_at_succ

def lastW (ws : List Wr) (k : Nat) : Int := if k = 0 then -1 else (ws.getD (k - 1) wz).k

theorem okW_key {x : Wr} (h : okW x = true) : 0 ≤ x.k ∧ x.k ≤ 5 := by
  unfold okW writeOkB btw at h
  simp only [Bool.and_eq_true, decide_eq_true_eq] at h
  exact h.1

theorem wrGood_bad {ws : List Wr} {k : Nat} (h1 : okW (ws.getD k wz) = true) (h : (ws.getD k wz).k ≤ lastW ws k) : wrGood ws k = false := by
  unfold wrGood
  rw [h1, Bool.true_and]
  refine decide_eq_false ?_
  have := okW_key h1
  unfold lastW at h
  by_cases hk : k = 0
  · rw [if_pos hk] at h
    omega
  · rw [if_neg hk] at h
    omega

theorem wrGood_good {ws : List Wr} {k : Nat} (h1 : okW (ws.getD k wz) = true) (h : lastW ws k < (ws.getD k wz).k) : wrGood ws k = true := by
  unfold wrGood
  rw [h1, Bool.true_and]
  refine decide_eq_true ?_
  unfold lastW at h
  by_cases hk : k = 0
  · exact .inl hk
  · rw [if_neg hk] at h
    exact .inr h

theorem wrGood_not {ws : List Wr} {k : Nat} (h1 : okW (ws.getD k wz) = false) : wrGood ws k = false := by
  unfold wrGood
  rw [h1, Bool.false_and]

theorem kept_new {W w1 : World} {b t : Nat} {vs : Array Value} (hg : W.grownBy w1 none) (h : W.heap[b]? = some (.cells vs t (0, 0))) : (∀ j v, vs[j]? = some v → w1.cell? ⟨b, j, none⟩ = some v) ∧ ∀ j, w1.frozen? ⟨b, j, none⟩ = false := by
  have hb : b < W.heap.size := (Array.getElem?_eq_some_iff.1 h).1
  have e := hg.block b hb (by simp)
  rw [h] at e
  exact ⟨fun j v hv => by rw [cell_of_row w1 b j vs t (0, 0) e]; exact hv, fun j => frozen_of_row w1 b j vs t e⟩

theorem heap_one (w : World) (o1 o2 : Obj) : ((w.alloc o1).alloc o2).heap[w.heap.size]? = some o1 ∧ ((w.alloc o1).alloc o2).heap[w.heap.size + 1]? = some o2 := by
  constructor
  · rw [Below.heap_alloc _ _ _ (by simp)]
    exact heap_alloc_new w o1
  · have := heap_alloc_new (w.alloc o1) o2
    simpa using this

/-- A place, or none. -/
def PlaceAt (ws : List Wr) (key r : Int) : Prop := (∃ i : Nat, FirstAt ws key i ∧ r = i) ∨ (NoneAt ws key ∧ r = -1)

/-- Dependencies of one's own, from block number B on, where there are some. -/
def FreshDeps (B : Nat) (w : World) (a : Option Addr) (g : Nat) (xs : List Dp) : Prop := 0 < xs.length → a = some ⟨g, 0, none⟩ ∧ B ≤ g ∧ g < w.heap.size ∧ HoldsDeps w g 0 xs ∧ ∀ o, w.frozen? ⟨g, o, none⟩ = false

theorem FreshDeps.below {B : Nat} {w w' : World} {a : Option Addr} {g : Nat} {xs : List Dp} (h : FreshDeps B w a g xs) (hb : Below w.heap.size w w') : FreshDeps B w' a g xs := fun hp => by
  obtain ⟨h1, h2, h3, h4, h5⟩ := h hp
  exact ⟨h1, h2, Nat.lt_of_lt_of_le h3 hb.size, h4.below hb h3, fun o => (hb.frozen (p := ⟨g, o, none⟩) h3).trans (h5 o)⟩

theorem FreshDeps.isDeps {B : Nat} {w : World} {a : Option Addr} {g : Nat} {xs : List Dp} (h : FreshDeps B w a g xs) : IsDeps w a xs := by
  by_cases hp : 0 < xs.length
  · obtain ⟨h1, _, h3, h4, _⟩ := h hp
    exact .inr ⟨g, 0, h1, h3, h4⟩
  · exact .inl (List.length_eq_zero_iff.1 (by omega))

theorem fresh_set {w : World} {g : Nat} {xs : List Dp} {p : Addr} (h : g < w.heap.size ∧ HoldsDeps w g 0 xs ∧ ∀ o, w.frozen? ⟨g, o, none⟩ = false) (hne : p.block ≠ g) (v : Value) : g < (w.setCell p v).heap.size ∧ HoldsDeps (w.setCell p v) g 0 xs ∧ ∀ o, (w.setCell p v).frozen? ⟨g, o, none⟩ = false :=
  ⟨by simpa using h.1, h.2.1.set hne v, fun o => by rw [World.frozen?_setCell]; exact h.2.2 o⟩

end Go.Proofs.YtidpcjcnhklmpalGreatDoor

/- Contracts of impl.MapAt and impl.MapHas. -/
namespace Go.Proofs.YtidpcjcnhklmpalGreatDoor
open Go.ChangeShapes Go.WideShapes Go.ChangeAt Go.RowKit Go.Joins
attribute [local go_sem ↓] Go.wp_at_zero Go.wp_at_succ

/-- What a look at a map tells: a write of one's own, or nothing. -/
def ToldG (ws : List Wr) (key : Int) (B : Nat) (w' : World) (v : Value) : Prop :=
  (∃ i a g cp, FirstAt ws key i ∧ v = .tuple #[wrOf (ws.getD i wz) a cp, .bool true] ∧ FreshDeps B w' a g (ws.getD i wz).xs) ∨
  (NoneAt ws key ∧ v = .tuple #[wrV 0 0 0 0 0 false none 0 0, .bool false])

theorem fresh_set7 {B : Nat} {w : World} {g : Nat} {xs : List Dp} {a : Option Addr} (h : FreshDeps B w a g xs) {b : Nat} (hne : b < B) (o0 o1 o2 o3 o4 o5 o6 : Nat) (v0 v1 v2 v3 v4 v5 v6 : Value) :
    FreshDeps B (((((((w.setCell ⟨b, o0, none⟩ v0).setCell ⟨b, o1, none⟩ v1).setCell ⟨b, o2, none⟩ v2).setCell ⟨b, o3, none⟩ v3).setCell ⟨b, o4, none⟩ v4).setCell ⟨b, o5, none⟩ v5).setCell ⟨b, o6, none⟩ v6) a g xs := fun hp => by
  obtain ⟨h1, h2, h3⟩ := h hp
  have hn : b ≠ g := by omega
  exact ⟨h1, h2, fresh_set (fresh_set (fresh_set (fresh_set (fresh_set (fresh_set (fresh_set h3 hn _) hn _) hn _) hn _) hn _) hn _) hn _⟩

theorem FreshDeps.mono {B B' : Nat} {w : World} {a : Option Addr} {g : Nat} {xs : List Dp} (h : FreshDeps B w a g xs) (hb : B' ≤ B) : FreshDeps B' w a g xs := fun hp => by
  obtain ⟨h1, h2, h3⟩ := h hp
  exact ⟨h1, Nat.le_trans hb h2, h3⟩

end Go.Proofs.YtidpcjcnhklmpalGreatDoor

/- Marks: what markWriteS writes, heldWriteS finds. -/
namespace Go.Proofs.YtidpcjcnhklmpalGreatDoor
open Go.ChangeShapes Go.WideShapes Go.ChangeAt Go.RowKit Go.Joins
attribute [local go_sem ↓] Go.wp_at_zero Go.wp_at_succ

/-- The number that write i's marks begin with. -/
def markK (ws : List Wr) (k : Int) (i : Nat) : Int := k + 6 * i + 4 * bulk (ws.take i)

theorem markK_zero (ws : List Wr) (k : Int) : markK ws k 0 = k := by simp [markK, bulk]

theorem markK_next (ws : List Wr) (k : Int) (i : Nat) (h : i < ws.length) : markK ws k (i + 1) = markK ws k i + 6 + 4 * (ws.getD i wz).xs.length := by
  unfold markK
  rw [bulk_take ws i h]
  push_cast
  omega

theorem bulk_take_le (ws : List Wr) (i : Nat) : bulk (ws.take i) ≤ bulk ws := by
  induction ws generalizing i with
  | nil => simp
  | cons x r ih =>
    cases i with
    | zero => simp [bulk]
    | succ i =>
      have := ih i
      simp only [List.take_succ_cons, bulk]
      omega

theorem markK_bounds (ws : List Wr) (k : Int) (i : Nat) (h0 : 0 ≤ k) (h1 : k ≤ 1073741824) (hi : i ≤ 1048576) (hb : bulk ws ≤ 1048576) : 0 ≤ markK ws k i ∧ markK ws k i ≤ 1099511627000 := by
  have := bulk_take_le ws i
  unfold markK
  omega

/-- Cell o of a marked row; f: what was there. -/
def mkCell (ws : List Wr) (k : Int) (f : Nat → Value) (o : Nat) : Value :=
  if o % 7 < 5 then .int .i64 (markK ws k (o / 7) + (o % 7 : Nat)) else if o % 7 = 5 then .bool ((markK ws k (o / 7) + 1 + 1 + 1 + 1 + 1) % 3 == 0) else f o

theorem mkCell_int (ws : List Wr) (k : Int) (f : Nat → Value) (j o c : Nat) (ho : o = j * 7 + c) (hc : c < 5) (z : Int) (hz : z = markK ws k j + c) : Value.int .i64 z = mkCell ws k f o := by
  subst ho
  unfold mkCell
  have e1 : (j * 7 + c) % 7 = c := by omega
  have e2 : (j * 7 + c) / 7 = j := by omega
  rw [e1, e2, if_pos hc, hz]

theorem mk_step (ws : List Wr) (k : Int) (f : Nat → Value) (j o : Nat) :
    (if o = j * 7 + 5 then Value.bool ((markK ws k j + 1 + 1 + 1 + 1 + 1) % 3 == 0) else if o = j * 7 + 4 then Value.int .i64 (markK ws k j + 1 + 1 + 1 + 1) else if o = j * 7 + 1 + 2 then Value.int .i64 (markK ws k j + 1 + 1 + 1) else if o = j * 7 + 1 + 1 then Value.int .i64 (markK ws k j + 1 + 1) else if o = j * 7 + 1 then Value.int .i64 (markK ws k j + 1) else if o = j * 7 then Value.int .i64 (markK ws k j) else if o < j * 7 then mkCell ws k f o else f o) = (if o < (j + 1) * 7 then mkCell ws k f o else f o) := by
  by_cases h5 : o = j * 7 + 5
  · rw [if_pos h5, if_pos (by omega), h5]
    unfold mkCell
    rw [if_neg (by omega), if_pos (by omega), show (j * 7 + 5) / 7 = j by omega]
  rw [if_neg h5]
  by_cases h4 : o = j * 7 + 4
  · rw [if_pos h4, if_pos (by omega)]
    exact mkCell_int ws k f j o 4 h4 (by omega) _ (by omega)
  rw [if_neg h4]
  by_cases h3 : o = j * 7 + 1 + 2
  · rw [if_pos h3, if_pos (by omega)]
    exact mkCell_int ws k f j o 3 (by omega) (by omega) _ (by omega)
  rw [if_neg h3]
  by_cases h2 : o = j * 7 + 1 + 1
  · rw [if_pos h2, if_pos (by omega)]
    exact mkCell_int ws k f j o 2 (by omega) (by omega) _ (by omega)
  rw [if_neg h2]
  by_cases h1 : o = j * 7 + 1
  · rw [if_pos h1, if_pos (by omega)]
    exact mkCell_int ws k f j o 1 (by omega) (by omega) _ (by omega)
  rw [if_neg h1]
  by_cases h0 : o = j * 7
  · rw [if_pos h0, if_pos (by omega)]
    exact mkCell_int ws k f j o 0 (by omega) (by omega) _ (by omega)
  rw [if_neg h0]
  by_cases hl : o < j * 7
  · rw [if_pos hl, if_pos (by omega)]
  · rw [if_neg hl]
    by_cases h6 : o < (j + 1) * 7
    · rw [if_pos h6]
      unfold mkCell
      rw [if_neg (by omega), if_neg (by omega)]
    · rw [if_neg h6]

abbrev mark6 (w : World) (b o : Nat) (m : Int) : World :=
  (((((w.setCell ⟨b, o, none⟩ (.int .i64 m)).setCell ⟨b, o + 1, none⟩ (.int .i64 (m + 1))).setCell ⟨b, o + 1 + 1, none⟩ (.int .i64 (m + 1 + 1))).setCell ⟨b, o + 1 + 2, none⟩ (.int .i64 (m + 1 + 1 + 1))).setCell ⟨b, o + 4, none⟩ (.int .i64 (m + 1 + 1 + 1 + 1))).setCell ⟨b, o + 5, none⟩ (.bool ((m + 1 + 1 + 1 + 1 + 1) % 3 == 0))

theorem mark6_block (w : World) (b o : Nat) (m : Int) {g : Nat} (hg : g ≠ b) : (mark6 w b o m).heap[g]? = w.heap[g]? := by
  unfold mark6
  simp only [Below.heap_setCell _ _ _ _ (show g ≠ (⟨b, _, none⟩ : Addr).block from hg)]

/-- Writes of one's own, from block number base on: the row's block and, where there are some, those of the dependencies, all apart, none of them shut. -/
structure OwnG (w : World) (base b : Nat) (ws : List Wr) (γ : Nat → Nat) : Prop where
  lt : b < w.heap.size
  le : base ≤ b
  open_ : ∀ o, w.frozen? ⟨b, o, none⟩ = false
  at_ : ∀ i, i < ws.length → ∃ a cap, WrAt w b (i * 7) (ws.getD i wz) a cap ∧ (0 < (ws.getD i wz).xs.length → a = some ⟨γ i, 0, none⟩)
  deps : ∀ i, i < ws.length → 0 < (ws.getD i wz).xs.length → base ≤ γ i ∧ γ i < w.heap.size ∧ γ i ≠ b ∧ HoldsDeps w (γ i) 0 (ws.getD i wz).xs ∧ ∀ o, w.frozen? ⟨γ i, o, none⟩ = false
  inj : ∀ i j, i < ws.length → j < ws.length → 0 < (ws.getD i wz).xs.length → 0 < (ws.getD j wz).xs.length → γ i = γ j → i = j

theorem OwnWs.gen {w : World} {base b : Nat} {ws : List Wr} {γ : Nat → Nat} (h : OwnWs w base b ws γ) : OwnG w base b ws γ where
  lt := h.holds.1
  le := h.le
  open_ := h.open_
  at_ := fun i hi => by
    obtain ⟨⟨cap, h1⟩, _, _⟩ := h.holds.2 i hi
    exact ⟨_, cap, h1, fun _ => rfl⟩
  deps := fun i hi _ => ⟨(h.deps i hi).1, (h.holds.2 i hi).2.1, (h.deps i hi).2.1, (h.holds.2 i hi).2.2, (h.deps i hi).2.2⟩
  inj := fun i j hi hj _ _ e => h.inj i j hi hj e

theorem OwnG.below {w w' : World} {base b : Nat} {ws : List Wr} {γ : Nat → Nat} (h : OwnG w base b ws γ) (hb : Below w.heap.size w w') : OwnG w' base b ws γ where
  lt := Nat.lt_of_lt_of_le h.lt hb.size
  le := h.le
  open_ := fun o => (hb.frozen (p := ⟨b, o, none⟩) h.lt).trans (h.open_ o)
  at_ := fun i hi => by
    obtain ⟨a, cap, h1, h2⟩ := h.at_ i hi
    exact ⟨a, cap, h1.of_block (hb.block _ h.lt), h2⟩
  deps := fun i hi hp => by
    obtain ⟨h1, h2, h3, h4, h5⟩ := h.deps i hi hp
    exact ⟨h1, Nat.lt_of_lt_of_le h2 hb.size, h3, h4.below hb h2, fun o => (hb.frozen (p := ⟨γ i, o, none⟩) h2).trans (h5 o)⟩
  inj := h.inj

theorem OwnG.isWs {w : World} {base b : Nat} {ws : List Wr} {γ : Nat → Nat} (h : OwnG w base b ws γ) (hx : Few ws) : IsWs w (some ⟨b, 0, none⟩) ws := by
  refine .inr ⟨b, 0, rfl, h.lt, fun i hi => ?_⟩
  obtain ⟨a, cap, h1, h2⟩ := h.at_ i hi
  refine ⟨a, cap, by rw [Nat.zero_add]; exact h1, by have := hx i hi; unfold maxLen; omega, ?_⟩
  by_cases hp : 0 < (ws.getD i wz).xs.length
  · exact .inr ⟨_, _, h2 hp, (h.deps i hi hp).2.1, (h.deps i hi hp).2.2.2.1⟩
  · exact .inl (List.length_eq_zero_iff.1 (by omega))

/-- The blocks that a row of writes takes up. -/
def TakenUp (b : Nat) (ws : List Wr) (γ : Nat → Nat) (x : Nat) : Prop := x = b ∨ ∃ i, i < ws.length ∧ 0 < (ws.getD i wz).xs.length ∧ x = γ i

/-- While a row is being marked: of its writes the first j are. -/
structure MarkInv (w wr : World) (b : Nat) (ws : List Wr) (γ : Nat → Nat) (k : Int) (f : Nat → Value) (j : Nat) : Prop where
  row : CellsAre wr b (ws.length * 7) (fun o => if o < j * 7 then mkCell ws k f o else f o)
  deps : ∀ i, i < ws.length → 0 < (ws.getD i wz).xs.length → CellsAre wr (γ i) ((ws.getD i wz).xs.length * 4) (fun o => if i < j then markFn (markK ws k i + 1 + 1 + 1 + 1 + 1 + 1) o else .int .i64 (depCell (ws.getD i wz).xs o))
  only : Only (TakenUp b ws γ) w wr

theorem markInv_round {w wr w2 : World} {base b : Nat} {ws : List Wr} {γ : Nat → Nat} {k : Int} {f : Nat → Value} {j : Nat} (hO : OwnG w base b ws γ) (hj : j < ws.length) (h : MarkInv w wr b ws γ k f j)
    (h2 : CellsAre w2 (γ j) ((ws.getD j wz).xs.length * 4) (markFn (markK ws k j + 1 + 1 + 1 + 1 + 1 + 1))) (h3 : Only (fun x => 0 < (ws.getD j wz).xs.length ∧ x = γ j) (mark6 wr b (j * 7) (markK ws k j)) w2) : MarkInv w w2 b ws γ k f (j + 1) where
  row := by
    have h6 : CellsAre (mark6 wr b (j * 7) (markK ws k j)) b (ws.length * 7) (fun o => if o < (j + 1) * 7 then mkCell ws k f o else f o) :=
      ((((((h.row.set (by omega) _).set (by omega) _).set (by omega) _).set (by omega) _).set (by omega) _).set (by omega) _).congr (fun o _ => mk_step ws k f j o)
    exact h6.of_block (h3.block b (fun e => (hO.deps j hj e.1).2.2.1 e.2.symm))
  deps := by
    intro i hi hp
    by_cases hij : i = j
    · subst hij
      exact h2.congr (fun o _ => by rw [if_pos (by omega)])
    · have e : ¬ (0 < (ws.getD j wz).xs.length ∧ γ i = γ j) := fun e => hij (hO.inj i j hi hj hp e.1 e.2)
      refine ((h.deps i hi hp).of_block ((h3.block (γ i) e).trans (mark6_block _ _ _ _ (hO.deps i hi hp).2.2.1))).congr (fun o _ => ?_)
      by_cases hl : i < j
      · rw [if_pos hl, if_pos (by omega)]
      · rw [if_neg hl, if_neg (by omega)]
  only := by
    refine Only.trans ((((((h.only.set (.inl rfl) _ _).set (.inl rfl) _ _).set (.inl rfl) _ _).set (.inl rfl) _ _).set (.inl rfl) _ _).set (.inl rfl) _ _) h3 fun x hx => .inr ⟨j, hj, hx.1, hx.2⟩

theorem markInv_start {w : World} {base b : Nat} {ws : List Wr} {γ : Nat → Nat} (k : Int) (hO : OwnG w base b ws γ) : MarkInv w w b ws γ k (fun o => (w.cell? ⟨b, o, none⟩).getD undef) 0 where
  row := by
    intro o ho
    dsimp only
    rw [if_neg (by omega)]
    obtain ⟨a, cap, ⟨h0, h1, h2, h3, h4, h5, h6⟩, _⟩ := hO.at_ (o / 7) (by omega)
    have h7 : o % 7 = 0 ∨ o % 7 = 1 ∨ o % 7 = 2 ∨ o % 7 = 3 ∨ o % 7 = 4 ∨ o % 7 = 5 ∨ o % 7 = 6 := by omega
    have hx : ∃ v, w.cell? ⟨b, o, none⟩ = some v := by
      rcases h7 with e | e | e | e | e | e | e
      · exact ⟨_, by rw [show o = o / 7 * 7 by omega]; exact h0⟩
      · exact ⟨_, by rw [show o = o / 7 * 7 + 1 by omega]; exact h1⟩
      · exact ⟨_, by rw [show o = o / 7 * 7 + 2 by omega]; exact h2⟩
      · exact ⟨_, by rw [show o = o / 7 * 7 + 3 by omega]; exact h3⟩
      · exact ⟨_, by rw [show o = o / 7 * 7 + 4 by omega]; exact h4⟩
      · exact ⟨_, by rw [show o = o / 7 * 7 + 5 by omega]; exact h5⟩
      · exact ⟨_, by rw [show o = o / 7 * 7 + 6 by omega]; exact h6⟩
    obtain ⟨v, hv⟩ := hx
    simp [hv]
  deps := by
    intro i hi hp o ho
    dsimp only
    rw [if_neg (by omega)]
    have := holds_cells (hO.deps i hi hp).2.2.2.1 ho
    rwa [Nat.zero_add] at this
  only := Only.refl _ _

theorem markInv_slice {w wr : World} {base b : Nat} {ws : List Wr} {γ : Nat → Nat} {k : Int} {j i : Nat} (hO : OwnG w base b ws γ) (h : MarkInv w wr b ws γ k (fun o => (w.cell? ⟨b, o, none⟩).getD undef) j) (hi : i < ws.length) :
    ∃ a cp, wr.cell? ⟨b, i * 7 + 6, none⟩ = some (.slice a (ws.getD i wz).xs.length cp) ∧ (0 < (ws.getD i wz).xs.length → a = some ⟨γ i, 0, none⟩) := by
  obtain ⟨a, cap, ⟨_, _, _, _, _, _, h6⟩, ha⟩ := hO.at_ i hi
  refine ⟨a, cap, ?_, ha⟩
  rw [h.row (i * 7 + 6) (by omega)]
  have e : mkCell ws k (fun o => (w.cell? ⟨b, o, none⟩).getD undef) (i * 7 + 6) = (w.cell? ⟨b, i * 7 + 6, none⟩).getD undef := by
    unfold mkCell
    rw [if_neg (by omega), if_neg (by omega)]
  simp only [e, ite_self, h6]
  rfl

/-- A row of writes that is marked, from k on. -/
def MarkedWs (w : World) (b : Nat) (ws : List Wr) (γ : Nat → Nat) (k : Int) : Prop :=
  ∀ i, i < ws.length → (w.cell? ⟨b, i * 7, none⟩ = some (.int .i64 (markK ws k i)) ∧ w.cell? ⟨b, i * 7 + 1, none⟩ = some (.int .i64 (markK ws k i + 1)) ∧ w.cell? ⟨b, i * 7 + 1 + 1, none⟩ = some (.int .i64 (markK ws k i + 1 + 1)) ∧ w.cell? ⟨b, i * 7 + 1 + 2, none⟩ = some (.int .i64 (markK ws k i + 1 + 1 + 1)) ∧
    w.cell? ⟨b, i * 7 + 4, none⟩ = some (.int .i64 (markK ws k i + 1 + 1 + 1 + 1)) ∧ w.cell? ⟨b, i * 7 + 5, none⟩ = some (.bool ((markK ws k i + 1 + 1 + 1 + 1 + 1) % 3 == 0)) ∧ ∃ a cp, w.cell? ⟨b, i * 7 + 6, none⟩ = some (.slice a (ws.getD i wz).xs.length cp) ∧ (0 < (ws.getD i wz).xs.length → a = some ⟨γ i, 0, none⟩)) ∧
    (0 < (ws.getD i wz).xs.length → CellsAre w (γ i) ((ws.getD i wz).xs.length * 4) (markFn (markK ws k i + 1 + 1 + 1 + 1 + 1 + 1)))

theorem MarkedWs.below {w w' : World} {b : Nat} {ws : List Wr} {γ : Nat → Nat} {k : Int} {B : Nat} (h : MarkedWs w b ws γ k) (hb : Below B w w') (h1 : b < B) (h2 : ∀ i, i < ws.length → 0 < (ws.getD i wz).xs.length → γ i < B) : MarkedWs w' b ws γ k := by
  intro i hi
  obtain ⟨⟨e0, e1, e2, e3, e4, e5, a, cp, e6, e7⟩, hd⟩ := h i hi
  have c : ∀ o, w'.cell? ⟨b, o, none⟩ = w.cell? ⟨b, o, none⟩ := fun o => hb.cell (p := ⟨b, o, none⟩) h1
  exact ⟨⟨(c _).trans e0, (c _).trans e1, (c _).trans e2, (c _).trans e3, (c _).trans e4, (c _).trans e5, a, cp, (c _).trans e6, e7⟩, fun hp => (hd hp).of_block (hb.block _ (h2 i hi hp))⟩

theorem markInv_end {w wr : World} {base b : Nat} {ws : List Wr} {γ : Nat → Nat} {k : Int} (hO : OwnG w base b ws γ) (h : MarkInv w wr b ws γ k (fun o => (w.cell? ⟨b, o, none⟩).getD undef) ws.length) : MarkedWs wr b ws γ k := by
  intro i hi
  have r : ∀ c, c < 7 → wr.cell? ⟨b, i * 7 + c, none⟩ = some (mkCell ws k (fun o => (w.cell? ⟨b, o, none⟩).getD undef) (i * 7 + c)) := fun c hc => by
    rw [h.row _ (by omega)]
    dsimp only
    rw [if_pos (by omega)]
  refine ⟨⟨?_, ?_, ?_, ?_, ?_, ?_, markInv_slice hO h hi⟩, fun hp => (h.deps i hi hp).congr (fun o _ => by rw [if_pos hi])⟩
  · rw [show i * 7 = i * 7 + 0 from rfl, r 0 (by omega), mkCell_int ws k _ i (i * 7 + 0) 0 rfl (by omega) (markK ws k i) (by omega)]
  · rw [r 1 (by omega), mkCell_int ws k _ i (i * 7 + 1) 1 rfl (by omega) (markK ws k i + 1) (by omega)]
  · rw [show i * 7 + 1 + 1 = i * 7 + 2 from rfl, r 2 (by omega), mkCell_int ws k _ i (i * 7 + 2) 2 rfl (by omega) (markK ws k i + 1 + 1) (by omega)]
  · rw [show i * 7 + 1 + 2 = i * 7 + 3 from rfl, r 3 (by omega), mkCell_int ws k _ i (i * 7 + 3) 3 rfl (by omega) (markK ws k i + 1 + 1 + 1) (by omega)]
  · rw [r 4 (by omega), mkCell_int ws k _ i (i * 7 + 4) 4 rfl (by omega) (markK ws k i + 1 + 1 + 1 + 1) (by omega)]
  · rw [r 5 (by omega)]
    unfold mkCell
    rw [if_neg (by omega), if_pos (by omega), show (i * 7 + 5) / 7 = i by omega]

set_option maxHeartbeats 4000000 in
theorem markWriteS_any (base b n cap : Nat) (k : Int) (ws : List Wr) (γ : Nat → Nat) (w : World) (hn : ws.length = n) (hm : n ≤ 1048576) (hbk : bulk ws ≤ 1048576) (h0 : 0 ≤ k) (h1 : k ≤ 1073741824) (ho : OwnG w base b ws γ) :
    Calls Tryz.prog 13 #[.slice (some ⟨b, 0, none⟩) n cap, .int .i64 k] w fun e w' => e = .returned (.int .i64 (markK ws k n)) ∧ MarkedWs w' b ws γ k ∧ Only (TakenUp b ws γ) w w' := by
  have HO : Hid (OwnG w base b ws γ) := ho
  have HN : Hid (ws.length = n) := hn
  clear ho hn
  have HB : Hid (∀ i, i ≤ n → 0 ≤ markK ws k i ∧ markK ws k i ≤ 1099511627000) := fun i hi => markK_bounds ws k i h0 h1 (by omega) hbk
  go_enter Tryz.func13, Tryz.ntmps13
  go_wp2
  go_loopw [1, 5] (fun l i wr => ∃ (j : Nat), j ≤ n ∧ i = .int .i64 j ∧ l = .int .i64 (markK ws k j) ∧ Hid (MarkInv w wr b ws γ k (fun o => (w.cell? ⟨b, o, none⟩).getD undef) j)) (fun _ i _ => n - (intOf i).toNat)
  case atStart => exact ⟨0, Nat.zero_le _, rfl, by rw [markK_zero], markInv_start k HO.out⟩
  case round =>
    obtain ⟨j, hj, rfl, rfl, HI⟩ := hrel
    by_cases hj' : j < n
    · have hjw : j < ws.length := by rw [HN.out]; exact hj'
      have c0 := HI.out.row (j * 7) (by omega)
      have c1 := HI.out.row (j * 7 + 1) (by omega)
      have c2 := HI.out.row (j * 7 + 1 + 1) (by omega)
      have c3 := HI.out.row (j * 7 + 1 + 2) (by omega)
      have c4 := HI.out.row (j * 7 + 4) (by omega)
      have c5 := HI.out.row (j * 7 + 5) (by omega)
      obtain ⟨aj, cp, c6, haj⟩ := markInv_slice HO.out HI.out hjw
      have HAJ := Lib.hid haj
      clear haj
      have fz : ∀ o, wr.frozen? ⟨b, o, none⟩ = false := fun o => (HI.out.only.frozen _).trans (HO.out.open_ o)
      have i1 : (0 : Int) ≤ (j : Int) := by omega
      have i2 : (j : Int) < (n : Int) := by omega
      obtain ⟨m0, m1⟩ := HB.out j hj
      have HS : Hid (∀ w2, CellsAre w2 (γ j) ((ws.getD j wz).xs.length * 4) (markFn (markK ws k j + 1 + 1 + 1 + 1 + 1 + 1)) → Only (fun x => 0 < (ws.getD j wz).xs.length ∧ x = γ j) (mark6 wr b (j * 7) (markK ws k j)) w2 → MarkInv w w2 b ws γ k (fun o => (w.cell? ⟨b, o, none⟩).getD undef) (j + 1)) := fun w2 h2 h3 => markInv_round HO.out hjw HI.out h2 h3
      have HD : Hid (CellsAre (mark6 wr b (j * 7) (markK ws k j)) (γ j) ((ws.getD j wz).xs.length * 4) (fun o => .int .i64 (depCell (ws.getD j wz).xs o))) := by
        by_cases hp : 0 < (ws.getD j wz).xs.length
        · exact ((HI.out.deps j hjw hp).of_block (mark6_block _ _ _ _ (HO.out.deps j hjw hp).2.2.1)).congr (fun o _ => by rw [if_neg (Nat.lt_irrefl j)])
        · exact fun o ho => by omega
      have HZ : Hid (0 < (ws.getD j wz).xs.length → ∀ o, (mark6 wr b (j * 7) (markK ws k j)).frozen? ⟨γ j, o, none⟩ = false) := fun hp o => by
        simp only [World.frozen?_setCell]
        exact (HI.out.only.frozen _).trans ((HO.out.deps j hjw hp).2.2.2.2 o)
      have HK : Hid (markK ws k (j + 1) = markK ws k j + 6 + 4 * (ws.getD j wz).xs.length) := markK_next ws k j hjw
      have hln : (ws.getD j wz).xs.length ≤ 1048576 := Nat.le_trans (bulk_one ws j hjw) hbk
      clear HI
      generalize markK ws k j = m at *
      generalize (ws.getD j wz).xs = ys at *
      generalize γ j = gj at *
      go_wp2_with fail
      refine (markDepS_any _ _ _ _ _ _ _ hln (by omega) (by omega) HAJ.out HD.out HZ.out).mono ?_
      rintro e w2 ⟨rfl, h2, h3⟩
      have HI2 := Lib.hid (HS.out w2 h2 h3)
      clear h2 h3 HS HD HZ
      go_wp2
      exact ⟨⟨j + 1, by omega, by go_num, by rw [HK.out]; congr 1; omega, HI2⟩, by simp [intOf]; omega⟩
    · have hjj : j = n := by omega
      subst hjj
      go_wp2
      go_ret
      refine ⟨rfl, markInv_end HO.out ?_, HI.out.only⟩
      rw [HN.out]
      exact HI.out

set_option maxHeartbeats 4000000 in
theorem heldWriteS_any (b n cap : Nat) (k : Int) (ws : List Wr) (γ : Nat → Nat) (w : World) (hn : ws.length = n) (hm : n ≤ 1048576) (hbk : bulk ws ≤ 1048576) (h0 : 0 ≤ k) (h1 : k ≤ 1073741824) (ho : MarkedWs w b ws γ k) :
    Calls Tryz.prog 14 #[.slice (some ⟨b, 0, none⟩) n cap, .int .i64 k] w fun e w' => e = .returned (.int .i64 (markK ws k n)) ∧ w' = w := by
  have HO : Hid (MarkedWs w b ws γ k) := ho
  have HN : Hid (ws.length = n) := hn
  clear ho hn
  have HB : Hid (∀ i, i ≤ n → 0 ≤ markK ws k i ∧ markK ws k i ≤ 1099511627000) := fun i hi => markK_bounds ws k i h0 h1 (by omega) hbk
  go_enter Tryz.func14, Tryz.ntmps14
  go_wp2
  go_loopw [1, 5] (fun l i wr => ∃ (j : Nat), j ≤ n ∧ i = .int .i64 j ∧ l = .int .i64 (markK ws k j) ∧ wr = w) (fun _ i _ => n - (intOf i).toNat)
  case atStart => exact ⟨0, Nat.zero_le _, rfl, by rw [markK_zero], rfl⟩
  case round =>
    obtain ⟨j, hj, rfl, rfl, rfl⟩ := hrel
    by_cases hj' : j < n
    · have hjw : j < ws.length := by rw [HN.out]; exact hj'
      obtain ⟨⟨c0, c1, c2, c3, c4, c5, aj, cp, c6, haj⟩, hd⟩ := HO.out j hjw
      have HAJ := Lib.hid haj
      have HD : Hid (CellsAre wr (γ j) ((ws.getD j wz).xs.length * 4) (markFn (markK ws k j + 1 + 1 + 1 + 1 + 1 + 1))) := by
        by_cases hp : 0 < (ws.getD j wz).xs.length
        · exact hd hp
        · exact fun o ho => by omega
      clear hd haj
      have i1 : (0 : Int) ≤ (j : Int) := by omega
      have i2 : (j : Int) < (n : Int) := by omega
      obtain ⟨m0, m1⟩ := HB.out j hj
      have HK : Hid (markK ws k (j + 1) = markK ws k j + 6 + 4 * (ws.getD j wz).xs.length) := markK_next ws k j hjw
      have hln : (ws.getD j wz).xs.length ≤ 1048576 := Nat.le_trans (bulk_one ws j hjw) hbk
      generalize markK ws k j = m at *
      generalize (ws.getD j wz).xs.length = ln at *
      generalize γ j = gj at *
      go_wp2_with fail
      refine (heldDepS_any _ _ _ _ _ _ hln (by omega) (by omega) HAJ.out HD.out).mono ?_
      rintro e w2 ⟨rfl, rfl⟩
      go_wp2
      exact ⟨⟨j + 1, by omega, by go_num, by rw [HK.out]; congr 1; omega, trivial⟩, by simp [intOf]; omega⟩
    · have hjj : j = n := by omega
      subst hjj
      go_wp2
      go_ret
      exact ⟨rfl, rfl⟩

end Go.Proofs.YtidpcjcnhklmpalGreatDoor

/- A row of writes of one's own whose dependencies may be nil, and that grows. -/
namespace Go.Proofs.YtidpcjcnhklmpalGreatDoor
open Go.ChangeShapes Go.WideShapes Go.ChangeAt Go.RowKit Go.Joins

/-- A write, where its dependencies are said to lie, their block, their room. -/
structure EnG where
  x : Wr
  a : Option Addr
  g : Nat
  cp : Nat

def ezG : EnG := ⟨wz, none, 0, 0⟩

def wrValsG (e : EnG) : List Value := [.int .i64 e.x.k, .int .i64 e.x.c, .int .i64 e.x.s, .int .i64 e.x.q, .int .i64 e.x.v, .bool e.x.de, .slice e.a e.x.xs.length e.cp]

set_option maxRecDepth 100000 in
theorem valsG_len : ∀ es : List EnG, (es.flatMap wrValsG).length = es.length * 7
  | [] => rfl
  | e :: r => by
    rw [List.flatMap_cons, List.length_append, valsG_len r]
    simp [wrValsG]
    omega

set_option maxRecDepth 100000 in
theorem valsG_at : ∀ (es : List EnG) (i c : Nat), i < es.length → c < 7 → (es.flatMap wrValsG)[i * 7 + c]? = (wrValsG (es.getD i ezG))[c]?
  | [], i, c, hi, _ => by simp at hi
  | e :: r, 0, c, _, hc => by
    rw [List.flatMap_cons, List.getElem?_append_left (by simp [wrValsG]; omega)]
    simp
  | e :: r, i + 1, c, hi, hc => by
    rw [List.flatMap_cons, List.getElem?_append_right (by simp [wrValsG]; omega)]
    have := valsG_at r i c (by simpa using hi) hc
    rw [show (i + 1) * 7 + c - (wrValsG e).length = i * 7 + c by simp [wrValsG]; omega, this]
    simp

set_option maxRecDepth 100000 in
theorem valsG_one (es : List EnG) : ∀ u ∈ es.flatMap wrValsG, u.oneCell' = true := by
  intro u hu
  obtain ⟨e, _, h⟩ := List.mem_flatMap.1 hu
  simp only [wrValsG, List.mem_cons, List.not_mem_nil, or_false] at h
  rcases h with rfl | rfl | rfl | rfl | rfl | rfl | rfl <;> rfl

set_option maxRecDepth 100000 in
theorem frozen_of_block {w w' : World} {b o : Nat} (h : w'.heap[b]? = w.heap[b]?) : w'.frozen? ⟨b, o, none⟩ = w.frozen? ⟨b, o, none⟩ := by
  unfold World.frozen?
  simp only [h]

set_option maxRecDepth 100000 in
theorem FreshDeps.of_block {B : Nat} {w w' : World} {a : Option Addr} {g : Nat} {xs : List Dp} (h : FreshDeps B w a g xs) (hs : w.heap.size ≤ w'.heap.size) (hb : 0 < xs.length → w'.heap[g]? = w.heap[g]?) : FreshDeps B w' a g xs := fun hp => by
  obtain ⟨h1, h2, h3, h4, h5⟩ := h hp
  refine ⟨h1, h2, Nat.lt_of_lt_of_le h3 hs, fun i hi => ?_, fun o => (frozen_of_block (hb hp)).trans (h5 o)⟩
  have e' : ∀ o, w'.cell? ⟨g, o, none⟩ = w.cell? ⟨g, o, none⟩ := fun o => World.cell?_of_block (a := ⟨g, o, none⟩) (hb hp)
  obtain ⟨a0, a1, a2, a3⟩ := h4 i hi
  exact ⟨(e' _).trans a0, (e' _).trans a1, (e' _).trans a2, (e' _).trans a3⟩

/-- A row of writes of one's own, from block number base on; it may be nil. -/
structure RowG (w : World) (base : Nat) (v : Value) (es : List EnG) : Prop where
  own : w.ownsRow base 54 7 v es.length (es.flatMap wrValsG)
  deps : ∀ e ∈ es, FreshDeps base w e.a e.g e.x.xs ∧ (0 < e.x.xs.length → v.ownBlock ≠ some e.g)
  apart : es.Pairwise fun e e' => 0 < e.x.xs.length → 0 < e'.x.xs.length → e.g ≠ e'.g

set_option maxRecDepth 100000 in
theorem rowG_nil (w : World) (base : Nat) : RowG w base (.slice none 0 0) [] where
  own := World.ownsRow_nil w base _ _
  deps := fun e he => by simp at he
  apart := List.Pairwise.nil

set_option maxRecDepth 100000 in
theorem RowG.below {w w' : World} {base : Nat} {v : Value} {es : List EnG} (h : RowG w base v es) (hb : Below w.heap.size w w') : RowG w' base v es where
  own := h.own.kept (row := none) ⟨hb.os, hb.tape, hb.output, hb.size, fun k hk _ => hb.block k hk⟩ (by
    by_cases e : v.ownBlock = none
    · exact .inl e
    · exact .inr e)
  deps := fun e he => ⟨(h.deps e he).1.below hb, (h.deps e he).2⟩
  apart := h.apart

set_option maxRecDepth 100000 in
theorem RowG.mono {w : World} {base base' : Nat} {v : Value} {es : List EnG} (h : RowG w base v es) (hb : base' ≤ base) : RowG w base' v es where
  own := by
    refine ⟨h.own.1, ?_⟩
    rcases h.own.2 with h1 | ⟨g, cap, cur, h1, h2, h3⟩
    · exact .inl h1
    · exact .inr ⟨g, cap, cur, h1, Nat.le_trans hb h2, h3⟩
  deps := fun e he => ⟨(h.deps e he).1.mono hb, (h.deps e he).2⟩
  apart := h.apart

set_option maxRecDepth 100000 in
/-- One write more. -/
theorem RowG.more {w w5 : World} {base g5 cap5 : Nat} {v : Value} {es : List EnG} {e : EnG} (h : RowG w base v es) (he : FreshDeps base w e.a e.g e.x.xs) (hv : 0 < e.x.xs.length → v.ownBlock ≠ some e.g) (hap : ∀ d ∈ es, 0 < d.x.xs.length → 0 < e.x.xs.length → d.g ≠ e.g)
    (hown : w5.ownsRow base 54 7 (.slice (some ⟨g5, 0, none⟩) (es.length + 1) cap5) (es.length + 1) (es.flatMap wrValsG ++ wrValsG e)) (hgrow : w.grownBy w5 v.ownBlock) (hg : v.ownBlock = some g5 ∨ g5 = w.heap.size) : RowG w5 base (.slice (some ⟨g5, 0, none⟩) (es.length + 1) cap5) (es ++ [e]) where
  own := by
    rw [List.length_append, List.flatMap_append]
    simpa using hown
  deps := by
    have : ∀ d : EnG, FreshDeps base w d.a d.g d.x.xs → (0 < d.x.xs.length → v.ownBlock ≠ some d.g) → FreshDeps base w5 d.a d.g d.x.xs ∧ (0 < d.x.xs.length → (Value.slice (some ⟨g5, 0, none⟩) (es.length + 1) cap5).ownBlock ≠ some d.g) := fun d h1 h2 => by
      refine ⟨h1.of_block hgrow.size fun hp => hgrow.block d.g (h1 hp).2.2.1 (fun e => h2 hp e.symm), fun hp e => ?_⟩
      have e5 : g5 = d.g := by
        simp only [Value.ownBlock, Option.some.injEq] at e
        exact e
      rcases hg with hg | hg
      · exact h2 hp (by rw [hg, e5])
      · have := (h1 hp).2.2.1
        omega
    intro d hd
    rcases List.mem_append.1 hd with hd | hd
    · exact this d (h.deps d hd).1 (h.deps d hd).2
    · have hd : d = e := by simpa using hd
      subst hd
      exact this d he hv
  apart := by
    rw [List.pairwise_append]
    exact ⟨h.apart, by simp, fun d hd e' he' => by
      have : e' = e := by simpa using he'
      subst this
      exact hap d hd⟩

def gammaG (es : List EnG) (i : Nat) : Nat := (es.getD i ezG).g

set_option maxRecDepth 100000 in
theorem pairwise_getD {r : EnG → EnG → Prop} : ∀ {es : List EnG}, es.Pairwise r → ∀ i j, i < j → j < es.length → r (es.getD i ezG) (es.getD j ezG)
  | [], _, _, _, _, h => by simp at h
  | e :: es, hp, 0, j + 1, _, h => by
    have hj : j < es.length := by simpa using h
    have := (List.pairwise_cons.1 hp).1 (es.getD j ezG) (by simp [List.getD, hj])
    simpa using this
  | e :: es, hp, i + 1, j + 1, hij, h => by
    have := pairwise_getD (List.pairwise_cons.1 hp).2 i j (by omega) (by simpa using h)
    simpa using this

set_option maxRecDepth 100000 in
/-- The row as a slice that is the call's own. -/
theorem RowG.form {w : World} {base : Nat} {v : Value} {es : List EnG} (h : RowG w base v es) :
    ∃ a cap, v = .slice a es.length cap ∧ (es = [] ∨ ∃ b, a = some ⟨b, 0, none⟩ ∧ OwnG w base b (es.map (·.x)) (gammaG es)) := by
  rcases h.own.2 with ⟨h1, h2⟩ | ⟨g, cap, cur, h1, h2, h3, _⟩
  · exact ⟨none, 0, by rw [h1, h2], .inl (List.length_eq_zero_iff.1 h2)⟩
  · refine ⟨_, cap, h1, .inr ⟨g, rfl, ?_⟩⟩
    subst h1
    have hlt : g < w.heap.size := (h.own.lt g rfl).2
    have hm : ∀ i, i < es.length → es.getD i ezG ∈ es := fun i hi => by simp [List.getD, hi]
    have hx : ∀ i, i < es.length → (es.map (·.x)).getD i wz = (es.getD i ezG).x := fun i hi => by simp [List.getD, hi]
    have hl : (es.map (·.x)).length = es.length := by simp
    refine ⟨hlt, h2, fun o => h.own.frozenAt o, fun i hi => ?_, fun i hi hp => ?_, fun i j hi hj hp hq e => ?_⟩
    · rw [hl] at hi
      rw [hx i hi]
      have c : ∀ c, c < 7 → w.cell? ⟨g, i * 7 + c, none⟩ = (wrValsG (es.getD i ezG))[c]? := fun c hc => by rw [h.own.cellAt _ (by omega), valsG_at es i c hi hc]
      exact ⟨(es.getD i ezG).a, (es.getD i ezG).cp, ⟨c 0 (by omega), c 1 (by omega), c 2 (by omega), c 3 (by omega), c 4 (by omega), c 5 (by omega), c 6 (by omega)⟩, fun hp => ((h.deps _ (hm i hi)).1 hp).1⟩
    · rw [hl] at hi
      rw [hx i hi] at hp ⊢
      obtain ⟨_, h5, h6, h7, h8⟩ := (h.deps _ (hm i hi)).1 hp
      refine ⟨h5, h6, fun e => (h.deps _ (hm i hi)).2 hp (by rw [← e]; rfl), h7, h8⟩
    · rw [hl] at hi hj
      rw [hx i hi] at hp
      rw [hx j hj] at hq
      by_cases h1 : i < j
      · exact absurd e (pairwise_getD h.apart i j h1 hj hp hq)
      · by_cases h2 : j < i
        · exact absurd e.symm (pairwise_getD h.apart j i h2 hi hq hp)
        · omega

set_option maxRecDepth 100000 in
theorem oneG_cells (w : World) (t : Nat) (e : EnG) : ∀ j u, (wrValsG e)[j]? = some u → (w.alloc (.cells #[.int .i64 e.x.k, .int .i64 e.x.c, .int .i64 e.x.s, .int .i64 e.x.q, .int .i64 e.x.v, .bool e.x.de, .slice e.a e.x.xs.length e.cp] t)).cell? ((⟨w.heap.size, 0, none⟩ : Addr).add j) = some u := by
  intro j u hu
  have e1 : (⟨w.heap.size, 0, none⟩ : Addr).add j = ⟨w.heap.size, j, none⟩ := by
    unfold Addr.add
    split
    · rename_i h
      rw [h]
    · simp
  rw [e1, cell_of_row _ _ j _ t (0, 0) (heap_alloc_new w _), ← hu]
  simp [wrValsG]

set_option maxRecDepth 100000 in
/-- One write of a slice, in a later world; its dependencies in the world of the slice. -/
theorem IsWs.base {w w' : World} {a : Option Addr} {ws : List Wr} (h : IsWs w a ws) (hb : Below w.heap.size w w') {k n : Nat} (hn : ws.length = n) (hk : k < n) :
    ∃ b o a' cap, a = some ⟨b, o, none⟩ ∧ b < w'.heap.size ∧ WrAt w' b (o + k * 7) (ws.getD k wz) a' cap ∧ IsDeps w a' (ws.getD k wz).xs := by
  rcases h with h | ⟨b, o, ha, hlt, hh⟩
  · subst h
    simp at hn
    omega
  · obtain ⟨a', cap, h1, _, h3⟩ := hh k (by omega)
    exact ⟨b, o, a', cap, ha, Nat.lt_of_lt_of_le hlt hb.size, h1.of_block (hb.block _ hlt), h3⟩

end Go.Proofs.YtidpcjcnhklmpalGreatDoor

/- A batch's head in words, and a batch in a block of its own: plain facts for spec.l06Batch. -/
namespace Go.Proofs.YtidpcjcnhklmpalGreatDoor
open Go.ChangeShapes Go.WideShapes Go.ChangeAt Go.RowKit Go.Joins

/-- A batch in a block of its own. -/
structure BBox (w : World) (b : Nat) (v : Value) : Prop where
  lt : b < w.heap.size
  c0 : w.cell? ⟨b, 0, none⟩ = some v
  fz : ∀ o, w.frozen? ⟨b, o, none⟩ = false

set_option maxRecDepth 100000 in
theorem BBox.of_block {w w' : World} {b : Nat} {v : Value} (h : BBox w b v) (hs : w.heap.size ≤ w'.heap.size) (hb : w'.heap[b]? = w.heap[b]?) : BBox w' b v :=
  ⟨Nat.lt_of_lt_of_le h.lt hs, (World.cell?_of_block (a := ⟨b, 0, none⟩) hb).trans h.c0, fun o => (frozen_ofb hb).trans (h.fz o)⟩

set_option maxRecDepth 100000 in
theorem BBox.below {w w' : World} {b : Nat} {v : Value} (h : BBox w b v) (hb : Below w.heap.size w w') : BBox w' b v := h.of_block hb.size (hb.block b h.lt)

set_option maxRecDepth 100000 in
theorem BBox.set {w : World} {b : Nat} {v : Value} (h : BBox w b v) (u : Value) : BBox (w.setCell ⟨b, 0, none⟩ u) b u :=
  ⟨by simpa [World.setCell] using h.lt, cell_set_same h.c0, fun o => by rw [World.frozen?_setCell]; exact h.fz o⟩

set_option maxRecDepth 100000 in
theorem BBox.setOther {w : World} {b c : Nat} {v : Value} (h : BBox w b v) (hc : b ≠ c) (u : Value) : BBox (w.setCell ⟨c, 0, none⟩ u) b v :=
  h.of_block ((Hole.refl c w).set 0 u).size (((Hole.refl c w).set 0 u).block b h.lt hc)

set_option maxRecDepth 100000 in
theorem RowG.holeQ {w w' : World} {B base : Nat} {v : Value} {es : List EnG} (h : RowG w base v es) (hh : Hole B w w') (hB : B < base) : RowG w' base v es where
  own := World.ownsRow.kept (row := some B) h.own ⟨hh.os, hh.tape, hh.output, hh.size, fun k hk hn => hh.block k hk (fun e => hn (by rw [e]))⟩ (by
    by_cases e : v.ownBlock = none
    · exact .inl e
    · refine .inr fun e2 => ?_
      have := (World.ownsRow.lt h.own B e2).1
      omega)
  deps := fun e he => ⟨(h.deps e he).1.of_block hh.size fun hp => hh.block e.g ((h.deps e he).1 hp).2.2.1 (fun e2 => by
    have := ((h.deps e he).1 hp).2.1
    omega), (h.deps e he).2⟩
  apart := h.apart

set_option maxRecDepth 100000 in
/-- The words of a batch's head. -/
theorem head_words {W : List ByteArray} {m : Nat} (hm : m ≤ 6) (hb : NoBlank W) (hg : glue W = headB m ++ [32]) : W = [str [98, 97, 116, 99, 104], str (Lib.itoa m)] := by
  refine glue_inj hb ?_ ?_
  · intro x hx
    rcases List.mem_cons.1 hx with rfl | hx
    · simp [str]
    · obtain rfl : x = str (Lib.itoa m) := by simpa using hx
      exact no_blank_num (n := (m : Int)) ⟨by omega, by omega⟩
  · rw [hg]
    simp [glue, headB, str]

set_option maxRecDepth 100000 in
/-- What is said of every batch whose text begins here, behind the head and k writes. -/
def Sofar (t : List UInt8) (n k p : Nat) (xs : List Wr) (r : List UInt8) : Prop := ∀ ws, ValidAt t ws → ws.length = n ∧ ws.take k = xs ∧ p = farB ws k ∧ restB ws k <+: r

set_option maxRecDepth 100000 in
theorem sofar_start {t l r : List UInt8} {n : Nat} {W : List ByteArray} {z : Int} {b : Bool} {x : ByteArray} (ht : t = l ++ 10 :: r) (hl : (10 : UInt8) ∉ l) (hb : NoBlank W) (hg : glue W = l ++ [32]) (hx : W.getD 1 ⟨#[]⟩ = x) (hs : NumSays x z b) (hz : z = (n : Int)) : Sofar t n 0 (l.length + 1) [] r := by
  intro ws hv
  obtain ⟨e, hr⟩ := valid_head hv ht hl
  have hn := okWs_len hv.1
  have hW := head_words hn.2 hb (by rw [hg, e])
  have hx2 : x = str (Lib.itoa (ws.length : Int)) := by rw [← hx, hW]; rfl
  have := (hs.2.2.2 (ws.length : Int) (by omega) (by omega) (by rw [hx2]; rfl)).2
  refine ⟨by omega, rfl, ?_, hr⟩
  unfold farB accB
  rw [e]
  simp

set_option maxRecDepth 100000 in
/-- Where the head isn't one, no batch begins. -/
theorem head_not {t l r : List UInt8} {W : List ByteArray} (ht : t = l ++ 10 :: r) (hl : (10 : UInt8) ∉ l) (hb : NoBlank W) (hg : glue W = l ++ [32]) (hn : ¬ (W.length = 2 ∧ W.getD 0 ⟨#[]⟩ = ⟨#[98, 97, 116, 99, 104]⟩ ∧ ∃ m : Nat, 1 ≤ m ∧ m ≤ 6 ∧ (W.getD 1 ⟨#[]⟩).data.toList = Lib.itoa m)) : ∀ ws, ¬ ValidAt t ws := by
  intro ws hv
  obtain ⟨e, hr⟩ := valid_head hv ht hl
  have hm := okWs_len hv.1
  have hW := head_words hm.2 hb (by rw [hg, e])
  refine hn ⟨by rw [hW]; rfl, by rw [hW]; rfl, ws.length, hm.1, hm.2, by rw [hW]; rfl⟩

set_option maxRecDepth 100000 in
theorem sofar_next {t l r r' : List UInt8} {n k p : Nat} {xs : List Wr} {x : Wr} (h : Sofar t n k p xs r) (hk : k < n) (ht : r = l ++ 10 :: r') (hl : (10 : UInt8) ∉ l) (hx : IsText l x) : Sofar t n (k + 1) (p + l.length + 1) (xs ++ [x]) r' := by
  intro ws hv
  obtain ⟨h1, h2, h3, h4⟩ := h ws hv
  have hkl : k < ws.length := by omega
  obtain ⟨q1, q2⟩ := valid_next hv.1 hkl h4 ht hl
  have ex : ws.getD k wz = x := text_is_one q1 hx
  refine ⟨h1, ?_, ?_, q2⟩
  · rw [List.take_add_one, h2, List.getElem?_eq_getElem hkl, ← ex]
    simp [List.getD, hkl]
  · rw [farB_next hkl, h3, q1.2]

set_option maxRecDepth 100000 in
theorem sofar_none {t r : List UInt8} {n k p : Nat} {xs : List Wr} (h : Sofar t n k p xs r) (hk : k ≤ n) (hr : (10 : UInt8) ∉ r) : ∀ ws, ¬ ValidAt t ws := by
  intro ws hv
  obtain ⟨h1, h2, h3, h4⟩ := h ws hv
  by_cases hkn : k < ws.length
  · rw [restB_next hkn] at h4
    exact hr (has_line h4)
  · obtain rfl : k = ws.length := by omega
    rw [restB_end] at h4
    exact hr (has_line h4)

set_option maxRecDepth 100000 in
theorem sofar_bad {t l r r' : List UInt8} {n k p : Nat} {xs : List Wr} (h : Sofar t n k p xs r) (hk : k < n) (ht : r = l ++ 10 :: r') (hl : (10 : UInt8) ∉ l) (hx : ∀ x, ¬ IsText l x) : ∀ ws, ¬ ValidAt t ws := by
  intro ws hv
  obtain ⟨h1, h2, h3, h4⟩ := h ws hv
  exact hx _ (valid_next hv.1 (by omega) h4 ht hl).1

set_option maxRecDepth 100000 in
/-- At the last line: the text up to it is the batch's, or no batch begins. -/
theorem sofar_end {t l r r' : List UInt8} {n p : Nat} {xs : List Wr} (h : Sofar t n n p xs r) (ht : r = l ++ 10 :: r') (hl : (10 : UInt8) ∉ l) (hne : t.take (p + l.length + 1) ≠ batchT xs) : ∀ ws, ¬ ValidAt t ws := by
  intro ws hv
  obtain ⟨h1, h2, h3, h4⟩ := h ws hv
  subst h1
  rw [List.take_length] at h2
  subst h2
  have e := valid_last h4 ht hl
  refine hne ?_
  have hl2 := batchT_len hv.1
  rw [e, h3, ← hl2]
  exact prefix_extract hv.2

set_option maxRecDepth 100000 in
theorem valid_of_eq {t : List UInt8} {ws : List Wr} {k : Nat} (h : t.take (k + 1) = batchT ws) (ht : t ≠ []) : ValidAt t ws := by
  have hok : okWs ws = true := by
    cases hk : okWs ws
    · unfold batchT at h
      rw [hk] at h
      cases t with
      | nil => exact absurd rfl ht
      | cons x r => simp at h
    · rfl
  exact ⟨hok, by rw [← h]; exact List.take_prefix _ _⟩

set_option maxRecDepth 100000 in
theorem drop_line {bs l r : List UInt8} {i : Nat} (h : bs.drop i = l ++ 10 :: r) : bs.drop (i + (l.length + 1)) = r := by
  rw [← List.drop_drop, h]
  simp

set_option maxRecDepth 100000 in
theorem fresh_row {w : World} {base : Nat} {a : Option Addr} {n cap : Nat} {ds : List Dp} (h : RowD w base (.slice a n cap) ds) : ∃ g, FreshDeps base w a g ds := by
  by_cases hp : 0 < ds.length
  · obtain ⟨a', cap', e, ho⟩ := h.form
    obtain rfl : a = a' := by
      simp only [Value.slice.injEq] at e
      exact e.1
    rcases ho with ho | ⟨g, h1, h2, -, h4, h5, h6⟩
    · rw [ho] at hp
      simp at hp
    · exact ⟨g, fun _ => ⟨h1, h2, h4, h5, h6⟩⟩
  · exact ⟨0, fun h => absurd h hp⟩

set_option maxRecDepth 100000 in
theorem rowG_few {es : List EnG} (h : ∀ d ∈ es, okR d.x = true) : Few (es.map (·.x)) := fun i hi => by
  have hi' : i < es.length := by simpa using hi
  have e : (es.map (·.x)).getD i wz = (es[i]'hi').x := by simp [List.getD, hi']
  rw [e]
  have := depR_len (ok_parts (h _ (List.getElem_mem hi'))).2.2.2.1
  omega

set_option maxRecDepth 100000 in
theorem RowG.ws0 {w : World} {base : Nat} {a : Option Addr} {n cap : Nat} {es : List EnG} (h : RowG w base (.slice a n cap) es) : IsWs0 w a (es.map (·.x)) := by
  obtain ⟨a', cap', e, ho⟩ := h.form
  obtain rfl : a = a' := by
    simp only [Value.slice.injEq] at e
    exact e.1
  rcases ho with ho | ⟨b, rfl, ho⟩
  · exact .inl (by rw [ho]; rfl)
  · obtain ⟨h1, h2, h3, h4, h5, h6⟩ := ho
    refine .inr ⟨b, 0, rfl, h1, fun i hi => ?_⟩
    obtain ⟨ad, cp, q1, q2⟩ := h4 i hi
    refine ⟨ad, cp, by rw [Nat.zero_add]; exact q1, ?_⟩
    by_cases hp : 0 < ((es.map (·.x)).getD i wz).xs.length
    · obtain ⟨r1, r2, r3, r4, r5⟩ := h5 i hi hp
      exact .inr ⟨_, q2 hp, r2, r4⟩
    · exact .inl (List.length_eq_zero_iff.1 (by omega))

set_option maxRecDepth 100000 in
theorem extract_take (s : ByteArray) (i n : Nat) : (s.extract i (i + n)).data.toList = (s.data.toList.drop i).take n := by
  rw [piece, List.drop_take, Nat.add_sub_cancel_left]

end Go.Proofs.YtidpcjcnhklmpalGreatDoor

/- The contract of the reader's batch. -/
namespace Go.Proofs.YtidpcjcnhklmpalGreatDoor
open Go.ChangeShapes Go.WideShapes Go.ChangeAt Go.RowKit Go.Joins
attribute [local go_sem ↓] Go.wp_at_zero Go.wp_at_succ

/-- What is read so far: the head and these writes; q bytes. -/
def Eaten (t : List UInt8) (m q : Nat) (xs : List Wr) (r : List UInt8) : Prop := t = headB m ++ 10 :: xs.flatMap lineW ++ r ∧ q = (headB m ++ 10 :: xs.flatMap lineW).length

set_option maxRecDepth 100000 in
theorem eaten_head {t r : List UInt8} {m : Nat} (h : t = headB m ++ 10 :: r) : Eaten t m ((headB m).length + 1) [] r := ⟨by rw [h]; simp, by simp⟩

set_option maxRecDepth 100000 in
theorem eaten_next {t r l r' : List UInt8} {m q : Nat} {xs : List Wr} {x : Wr} (h : Eaten t m q xs r) (hr : r = l ++ 10 :: r') (hx : IsText l x) : Eaten t m (q + l.length + 1) (xs ++ [x]) r' := by
  have e : lineW x = l ++ [10] := by
    unfold lineW
    rw [hx.2]
  refine ⟨?_, ?_⟩
  · rw [h.1, hr, List.flatMap_append]
    simp [e]
  · rw [h.2, List.flatMap_append]
    simp [e]
    omega

set_option maxRecDepth 100000 in
theorem sofar_head {t r : List UInt8} {m : Nat} (hm : m ≤ 6) (h : t = headB m ++ 10 :: r) : Sofar t m 0 ((headB m).length + 1) [] r := by
  intro ws hv
  obtain ⟨e, hr⟩ := valid_head hv h (no_line_head hm)
  have hn := okWs_len hv.1
  unfold headB at e
  have e1 := itoa_inj (rng_small hm) (rng_small hn.2) (List.append_cancel_left e)
  have e2 : ws.length = m := by omega
  refine ⟨e2, rfl, ?_, hr⟩
  unfold farB accB
  rw [e2]
  simp

set_option maxRecDepth 100000 in
theorem eaten_body {t r : List UInt8} {m q : Nat} {xs : List Wr} (h : Eaten t m q xs r) (hl : xs.length = m) : t = bodyB xs ++ r ∧ t.take q = bodyB xs ∧ q = (bodyB xs).length := by
  have e : headB m ++ 10 :: xs.flatMap lineW = bodyB xs := by
    unfold bodyB
    rw [hl]
  rw [e.symm]
  refine ⟨h.1, ?_, h.2⟩
  rw [h.1, h.2]
  exact List.take_left

set_option maxRecDepth 100000 in
theorem sumB_is (xs : List Wr) : sumB xs = sumL (bodyB xs) := rfl

set_option maxRecDepth 100000 in
/-- Head, writes and sum read: the batch is whole. -/
theorem eaten_valid {t r r' : List UInt8} {m q : Nat} {xs : List Wr} (h : Eaten t m q xs r) (hl : xs.length = m) (hm : 1 ≤ m ∧ m ≤ 6) (ho : ∀ x ∈ xs, okR x = true) (hr : r = sumL (bodyB xs) ++ 10 :: r') : ValidAt t xs ∧ (batchT xs).length = q + (sumL (bodyB xs)).length + 1 := by
  have hok : okWs xs = true := by
    unfold okWs
    simp only [Bool.and_eq_true, decide_eq_true_eq, List.all_eq_true]
    exact ⟨by omega, ho⟩
  obtain ⟨e1, -, e3⟩ := eaten_body h hl
  have e2 : batchT xs = bodyB xs ++ (sumL (bodyB xs) ++ [10]) := by
    unfold batchT
    rw [if_pos hok]
    rfl
  refine ⟨⟨hok, ?_⟩, ?_⟩
  · rw [e2, e1, hr]
    exact ⟨r', by simp⟩
  · rw [e2, e3]
    simp
    omega

set_option maxRecDepth 100000 in
/-- At the sum's line: another one ends it. -/
theorem sofar_sum {t l r r' : List UInt8} {m q : Nat} {xs : List Wr} (h : Sofar t m m q xs r) (hr : r = l ++ 10 :: r') (hl : (10 : UInt8) ∉ l) (hne : l ≠ sumL (bodyB xs)) : ∀ ws, ¬ ValidAt t ws := by
  intro ws hv
  obtain ⟨h1, h2, h3, h4⟩ := h ws hv
  subst h1
  rw [List.take_length] at h2
  subst h2
  exact hne (valid_last h4 hr hl)

/-- What the reader answers to 'the next batch'. -/
def BatAns (s : ByteArray) (i B : Nat) (w w' : World) (e : Ending) : Prop :=
  Hole B w w' ∧ ((∃ a cap es, e = .returned (.tuple #[.slice a (List.length es) cap, .nilIface]) ∧ ValidAt (s.data.toList.drop i) (es.map (·.x)) ∧ RowG w' w.heap.size (.slice a es.length cap) es ∧ Rdr w' B s (i + (batchT (es.map (·.x))).length)) ∨
    ((∀ ws, ¬ ValidAt (s.data.toList.drop i) ws) ∧ ∃ t v, e = .returned (.tuple #[.slice none 0 0, .iface t v])))

set_option maxRecDepth 100000 in
set_option maxHeartbeats 8000000 in
theorem rdBatch_any (w0 : World) (s : ByteArray) (i B : Nat) (w : World) (hs : s.size ≤ 1048576) (hi : i ≤ s.size) (hE : EV w0) (hV : RV w0) (hT : Tab w0) (hb : Below w0.heap.size w0 w) (hB : w0.heap.size ≤ B) (hr : Rdr w B s i) :
    Calls Tryz.prog 21 #[.pointer (some ⟨B, 0, none⟩)] w fun e w' => BatAns s i B w w' e := by
  obtain ⟨i0, hi0, hx0⟩ := Option.map_eq_some_iff.1 infoWr
  simp only [Prod.mk.injEq] at hx0
  have HI0 := Lib.hid hi0
  have HX0 := Lib.hid hx0
  clear hi0 hx0
  have HE := Lib.hid hE
  have HV := Lib.hid hV
  have HT := Lib.hid hT
  have HB0 := Lib.hid hb
  have HR0 := Lib.hid hr
  have hBw : B < w.heap.size := hr.lt
  have c1 := hr.c1
  have hsz0 : w0.heap.size ≤ w.heap.size := hb.size
  clear hE hV hT hb hr
  go_enter Tryz.func21, Tryz.ntmps21
  go_wp2_with fail
  refine (rdHead_any w0 s i B _ hs hi HE.out HT.out HB0.out hB HR0.out).mono ?_
  rintro e w1 ⟨hh, ⟨m, r, hm1, hm6, hlr, rfl, hr1⟩ | ⟨hno, t, v, rfl⟩⟩
  rotate_left
  · have HH := Lib.hid hh
    have HNO := Lib.hid hno
    clear hh hno
    go_wp2
    refine bodyPost_ret (v := .tuple #[.slice none 0 0, .iface t v]) (by simp [results, Tryz.results21, go_sem]) rfl ?_
    exact ⟨HH.out, .inr ⟨HNO.out, _, _, rfl⟩⟩
  have hfit := line_fits hlr
  have hq0 : i + ((headB m).length + 1) ≤ s.size := by omega
  have hdr : s.data.toList.drop (i + ((headB m).length + 1)) = r := drop_line hlr
  have HS0 : Hid (Sofar (s.data.toList.drop i) m 0 ((headB m).length + 1) [] (s.data.toList.drop (i + ((headB m).length + 1)))) := by rw [hdr]; exact Lib.hid (sofar_head hm6 hlr)
  have HT0 : Hid (Eaten (s.data.toList.drop i) m ((headB m).length + 1) [] (s.data.toList.drop (i + ((headB m).length + 1)))) := by rw [hdr]; exact Lib.hid (eaten_head hlr)
  have HR1 : Hid (Rdr w1 B s (i + ((headB m).length + 1))) := hr1
  have HH1 := Lib.hid hh
  clear hh hr1 hlr hdr HR0 c1
  clear hfit
  generalize (headB m).length + 1 = q0 at *
  go_wp2
  go_loopw [7, 24] (fun o kk wr => ∃ (k q : Nat) (a : Option Addr) (cap : Nat) (es : List EnG), k ≤ m ∧ kk = .int .i64 k ∧ o = .slice a k cap ∧ i + q ≤ s.size ∧ es.length = k ∧ w.heap.size ≤ wr.heap.size ∧ Hid (∀ d ∈ es, okR d.x = true) ∧ Hid (Sofar (s.data.toList.drop i) m k q (es.map (·.x)) (s.data.toList.drop (i + q))) ∧ Hid (Eaten (s.data.toList.drop i) m q (es.map (·.x)) (s.data.toList.drop (i + q))) ∧ Hid (RowG wr w.heap.size (.slice a k cap) es) ∧ Hid (Rdr wr B s (i + q)) ∧ Hid (Hole B w wr)) (fun _ kk _ => m - (intOf kk).toNat)
  case atStart => exact ⟨0, q0, none, 0, [], Nat.zero_le _, rfl, rfl, hq0, rfl, HH1.out.size, fun d hd => by simp at hd, HS0, HT0, rowG_nil _ _, HR1, HH1⟩
  case round =>
    clear HS0 HT0 HR1 HH1 hq0
    obtain ⟨k, q, a, cap, es, hk, rfl, rfl, hq, hel, hwr, HOK, HS, HET, HR, HD, HH⟩ := hrel
    by_cases hk' : k < m
    · have i1 : (0 : Int) ≤ (k : Int) := by omega
      have i2 : (k : Int) < (m : Int) := by omega
      have HBR : Hid (Below w0.heap.size w0 wr) := Hole.below HB0.out HH.out hB hsz0
      go_wp2_with fail
      refine (rdWrite_any w0 s (i + q) B _ hs hq HE.out HV.out HT.out HBR.out hB HD.out).mono ?_
      rintro e w2 ⟨hh, ⟨l, r', x, ya, ycp, hd, hnl, htx, rfl, hrd, hdr⟩ | ⟨hbad, t, v, rfl⟩⟩
      rotate_left
      · have HNO : Hid (∀ ws, ¬ ValidAt (s.data.toList.drop i) ws) := by
          rcases hbad with hno | ⟨l, r', hd, hnl, hnt⟩
          · exact Lib.hid (sofar_none HS.out hk hno)
          · exact Lib.hid (sofar_bad HS.out hk' hd hnl hnt)
        have HH2 := Lib.hid ((HH.out.trans hh).trans (Hole.of_below ((Below.refl w2.heap.size w2).alloc (Nat.le_refl _) (.cells #[.int .i64 0, .int .i64 0, .int .i64 0, .int .i64 0, .int .i64 0, .bool false, .slice none 0 0] 54))))
        clear hh hbad HS HET
        go_wp2
        refine bodyPost_ret (v := .tuple #[.slice none 0 0, .iface t v]) (by simp [results, Tryz.results21, go_sem]) rfl ?_
        exact ⟨HH2.out, .inr ⟨HNO.out, _, _, rfl⟩⟩
      have hfit := line_fits hd
      have hdl : s.data.toList.drop (i + (q + l.length + 1)) = r' := by
        have e2 := drop_line hd
        rw [show i + q + (l.length + 1) = i + (q + l.length + 1) by omega] at e2
        exact e2
      have HS2 : Hid (Sofar (s.data.toList.drop i) m (k + 1) (q + l.length + 1) (es.map (·.x) ++ [x]) (s.data.toList.drop (i + (q + l.length + 1)))) := by rw [hdl]; exact Lib.hid (sofar_next HS.out hk' hd hnl htx)
      have HET2 : Hid (Eaten (s.data.toList.drop i) m (q + l.length + 1) (es.map (·.x) ++ [x]) (s.data.toList.drop (i + (q + l.length + 1)))) := by rw [hdl]; exact Lib.hid (eaten_next HET.out hd htx)
      have HD2 : Hid (Rdr w2 B s (i + (q + l.length + 1))) := by rw [show i + (q + l.length + 1) = i + q + l.length + 1 by omega]; exact Lib.hid hdr
      obtain ⟨g2, hg⟩ := fresh_row hrd
      have HOX := Lib.hid htx.1
      have HG : Hid (FreshDeps wr.heap.size w2 ya g2 x.xs) := hg
      have HH2 := Lib.hid (HH.out.trans hh)
      have HR2 := Lib.hid (HR.out.holeQ hh hBw)
      have hs2 : wr.heap.size ≤ w2.heap.size := hh.size
      clear hrd hg htx HS HET hd hnl hdr hdl HD
      obtain ⟨yk, yc, ys, yq, yv, yd, yx⟩ := x
      simp only at HG
      have HAP : Hid (∀ d ∈ es, 0 < d.x.xs.length → 0 < yx.length → d.g ≠ g2) := fun d hd hp hq => by
        have h1 := ((HR.out.deps d hd).1 hp).2.2.1
        have h2 := (HG.out hq).2.1
        omega
      have HVV : Hid (0 < yx.length → (Value.slice a k cap).ownBlock ≠ some g2) := fun hq e => by
        have h1 := (HR.out.own.lt g2 e).2
        have h2 := (HG.out hq).2.1
        omega
      clear HR hh HH
      have HBA : Hid (Below w2.heap.size w2 (w2.alloc (.cells #[.int .i64 yk, .int .i64 yc, .int .i64 ys, .int .i64 yq, .int .i64 yv, .bool yd, .slice ya yx.length ycp] 54))) := (Below.refl _ _).alloc (Nat.le_refl _) _
      have HR3 := Lib.hid (HR2.out.below HBA.out)
      have HG3 := Lib.hid (HG.out.below HBA.out)
      have HD3 := Lib.hid (HD2.out.below HBA.out)
      have hs3 : w2.heap.size + 1 = (w2.alloc (.cells #[.int .i64 yk, .int .i64 yc, .int .i64 ys, .int .i64 yq, .int .i64 yv, .bool yd, .slice ya yx.length ycp] 54)).heap.size := by simp
      have HOC := Lib.hid (oneG_cells (w2.alloc (.cells #[.int .i64 yk, .int .i64 yc, .int .i64 ys, .int .i64 yq, .int .i64 yv, .bool yd, .slice ya yx.length ycp] 54)) 54 ⟨⟨yk, yc, ys, yq, yv, yd, yx⟩, ya, g2, ycp⟩)
      have HBC : Hid (Below (w2.heap.size + 1) (w2.alloc (.cells #[.int .i64 yk, .int .i64 yc, .int .i64 ys, .int .i64 yq, .int .i64 yv, .bool yd, .slice ya yx.length ycp] 54)) ((w2.alloc (.cells #[.int .i64 yk, .int .i64 yc, .int .i64 ys, .int .i64 yq, .int .i64 yv, .bool yd, .slice ya yx.length ycp] 54)).alloc (.cells #[.int .i64 yk, .int .i64 yc, .int .i64 ys, .int .i64 yq, .int .i64 yv, .bool yd, .slice ya yx.length ycp] 54))) := (Below.refl _ _).alloc (by simp) _
      have HRC := Lib.hid (HR3.out.below (hs3 ▸ HBC.out))
      have HGC := Lib.hid (HG3.out.below (hs3 ▸ HBC.out))
      have HDC := Lib.hid (HD3.out.below (hs3 ▸ HBC.out))
      have HHC : Hid (Hole B w ((w2.alloc (.cells #[.int .i64 yk, .int .i64 yc, .int .i64 ys, .int .i64 yq, .int .i64 yv, .bool yd, .slice ya yx.length ycp] 54)).alloc (.cells #[.int .i64 yk, .int .i64 yc, .int .i64 ys, .int .i64 yq, .int .i64 yv, .bool yd, .slice ya yx.length ycp] 54))) := (HH2.out.trans (Hole.of_below HBA.out)).trans (Hole.of_below (hs3 ▸ HBC.out))
      have hsz : w.heap.size ≤ w2.heap.size := by omega
      have HOW : Hid (((w2.alloc (.cells #[.int .i64 yk, .int .i64 yc, .int .i64 ys, .int .i64 yq, .int .i64 yv, .bool yd, .slice ya yx.length ycp] 54)).alloc (.cells #[.int .i64 yk, .int .i64 yc, .int .i64 ys, .int .i64 yq, .int .i64 yv, .bool yd, .slice ya yx.length ycp] 54)).ownsRow w.heap.size 54 7 (.slice a k cap) k (es.flatMap wrValsG)) := by
        have h := HRC.out.own
        rw [hel] at h
        exact Lib.hid h
      clear hs3 HBC HR3 HG3 HD3 HBA
      go_wp2_with (at_builtin; refine wpList_append_lies _ (by rfl) _ _ _ (by rfl) w.heap.size 54 i0 (wrV 0 0 0 0 0 false none 0 0) 7 72 Tryz.underlying28 HI0.out HX0.out.1 HX0.out.2.1 HX0.out.2.2 (by rfl) (by omega) (.slice a k cap) k (es.flatMap wrValsG) (by rfl) HOW.out ⟨w2.heap.size + 1, 0, none⟩ 1 1 (wrValsG ⟨⟨yk, yc, ys, yq, yv, yd, yx⟩, ya, g2, ycp⟩) (by rfl) (by rfl) (by simpa using HOC.out) (by simpa using valsG_one [⟨⟨yk, yc, ys, yq, yv, yd, yx⟩, ya, g2, ycp⟩]) (by omega) (by unfold maxLen; omega) (by omega) (by simp; omega) _ rfl ?_; intro g3 cp3 w5 hown hgrow hg3 _; refine Hid.out ?_)
      refine Lib.hid ?_
      have hobB : (Value.slice a k cap).ownBlock ≠ some B := fun e => by have := (HRC.out.own.lt _ e).1; omega
      have HH5 : Hid (Hole B w w5) := ⟨hgrow.os.trans HHC.out.os, hgrow.tape.trans HHC.out.tape, hgrow.output.trans HHC.out.output, Nat.le_trans HHC.out.size hgrow.size, fun b hb hne => (hgrow.block b (Nat.lt_of_lt_of_le hb HHC.out.size) (fun e => by have := (HRC.out.own.lt _ e.symm).1; omega)).trans (HHC.out.block b hb hne)⟩
      have hown2 : w5.ownsRow w.heap.size 54 7 (.slice (some ⟨g3, 0, none⟩) (es.length + 1) cp3) (es.length + 1) (es.flatMap wrValsG ++ wrValsG ⟨⟨yk, yc, ys, yq, yv, yd, yx⟩, ya, g2, ycp⟩) := by rw [hel]; exact hown
      have HR5 : Hid (RowG w5 w.heap.size (.slice (some ⟨g3, 0, none⟩) (k + 1) cp3) (es ++ [⟨⟨yk, yc, ys, yq, yv, yd, yx⟩, ya, g2, ycp⟩])) := by
        have h := HRC.out.more (HGC.out.mono hwr) HVV.out HAP.out hown2 hgrow hg3
        rw [hel] at h
        exact Lib.hid h
      have HD5 : Hid (Rdr w5 B s (i + (q + l.length + 1))) := HDC.out.of_block hgrow.size (hgrow.block _ HDC.out.lt (fun e => hobB e.symm))
      have hs5 : w.heap.size ≤ w5.heap.size := HH5.out.size
      have HS6 : Hid (Sofar (s.data.toList.drop i) m (k + 1) (q + l.length + 1) ((es ++ [(⟨⟨yk, yc, ys, yq, yv, yd, yx⟩, ya, g2, ycp⟩ : EnG)]).map (·.x)) (s.data.toList.drop (i + (q + l.length + 1)))) := by
        rw [List.map_append]
        exact HS2
      have HET6 : Hid (Eaten (s.data.toList.drop i) m (q + l.length + 1) ((es ++ [(⟨⟨yk, yc, ys, yq, yv, yd, yx⟩, ya, g2, ycp⟩ : EnG)]).map (·.x)) (s.data.toList.drop (i + (q + l.length + 1)))) := by
        rw [List.map_append]
        exact HET2
      have HOK6 : Hid (∀ d ∈ es ++ [(⟨⟨yk, yc, ys, yq, yv, yd, yx⟩, ya, g2, ycp⟩ : EnG)], okR d.x = true) := fun d hd => by
        rcases List.mem_append.1 hd with hd | hd
        · exact HOK.out d hd
        · obtain rfl : d = _ := by simpa using hd
          exact HOX.out
      clear hown hown2 hgrow HRC HS2 HET2 HOW HOC HHC HDC
      go_wp2
      exact ⟨⟨k + 1, q + l.length + 1, _, _, _, by omega, by go_num, rfl, by omega, by simp [hel], hs5, HOK6, HS6, HET6, HR5, HD5, HH5⟩, by simp [intOf]; omega⟩
    · have hkk : k = m := by omega
      subst hkk
      have hxl : (es.map (·.x)).length = k := by simp [hel]
      obtain ⟨b1, b2, b3⟩ := eaten_body HET.out hxl
      have HEX : Hid ((s.extract i (i + q)).data.toList = bodyB (es.map (·.x))) := by
        rw [extract_take]
        exact Lib.hid b2
      have hbz : (s.extract i (i + q)).size ≤ 1048576 := by
        have h := congrArg List.length HEX.out
        rw [← b3] at h
        have h2 : (s.extract i (i + q)).data.toList.length = (s.extract i (i + q)).size := Array.length_toList
        omega
      have HYES : Hid (∀ r', s.data.toList.drop (i + q) = sumL (bodyB (es.map (·.x))) ++ 10 :: r' → ValidAt (s.data.toList.drop i) (es.map (·.x)) ∧ (batchT (es.map (·.x))).length = q + (sumL (bodyB (es.map (·.x)))).length + 1) := fun r' hr' => eaten_valid HET.out hxl ⟨hm1, hm6⟩ (fun x hx => by
        obtain ⟨d, hd, rfl⟩ := List.mem_map.1 hx
        exact HOK.out d hd) hr'
      have HNO1 : Hid ((10 : UInt8) ∉ s.data.toList.drop (i + q) → ∀ ws, ¬ ValidAt (s.data.toList.drop i) ws) := fun h => sofar_none HS.out hk h
      have HNO2 : Hid (∀ l r', s.data.toList.drop (i + q) = l ++ 10 :: r' → (10 : UInt8) ∉ l → l ≠ sumL (bodyB (es.map (·.x))) → ∀ ws, ¬ ValidAt (s.data.toList.drop i) ws) := fun l r' h1 h2 h3 => sofar_sum HS.out h1 h2 h3
      have HBR : Hid (Below w0.heap.size w0 wr.drew) := (Hole.below HB0.out HH.out hB hsz0).drew
      have x0 : (0 : Int) ≤ (i : Int) := by omega
      have x1 : (i : Int) ≤ ((i + q : Nat) : Int) := by omega
      have x2 : ((i + q : Nat) : Int) ≤ (s.size : Int) := by omega
      have c0 := HD.out.c0
      have c1 := HD.out.c1
      have HD2 : Hid (Rdr wr.drew B s (i + q)) := HD.out.below (Below.refl _ _).drew
      have HR2 : Hid (RowG wr.drew w.heap.size (.slice a k cap) es) := HR.out.below (Below.refl _ _).drew
      have HH2 : Hid (Hole B w wr.drew) := HH.out.drew
      clear b1 b2 b3 HS HET HR HH
      generalize hX : i + q = X at *
      go_wp2_with fail
      refine wp_region_slots 11 [[(0, false)], [(0, false)], [(40, true)], [(41, true)], [(42, true)], [(4, false)], [(0, false)], [(45, true)], [(46, true)], [(47, true)], [(43, true), (44, true), (48, true)]] (fun w' => w' = wr.drew) (fun w w' => w' = w) (by kernel_rfl) (by kernel_rfl) (by rfl) rfl (fun w w' h1 h2 => h2.trans h1) ?_
      iterate 11 (apply slot_eq; · (rintro ρ w' ⟨p1, p2, p3⟩ rfl hn; simp at hn; go_simp; exact ⟨rfl, rfl⟩))
      refine slot_end ?_
      rintro tv w4 rfl hF
      simp at hF
      obtain ⟨f49, f48, f47, f46, f45, f44, f43, f42, f41, f40, f39⟩ := hF
      simp only [List.take_succ_cons, List.take_zero, List.drop_succ_cons, List.drop_zero, putAll, f49, f48, f47, f46, f45, f44, f43, f42, f41, f40, f39]
      clear f49 f48 f47 f46 f45 f44 f43 f42 f41 f40 f39
      simp only [Act.put, List.setIfInBounds_toArray, List.set_cons_succ, List.set_cons_zero]
      go_wp2_with fail
      refine (rdSum_any w0 s (s.extract i X) X B _ hs hbz (by omega) HE.out HT.out HBR.out hB HD2.out).mono ?_
      rintro e w5 ⟨hh, ⟨r', hlr, rfl, hr5⟩ | ⟨hbad, t, v, rfl⟩⟩
      · rw [HEX.out] at hlr hr5
        obtain ⟨hv, hl⟩ := HYES.out r' hlr
        have HVA := Lib.hid hv
        have HR5 : Hid (Rdr w5 B s (i + (batchT (es.map (·.x))).length)) := by
          rw [hl, show i + (q + (sumL (bodyB (es.map (·.x)))).length + 1) = X + (sumL (bodyB (es.map (·.x)))).length + 1 by omega]
          exact Lib.hid hr5
        have HRW := Lib.hid (HR2.out.holeQ hh hBw)
        have HH5 := Lib.hid (HH2.out.trans hh)
        clear hh hlr hr5 hv hl HYES HNO1 HNO2
        go_wp2
        refine bodyPost_ret (v := .tuple #[.slice a k cap, .nilIface]) (by simp [results, Tryz.results21, go_sem]) rfl ?_
        refine ⟨HH5.out, .inl ⟨a, cap, es, by rw [hel], HVA.out, by rw [hel]; exact HRW.out, HR5.out⟩⟩
      · rw [HEX.out] at hbad
        have HNO : Hid (∀ ws, ¬ ValidAt (s.data.toList.drop i) ws) := by
          rcases hbad with hno | ⟨l, r', h1, h2, h3⟩
          · exact Lib.hid (HNO1.out hno)
          · exact Lib.hid (HNO2.out l r' h1 h2 h3)
        have HH5 := Lib.hid (HH2.out.trans hh)
        clear hh hbad HYES HNO1 HNO2
        go_wp2
        refine bodyPost_ret (v := .tuple #[.slice none 0 0, .iface t v]) (by simp [results, Tryz.results21, go_sem]) rfl ?_
        exact ⟨HH5.out, .inr ⟨HNO.out, _, _, rfl⟩⟩

end Go.Proofs.YtidpcjcnhklmpalGreatDoor
