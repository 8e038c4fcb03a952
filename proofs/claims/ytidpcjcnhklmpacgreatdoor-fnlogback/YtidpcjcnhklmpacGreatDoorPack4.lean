import Derived.Test.YtidpcjcnhklmpacGreatDoorPack2
import Derived.Test.YtidpcjcnhklmpacGreatDoorPack3
import Derived.Lib.Hide
import Derived.Test.YtidpcjcnhklmpacGreatDoorPack1
import Derived.Laws.BitsAllLaws
/- Lists of writes in memory; the contracts of szWriteS, toWriteS, eqWriteS. -/
namespace Go.Proofs.YtidpcjcnhklmpacGreatDoor
open Go.ChangeShapes Go.WideShapes Go.ChangeAt Go.RowKit Go.Joins
attribute [local go_sem ↓] Go.wp_at_zero Go.wp_at_succ

structure Wr where
  k : Int
  c : Int
  s : Int
  q : Int
  v : Int
  de : Bool
  xs : List Dp

def wz : Wr := ⟨0, 0, 0, 0, 0, false, []⟩

/-- A write's cells from place o of block b on, its dependencies at a. -/
def WrAt (w : World) (b o : Nat) (x : Wr) (a : Option Addr) (cap : Nat) : Prop :=
  w.cell? ⟨b, o, none⟩ = some (.int .i64 x.k) ∧ w.cell? ⟨b, o + 1, none⟩ = some (.int .i64 x.c) ∧ w.cell? ⟨b, o + 2, none⟩ = some (.int .i64 x.s) ∧ w.cell? ⟨b, o + 3, none⟩ = some (.int .i64 x.q) ∧
  w.cell? ⟨b, o + 4, none⟩ = some (.int .i64 x.v) ∧ w.cell? ⟨b, o + 5, none⟩ = some (.bool x.de) ∧ w.cell? ⟨b, o + 6, none⟩ = some (.slice a x.xs.length cap)

theorem WrAt.of_block {w w' : World} {b o : Nat} {x : Wr} {a : Option Addr} {cap : Nat} (h : WrAt w b o x a cap) (hb : w'.heap[b]? = w.heap[b]?) : WrAt w' b o x a cap := by
  obtain ⟨h0, h1, h2, h3, h4, h5, h6⟩ := h
  have e : ∀ i, w'.cell? ⟨b, i, none⟩ = w.cell? ⟨b, i, none⟩ := fun i => World.cell?_of_block (a := ⟨b, i, none⟩) hb
  exact ⟨(e _).trans h0, (e _).trans h1, (e _).trans h2, (e _).trans h3, (e _).trans h4, (e _).trans h5, (e _).trans h6⟩

/-- What a slice of writes leads to, wherever its writes' dependencies lie. -/
def IsWs (w : World) (a : Option Addr) (ws : List Wr) : Prop :=
  ws = [] ∨ ∃ b o, a = some ⟨b, o, none⟩ ∧ b < w.heap.size ∧ ∀ i, i < ws.length → ∃ a' cap, WrAt w b (o + i * 7) (ws.getD i wz) a' cap ∧ (ws.getD i wz).xs.length ≤ maxLen ∧ IsDeps w a' (ws.getD i wz).xs

theorem IsWs.below {w w' : World} {a : Option Addr} {ws : List Wr} (h : IsWs w a ws) (hb : Below w.heap.size w w') : IsWs w' a ws := by
  rcases h with h | ⟨b, o, ha, hlt, hh⟩
  · exact .inl h
  · refine .inr ⟨b, o, ha, Nat.lt_of_lt_of_le hlt hb.size, fun i hi => ?_⟩
    obtain ⟨a', cap, h1, h2, h3⟩ := hh i hi
    exact ⟨a', cap, h1.of_block (hb.block _ hlt), h2, h3.below hb⟩

/-- A row of writes from block b's begin on, write number i's dependencies from block γ i's begin on. -/
def HoldsWs (w : World) (b : Nat) (ws : List Wr) (γ : Nat → Nat) : Prop :=
  b < w.heap.size ∧ ∀ i, i < ws.length → (∃ cap, WrAt w b (i * 7) (ws.getD i wz) (some ⟨γ i, 0, none⟩) cap) ∧ γ i < w.heap.size ∧ HoldsDeps w (γ i) 0 (ws.getD i wz).xs

theorem HoldsWs.below {w w' : World} {b : Nat} {ws : List Wr} {γ : Nat → Nat} (h : HoldsWs w b ws γ) (hb : Below w.heap.size w w') : HoldsWs w' b ws γ := by
  refine ⟨Nat.lt_of_lt_of_le h.1 hb.size, fun i hi => ?_⟩
  obtain ⟨⟨cap, h1⟩, h2, h3⟩ := h.2 i hi
  exact ⟨⟨cap, h1.of_block (hb.block _ h.1)⟩, Nat.lt_of_lt_of_le h2 hb.size, h3.below hb h2⟩

/-- How much a list of writes is: its length, and those of its writes' dependencies. -/
def bulk : List Wr → Nat
  | [] => 0
  | x :: r => x.xs.length + bulk r

theorem bulk_take (ws : List Wr) (k : Nat) (h : k < ws.length) : bulk (ws.take (k + 1)) = bulk (ws.take k) + (ws.getD k wz).xs.length := by
  induction ws generalizing k with
  | nil => simp at h
  | cons x r ih =>
    cases k with
    | zero => simp [bulk]
    | succ k =>
      have := ih k (by simpa using h)
      simp only [List.take_succ_cons, bulk, List.getD_cons_succ] at this ⊢
      omega

theorem bulk_one (ws : List Wr) (k : Nat) (h : k < ws.length) : (ws.getD k wz).xs.length ≤ bulk ws := by
  induction ws generalizing k with
  | nil => simp at h
  | cons x r ih =>
    cases k with
    | zero => simp [bulk]
    | succ k =>
      have := ih k (by simpa using h)
      simp only [bulk, List.getD_cons_succ]
      omega

theorem ws_at {w w' : World} {a : Option Addr} {ws : List Wr} {n : Nat} (h : IsWs w a ws) (hb : Below w.heap.size w w') (hn : ws.length = n) {k : Nat} (hk : k < n) :
    ∃ b o a' cap, a = some ⟨b, o, none⟩ ∧ WrAt w' b (o + k * 7) (ws.getD k wz) a' cap ∧ (ws.getD k wz).xs.length ≤ maxLen ∧ IsDeps w' a' (ws.getD k wz).xs := by
  rcases h.below hb with h | ⟨b, o, ha, _, hh⟩
  · subst h
    simp at hn
    omega
  · obtain ⟨a', cap, h1, h2, h3⟩ := hh k (by omega)
    exact ⟨b, o, a', cap, ha, h1, h2, h3⟩

/-- Cell j of a row of writes. -/
def wrCell (ws : List Wr) (γ : Nat → Nat) (j : Nat) : Value :=
  if j % 7 = 0 then .int .i64 (ws.getD (j / 7) wz).k else if j % 7 = 1 then .int .i64 (ws.getD (j / 7) wz).c else if j % 7 = 2 then .int .i64 (ws.getD (j / 7) wz).s else if j % 7 = 3 then .int .i64 (ws.getD (j / 7) wz).q
  else if j % 7 = 4 then .int .i64 (ws.getD (j / 7) wz).v else if j % 7 = 5 then .bool (ws.getD (j / 7) wz).de else .slice (some ⟨γ (j / 7), 0, none⟩) (ws.getD (j / 7) wz).xs.length (ws.getD (j / 7) wz).xs.length

/-- Cell j of a row of zero writes. -/
def zeroCell (j : Nat) : Value := if j % 7 = 5 then .bool false else if j % 7 = 6 then .slice none 0 0 else .int .i64 0

def wrFill (ws : List Wr) (γ : Nat → Nat) (k j : Nat) : Value := if j < k * 7 then wrCell ws γ j else zeroCell j

def upd (γ : Nat → Nat) (k g : Nat) : Nat → Nat := fun i => if i = k then g else γ i

theorem upd_at (γ : Nat → Nat) (k g : Nat) : upd γ k g k = g := by simp [upd]

theorem upd_off (γ : Nat → Nat) {k i : Nat} (g : Nat) (h : i ≠ k) : upd γ k g i = γ i := by simp [upd, h]

theorem wrCell0 (ws : List Wr) (γ : Nat → Nat) (k : Nat) : wrCell ws γ (k * 7) = .int .i64 (ws.getD k wz).k := by
  unfold wrCell
  rw [if_pos (by omega), show k * 7 / 7 = k by omega]

theorem wrCell1 (ws : List Wr) (γ : Nat → Nat) (k : Nat) : wrCell ws γ (k * 7 + 1) = .int .i64 (ws.getD k wz).c := by
  unfold wrCell
  rw [if_neg (by omega), if_pos (by omega), show (k * 7 + 1) / 7 = k by omega]

theorem wrCell2 (ws : List Wr) (γ : Nat → Nat) (k : Nat) : wrCell ws γ (k * 7 + 2) = .int .i64 (ws.getD k wz).s := by
  unfold wrCell
  rw [if_neg (by omega), if_neg (by omega), if_pos (by omega), show (k * 7 + 2) / 7 = k by omega]

theorem wrCell3 (ws : List Wr) (γ : Nat → Nat) (k : Nat) : wrCell ws γ (k * 7 + 3) = .int .i64 (ws.getD k wz).q := by
  unfold wrCell
  rw [if_neg (by omega), if_neg (by omega), if_neg (by omega), if_pos (by omega), show (k * 7 + 3) / 7 = k by omega]

theorem wrCell4 (ws : List Wr) (γ : Nat → Nat) (k : Nat) : wrCell ws γ (k * 7 + 4) = .int .i64 (ws.getD k wz).v := by
  unfold wrCell
  rw [if_neg (by omega), if_neg (by omega), if_neg (by omega), if_neg (by omega), if_pos (by omega), show (k * 7 + 4) / 7 = k by omega]

theorem wrCell5 (ws : List Wr) (γ : Nat → Nat) (k : Nat) : wrCell ws γ (k * 7 + 5) = .bool (ws.getD k wz).de := by
  unfold wrCell
  rw [if_neg (by omega), if_neg (by omega), if_neg (by omega), if_neg (by omega), if_neg (by omega), if_pos (by omega), show (k * 7 + 5) / 7 = k by omega]

theorem wrCell6 (ws : List Wr) (γ : Nat → Nat) (k : Nat) : wrCell ws γ (k * 7 + 6) = .slice (some ⟨γ k, 0, none⟩) (ws.getD k wz).xs.length (ws.getD k wz).xs.length := by
  unfold wrCell
  rw [if_neg (by omega), if_neg (by omega), if_neg (by omega), if_neg (by omega), if_neg (by omega), if_neg (by omega), show (k * 7 + 6) / 7 = k by omega]

theorem wrCell_off (ws : List Wr) (γ : Nat → Nat) (k g j : Nat) (h : j < k * 7) : wrCell ws (upd γ k g) j = wrCell ws γ j := by
  unfold wrCell
  rw [upd_off γ g (show j / 7 ≠ k by omega)]

theorem wrFill_step (ws : List Wr) (γ : Nat → Nat) (k g j : Nat) :
    (if j = k * 7 + 6 then Value.slice (some ⟨g, 0, none⟩) (ws.getD k wz).xs.length (ws.getD k wz).xs.length else if j = k * 7 + 5 then Value.bool (ws.getD k wz).de else if j = k * 7 + 4 then Value.int .i64 (ws.getD k wz).v else if j = k * 7 + 3 then Value.int .i64 (ws.getD k wz).q else if j = k * 7 + 2 then Value.int .i64 (ws.getD k wz).s else if j = k * 7 + 1 then Value.int .i64 (ws.getD k wz).c else if j = k * 7 then Value.int .i64 (ws.getD k wz).k else wrFill ws γ k j) = wrFill ws (upd γ k g) (k + 1) j := by
  unfold wrFill
  by_cases h6 : j = k * 7 + 6
  · rw [if_pos h6, if_pos (by omega), h6, wrCell6, upd_at]
  rw [if_neg h6]
  by_cases h5 : j = k * 7 + 5
  · rw [if_pos h5, if_pos (by omega), h5, wrCell5]
  rw [if_neg h5]
  by_cases h4 : j = k * 7 + 4
  · rw [if_pos h4, if_pos (by omega), h4, wrCell4]
  rw [if_neg h4]
  by_cases h3 : j = k * 7 + 3
  · rw [if_pos h3, if_pos (by omega), h3, wrCell3]
  rw [if_neg h3]
  by_cases h2 : j = k * 7 + 2
  · rw [if_pos h2, if_pos (by omega), h2, wrCell2]
  rw [if_neg h2]
  by_cases h1 : j = k * 7 + 1
  · rw [if_pos h1, if_pos (by omega), h1, wrCell1]
  rw [if_neg h1]
  by_cases h0 : j = k * 7
  · rw [if_pos h0, if_pos (by omega), h0, wrCell0]
  rw [if_neg h0]
  by_cases hl : j < k * 7
  · rw [if_pos hl, if_pos (by omega), wrCell_off _ _ _ _ _ hl]
  · rw [if_neg hl, if_neg (by omega)]

theorem wrAt_of_row {w : World} {b t : Nat} {ws : List Wr} {γ : Nat → Nat} (h : w.rowIs b t (ws.length * 7) (wrFill ws γ ws.length)) {i : Nat} (hi : i < ws.length) : WrAt w b (i * 7) (ws.getD i wz) (some ⟨γ i, 0, none⟩) (ws.getD i wz).xs.length := by
  refine ⟨?_, ?_, ?_, ?_, ?_, ?_, ?_⟩
  · rw [h.cell (by omega), wrFill, if_pos (by omega), wrCell0]
  · rw [h.cell (by omega), wrFill, if_pos (by omega), wrCell1]
  · rw [h.cell (by omega), wrFill, if_pos (by omega), wrCell2]
  · rw [h.cell (by omega), wrFill, if_pos (by omega), wrCell3]
  · rw [h.cell (by omega), wrFill, if_pos (by omega), wrCell4]
  · rw [h.cell (by omega), wrFill, if_pos (by omega), wrCell5]
  · rw [h.cell (by omega), wrFill, if_pos (by omega), wrCell6]

theorem wrow_start (w : World) (t n : Nat) (ws : List Wr) (γ : Nat → Nat) : (w.alloc (.cells (madeCells #[.int .i64 0, .int .i64 0, .int .i64 0, .int .i64 0, .int .i64 0, .bool false, .slice none 0 0] (n * 7)) t)).rowIs w.heap.size t (n * 7) (wrFill ws γ 0) := by
  refine ⟨_, Go.Deep.blk_alloc_new _ _, size_madeCells _ _, fun i hi => ?_⟩
  have e : wrFill ws γ 0 i = zeroCell i := by unfold wrFill; rw [if_neg (by omega)]
  rw [e]
  have h7 : i % 7 = 0 ∨ i % 7 = 1 ∨ i % 7 = 2 ∨ i % 7 = 3 ∨ i % 7 = 4 ∨ i % 7 = 5 ∨ i % 7 = 6 := by omega
  rcases h7 with h | h | h | h | h | h | h <;> simp [madeCells, zeroCell, hi, h]

abbrev set7 (w : World) (g o : Nat) (x : Wr) (a : Option Addr) (len cap : Nat) : World :=
  ((((((w.setCell ⟨g, o, none⟩ (.int .i64 x.k)).setCell ⟨g, o + 1, none⟩ (.int .i64 x.c)).setCell ⟨g, o + 2, none⟩ (.int .i64 x.s)).setCell ⟨g, o + 3, none⟩ (.int .i64 x.q)).setCell ⟨g, o + 4, none⟩ (.int .i64 x.v)).setCell ⟨g, o + 5, none⟩ (.bool x.de)).setCell ⟨g, o + 6, none⟩ (.slice a len cap)

theorem wrow_step {w : World} {b t n : Nat} {ws : List Wr} {γ : Nat → Nat} {k : Nat} (g : Nat) (h : w.rowIs b t n (wrFill ws γ k)) :
    (set7 w b (k * 7) (ws.getD k wz) (some ⟨g, 0, none⟩) (ws.getD k wz).xs.length (ws.getD k wz).xs.length).rowIs b t n (wrFill ws (upd γ k g) (k + 1)) :=
  (((((((h.set _ _).set _ _).set _ _).set _ _).set _ _).set _ _).set _ _).congr (fun j _ => wrFill_step ws γ k g j)

theorem below_set7 {B : Nat} {a w : World} {g : Nat} (h : Below B a w) (hg : B ≤ g) (o : Nat) (x : Wr) (ad : Option Addr) (len cap : Nat) : Below B a (set7 w g o x ad len cap) :=
  ((((((h.setCell (p := ⟨g, o, none⟩) hg _).setCell (p := ⟨g, o + 1, none⟩) hg _).setCell (p := ⟨g, o + 2, none⟩) hg _).setCell (p := ⟨g, o + 3, none⟩) hg _).setCell (p := ⟨g, o + 4, none⟩) hg _).setCell (p := ⟨g, o + 5, none⟩) hg _).setCell (p := ⟨g, o + 6, none⟩) hg _

theorem HoldsDeps.set7 {w : World} {b o : Nat} {xs : List Dp} (h : HoldsDeps w b o xs) {g : Nat} (hne : g ≠ b) (o' : Nat) (x : Wr) (a : Option Addr) (len cap : Nat) : HoldsDeps (set7 w g o' x a len cap) b o xs :=
  ((((((h.set hne _).set hne _).set hne _).set hne _).set hne _).set hne _).set hne _

theorem infoWr : (Tryz.prog.info? 56).map (fun i => (i.zero, i.size, i.bytes)) = some (some (wrV 0 0 0 0 0 false none 0 0), 7, 72) := by kernel_rfl

theorem run_make_ws (n : Nat) (hn : n ≤ 1048576) (w : World) :
    (Instr.makeSlice 29 (.int .i64 (n : Int)) (.int .i64 (n : Int))).run Tryz.prog w = .ok (.slice (some ⟨w.heap.size, 0, none⟩) n n) (w.alloc (.cells (madeCells #[.int .i64 0, .int .i64 0, .int .i64 0, .int .i64 0, .int .i64 0, .bool false, .slice none 0 0] (n * 7)) 56)) := by
  obtain ⟨i, hi, hzz⟩ := Option.map_eq_some_iff.1 infoWr
  simp only [Prod.mk.injEq] at hzz
  obtain ⟨hz, hs, hb⟩ := hzz
  have hr := run_make (P := Tryz.prog) w 29 56 i _ Tryz.underlying29 hi hz .i64 .i64 n n (by omega) (Int.le_refl _) (by rw [hb]; omega) (by omega)
  simp only [Int.toNat_natCast, hs] at hr
  exact hr

/-- The blocks of the dependencies of the first k writes: each of its own, behind block B, holding what is asked. -/
def Rows7 (w : World) (B : Nat) (ws : List Wr) (γ : Nat → Nat) (k : Nat) : Prop :=
  (∀ i, i < k → B < γ i ∧ γ i < w.heap.size ∧ HoldsDeps w (γ i) 0 (ws.getD i wz).xs ∧ ∀ o, w.frozen? ⟨γ i, o, none⟩ = false) ∧ ∀ i j, i < k → j < k → γ i = γ j → i = j

theorem Rows7.below {w w' : World} {B : Nat} {ws : List Wr} {γ : Nat → Nat} {k : Nat} (h : Rows7 w B ws γ k) (hb : Below w.heap.size w w') : Rows7 w' B ws γ k :=
  ⟨fun i hi => ⟨(h.1 i hi).1, Nat.lt_of_lt_of_le (h.1 i hi).2.1 hb.size, (h.1 i hi).2.2.1.below hb (h.1 i hi).2.1, fun o => (hb.frozen (p := ⟨γ i, o, none⟩) (h.1 i hi).2.1).trans ((h.1 i hi).2.2.2 o)⟩, h.2⟩

theorem Rows7.step {w w' : World} {B : Nat} {ws : List Wr} {γ : Nat → Nat} {k g : Nat} (h : Rows7 w B ws γ k) (hb : Below w.heap.size w w') (hB : B < w.heap.size) (hg : w.heap.size ≤ g) (hg' : g < w'.heap.size) (hh : HoldsDeps w' g 0 (ws.getD k wz).xs) (hz : ∀ o, w'.frozen? ⟨g, o, none⟩ = false) (o : Nat) (x : Wr) (a : Option Addr) (len cap : Nat) :
    Rows7 (set7 w' B o x a len cap) B ws (upd γ k g) (k + 1) := by
  have h' := h.below hb
  refine ⟨fun i hi => ?_, fun i j hi hj he => ?_⟩
  · by_cases hik : i = k
    · subst hik
      rw [upd_at]
      exact ⟨by omega, by simpa using hg', hh.set7 (by omega) _ _ _ _ _, fun o' => by simpa using hz o'⟩
    · rw [upd_off γ g hik]
      obtain ⟨h1, h2, h3, h4⟩ := h'.1 i (by omega)
      exact ⟨h1, by simpa using h2, h3.set7 (by omega) _ _ _ _ _, fun o' => by simpa using h4 o'⟩
  · by_cases hik : i = k
    · by_cases hjk : j = k
      · omega
      · rw [hik, upd_at, upd_off γ g hjk] at he
        have := (h.1 j (by omega)).2.1
        omega
    · by_cases hjk : j = k
      · rw [hjk, upd_at, upd_off γ g hik] at he
        have := (h.1 i (by omega)).2.1
        omega
      · rw [upd_off γ g hik, upd_off γ g hjk] at he
        exact h.2 i j (by omega) (by omega) he

/-- Writes of one's own, from block number base on: each row in a block of its own, none of them shut. -/
structure OwnWs (w : World) (base b : Nat) (ws : List Wr) (γ : Nat → Nat) : Prop where
  holds : HoldsWs w b ws γ
  le : base ≤ b
  open_ : ∀ o, w.frozen? ⟨b, o, none⟩ = false
  deps : ∀ i, i < ws.length → base ≤ γ i ∧ γ i ≠ b ∧ ∀ o, w.frozen? ⟨γ i, o, none⟩ = false
  inj : ∀ i j, i < ws.length → j < ws.length → γ i = γ j → i = j

theorem OwnWs.below {w w' : World} {base b : Nat} {ws : List Wr} {γ : Nat → Nat} (h : OwnWs w base b ws γ) (hb : Below w.heap.size w w') : OwnWs w' base b ws γ where
  holds := h.holds.below hb
  le := h.le
  open_ := fun o => (hb.frozen (p := ⟨b, o, none⟩) h.holds.1).trans (h.open_ o)
  deps := fun i hi => ⟨(h.deps i hi).1, (h.deps i hi).2.1, fun o => (hb.frozen (p := ⟨γ i, o, none⟩) (h.holds.2 i hi).2.1).trans ((h.deps i hi).2.2 o)⟩
  inj := h.inj

end Go.Proofs.YtidpcjcnhklmpacGreatDoor

/- A write's text, read back: plain facts. -/
namespace Go.Proofs.YtidpcjcnhklmpacGreatDoor
open Go.ChangeShapes Go.WideShapes Go.ChangeAt Go.RowKit Go.Joins

def okR (x : Wr) : Bool := writeOkB x.k x.c x.s x.q x.v x.de x.xs

def textR (x : Wr) : List UInt8 := writeText x.k x.c x.s x.q x.v x.de x.xs

/-- The numbers of a write's text. -/
def nsR (x : Wr) : List Int := headNs x.k x.c x.s x.q x.v x.de x.xs.length ++ x.xs.flatMap depNs

/-- The text of a write that is WriteOk. -/
def IsText (bs : List UInt8) (x : Wr) : Prop := okR x = true ∧ textR x = bs

def Rng (n : Int) : Prop := -100000000000 < n ∧ n < 100000000000

theorem glue_words (ns : List Int) : glue (wordsOf ns) = 119 :: numsText ns ++ [32] := by
  have h : ∀ ns : List Int, (ns.map fun n => str (Lib.itoa n)).flatMap (fun x => x.data.toList ++ [32]) = (numsText ns ++ [32]).drop 1 ∨ ns = [] := by
    intro ns
    induction ns with
    | nil => exact .inr rfl
    | cons n r ih =>
      refine .inl ?_
      rcases ih with ih | rfl
      · cases r with
        | nil => simp [numsText, str]
        | cons m r =>
          rw [List.map_cons, List.flatMap_cons, ih]
          simp [numsText, str]
      · simp [numsText, str]
  unfold glue wordsOf
  rw [List.flatMap_cons]
  rcases h ns with h1 | rfl
  · cases ns with
    | nil => simp [numsText, str]
    | cons n r =>
      rw [h1]
      simp [numsText, str]
  · simp [numsText, str]

theorem text_glue {x : Wr} (h : okR x = true) : glue (wordsOf (nsR x)) = textR x ++ [32] := by
  rw [glue_words]
  unfold textR writeText nsR
  have h' : writeOkB x.k x.c x.s x.q x.v x.de x.xs = true := h
  rw [if_pos h', text_nums]

theorem no_blank_num {n : Int} (h : Rng n) : (32 : UInt8) ∉ Lib.itoa n := by
  obtain ⟨f1, _, _, _, f5, f6⟩ := itoa_parts h.1 h.2
  intro hm
  by_cases hn : n < 0
  · rw [f5 hn] at hm
    rcases List.mem_cons.1 hm with hm | hm
    · exact absurd hm (by decide)
    · exact absurd (f1 32 hm).1 (by decide)
  · rw [← f6 (by omega)] at hm
    exact absurd (f1 32 hm).1 (by decide)

theorem no_blank_words {ns : List Int} (h : ∀ n ∈ ns, Rng n) : NoBlank (wordsOf ns) := fun x hx => by
  unfold wordsOf at hx
  rcases List.mem_cons.1 hx with rfl | hx
  · simp [str]
  · obtain ⟨n, hn, rfl⟩ := List.mem_map.1 hx
    show (32 : UInt8) ∉ (Lib.itoa n).toArray.toList
    rw [List.toList_toArray]
    exact no_blank_num (h n hn)

theorem itoa_inj {m n : Int} (hm : Rng m) (hn : Rng n) (h : Lib.itoa m = Lib.itoa n) : m = n := by
  obtain ⟨f1, f2, _, _, f5, f6⟩ := itoa_parts hm.1 hm.2
  obtain ⟨g1, g2, _, _, g5, g6⟩ := itoa_parts hn.1 hn.2
  rw [h] at f1 f2 f5 f6
  have e : m.natAbs = n.natAbs := by rw [← f2, g2]
  by_cases h1 : m < 0
  · by_cases h2 : n < 0
    · omega
    · have := f5 h1
      rw [g6 (by omega)] at this
      have hl := congrArg List.length this
      simp at hl
  · by_cases h2 : n < 0
    · have := g5 h2
      rw [f6 (by omega)] at this
      have hl := congrArg List.length this
      simp at hl
    · omega

theorem str_inj {a b : List UInt8} (h : str a = str b) : a = b := by
  have := congrArg (fun x : ByteArray => x.data.toList) h
  simpa [str] using this

theorem map_itoa_inj : ∀ {ms ns : List Int}, (∀ n ∈ ms, Rng n) → (∀ n ∈ ns, Rng n) → (ms.map fun n => str (Lib.itoa n)) = (ns.map fun n => str (Lib.itoa n)) → ms = ns
  | [], [], _, _, _ => rfl
  | [], n :: ns, _, _, h => by simp at h
  | m :: ms, [], _, _, h => by simp at h
  | m :: ms, n :: ns, hm, hn, h => by
    simp only [List.map_cons, List.cons.injEq] at h
    rw [itoa_inj (hm m (by simp)) (hn n (by simp)) (str_inj h.1), map_itoa_inj (fun x hx => hm x (by simp [hx])) (fun x hx => hn x (by simp [hx])) h.2]

theorem words_are {bs : List UInt8} {x : Wr} {W : List ByteArray} (hx : IsText bs x) (hr : ∀ n ∈ nsR x, Rng n) (hW : NoBlank W) (hg : glue W = bs ++ [32]) : W = wordsOf (nsR x) := by
  refine glue_inj hW (no_blank_words hr) ?_
  rw [text_glue hx.1, hx.2, hg]

/-- Dependencies out of numbers. -/
def parseD : List Int → List Dp
  | k :: c :: s :: q :: r => ⟨k, c, s, q⟩ :: parseD r
  | _ => []

theorem parseD_back : ∀ xs : List Dp, parseD (xs.flatMap depNs) = xs
  | [] => rfl
  | d :: r => by
    show (⟨d.k, d.c, d.s, d.q⟩ : Dp) :: parseD (r.flatMap depNs) = d :: r
    rw [parseD_back r]

/-- The write that numbers say. -/
def parseW (zs : List Int) : Wr := ⟨zs.getD 0 0, zs.getD 1 0, zs.getD 2 0, zs.getD 3 0, zs.getD 4 0, zs.getD 5 0 == 1, parseD (zs.drop 7)⟩

theorem parse_back (x : Wr) : parseW (nsR x) = x := by
  obtain ⟨k, c, s, q, v, de, xs⟩ := x
  unfold parseW nsR headNs
  simp only [List.cons_append, List.nil_append, List.drop_succ_cons, List.drop_zero, parseD_back]
  simp only [List.getD_cons_zero, List.getD_cons_succ]
  congr 1
  cases de <;> rfl

theorem ns_len (x : Wr) : (nsR x).length = 7 + 4 * x.xs.length := by
  have h : ∀ xs : List Dp, (xs.flatMap depNs).length = 4 * xs.length := by
    intro xs
    induction xs with
    | nil => rfl
    | cons d r ih =>
      rw [List.flatMap_cons, List.length_append, ih]
      simp [depNs]
      omega
  unfold nsR
  rw [List.length_append, h]
  simp [headNs]

end Go.Proofs.YtidpcjcnhklmpacGreatDoor

/- A write's text, read back: what a reader that reads word by word knows. -/
namespace Go.Proofs.YtidpcjcnhklmpacGreatDoor
open Go.ChangeShapes Go.WideShapes Go.ChangeAt Go.RowKit Go.Joins

theorem depKey_ge {xs : List Dp} (h : depsOkB xs = true) : ∀ i, i < xs.length → (i : Int) ≤ (xs.getD i dz).k
  | 0, hi => by
    have := btw_bounds (dep_key h hi)
    simpa using this.1
  | i + 1, hi => by
    have ih := depKey_ge h i (by omega)
    unfold depsOkB at h
    have := List.all_eq_true.1 h (i + 1) (List.mem_range.2 hi)
    simp only [depGood, Bool.and_eq_true, decide_eq_true_eq] at this
    rcases this.2.2 with h1 | h1
    · omega
    · simp only [Nat.add_sub_cancel] at h1
      omega

theorem depR_len {xs : List Dp} (h : depsOkB xs = true) : xs.length ≤ 6 := by
  by_cases h0 : xs.length = 0
  · omega
  · have h1 := depKey_ge h (xs.length - 1) (by omega)
    have h2 := btw_bounds (dep_key h (show xs.length - 1 < xs.length by omega))
    omega

def Sml (n : Int) : Prop := -1000000 ≤ n ∧ n ≤ 1000000

theorem sml_of {n lo hi : Int} (h : btw n lo hi = true) (h0 : -1000000 ≤ lo) (h1 : hi ≤ 1000000) : Sml n := by
  have := btw_bounds h
  exact ⟨by omega, by omega⟩

theorem sml_tag {c s q : Int} (h : tagOkB c s q = true) : Sml c ∧ Sml s ∧ Sml q := by
  unfold tagOkB at h
  simp only [Bool.and_eq_true] at h
  exact ⟨sml_of h.1 (by omega) (by omega), sml_of h.2.1 (by omega) (by omega), sml_of h.2.2 (by omega) (by omega)⟩

theorem sml_ns {x : Wr} (h : okR x = true) : ∀ n ∈ nsR x, Sml n := by
  obtain ⟨k, c, s, q, v, de, xs⟩ := x
  obtain ⟨o1, o2, o3, o4, -⟩ := ok_parts h
  obtain ⟨t1, t2, t3⟩ := sml_tag o2
  have hl := depR_len o4
  simp only at hl
  intro n hn
  unfold nsR headNs at hn
  rcases List.mem_append.1 hn with hn | hn
  · simp only [List.mem_cons, List.not_mem_nil, or_false] at hn
    rcases hn with rfl | rfl | rfl | rfl | rfl | rfl | rfl
    · exact sml_of o1 (by omega) (by omega)
    · exact t1
    · exact t2
    · exact t3
    · exact sml_of (val_btw o3) (by omega) (by omega)
    · cases de <;> exact ⟨by decide, by decide⟩
    · exact ⟨by omega, by omega⟩
  · obtain ⟨d, hd, hn⟩ := List.mem_flatMap.1 hn
    obtain ⟨i, hi, rfl⟩ := List.mem_iff_getElem.1 hd
    have e : xs.getD i dz = xs[i] := by simp [List.getD, hi]
    have h1 := dep_key o4 hi
    have h2 := depsOk_tag o4 hi
    rw [e] at h1 h2
    obtain ⟨u1, u2, u3⟩ := sml_tag h2
    unfold depNs at hn
    simp only [List.mem_cons, List.not_mem_nil, or_false] at hn
    rcases hn with rfl | rfl | rfl | rfl
    · exact sml_of h1 (by omega) (by omega)
    · exact u1
    · exact u2
    · exact u3

theorem rng_ns {x : Wr} (h : okR x = true) : ∀ n ∈ nsR x, Rng n := fun n hn => by
  have := sml_ns h n hn
  exact ⟨by have := this.1; omega, by have := this.2; omega⟩

theorem itoa_short {n : Int} (h : Sml n) : (Lib.itoa n).length ≤ 8 := by
  obtain ⟨h0, h1⟩ := h
  have hu : n.natAbs < 10 ^ (6 + 1) := by
    have : (10 : Nat) ^ (6 + 1) = 10000000 := by decide
    omega
  have h2 := (dec_facts 6 n.natAbs hu).2.2.2
  unfold Lib.itoa
  split
  · simp
    omega
  · have e : n.toNat = n.natAbs := by omega
    rw [e]
    omega

theorem nums_short : ∀ {ns : List Int}, (∀ n ∈ ns, Sml n) → (numsText ns).length ≤ 9 * ns.length
  | [], _ => by simp [numsText]
  | n :: r, h => by
    have h1 := itoa_short (h n (by simp))
    have h2 := nums_short (ns := r) fun m hm => h m (by simp [hm])
    have e : numsText (n :: r) = (32 :: Lib.itoa n) ++ numsText r := by simp [numsText]
    rw [e, List.length_append, List.length_cons, List.length_cons]
    omega

/-- A word that is no numeral: the text is no write's. -/
theorem read_word {bs : List UInt8} {W : List ByteArray} (hW : NoBlank W) (hg : glue W = bs ++ [32]) {j : Nat} {y : ByteArray} (hj : W[j + 1]? = some y) {n : Int} (hs : NumSays y n false) (x : Wr) : ¬ IsText bs x := fun hx => by
  have hr := rng_ns hx.1
  have e := words_are hx hr hW hg
  rw [e] at hj
  simp only [wordsOf, List.getElem?_cons_succ, List.getElem?_map, Option.map_eq_some_iff] at hj
  obtain ⟨m, hm, rfl⟩ := hj
  have hmr := hr m (List.mem_of_getElem? hm)
  have := hs.2.2.2 m hmr.1 hmr.2 (by simp [str])
  simp at this

/-- All words are numerals: they are those of the write. -/
theorem read_all {bs : List UInt8} {W : List ByteArray} (hW : NoBlank W) (hg : glue W = bs ++ [32]) {zs : List Int} (hz : W.drop 1 = zs.map fun n => str (Lib.itoa n)) (hr : ∀ n ∈ zs, Rng n) {x : Wr} (hx : IsText bs x) : zs = nsR x := by
  have hr' := rng_ns hx.1
  have e := words_are hx hr' hW hg
  rw [e] at hz
  simp only [wordsOf, List.drop_succ_cons, List.drop_zero] at hz
  exact (map_itoa_inj hr' hr hz).symm

/-- Too few numbers, or not so many as dependencies ask: the text is no write's. -/
theorem read_count {bs : List UInt8} {W : List ByteArray} (hW : NoBlank W) (hg : glue W = bs ++ [32]) {zs : List Int} (hz : W.drop 1 = zs.map fun n => str (Lib.itoa n)) (hr : ∀ n ∈ zs, Rng n) (hc : zs.length < 7 ∨ zs.length % 4 ≠ 3) (x : Wr) : ¬ IsText bs x := fun hx => by
  have := read_all hW hg hz hr hx
  have hl := ns_len x
  rw [← this] at hl
  omega

/-- The write that the numbers say has another text: the text is no write's. -/
theorem read_other {bs : List UInt8} {W : List ByteArray} (hW : NoBlank W) (hg : glue W = bs ++ [32]) {zs : List Int} (hz : W.drop 1 = zs.map fun n => str (Lib.itoa n)) (hr : ∀ n ∈ zs, Rng n) (ho : textR (parseW zs) ≠ bs) (x : Wr) : ¬ IsText bs x := fun hx => by
  have := read_all hW hg hz hr hx
  rw [this, parse_back] at ho
  exact ho hx.2

theorem read_yes {bs : List UInt8} {x : Wr} (h : textR x = bs) (h0 : bs ≠ []) : IsText bs x := by
  refine ⟨?_, h⟩
  cases ho : okR x
  · exfalso
    unfold textR writeText at h
    have ho' : writeOkB x.k x.c x.s x.q x.v x.de x.xs = false := ho
    rw [ho'] at h
    exact h0 (by simpa using h.symm)
  · rfl

theorem text_is_one {bs : List UInt8} {x y : Wr} (hx : IsText bs x) (hy : IsText bs y) : x = y := by
  have e := words_are (W := wordsOf (nsR y)) hx (rng_ns hx.1) (no_blank_words (rng_ns hy.1)) (by rw [text_glue hy.1, hy.2])
  have h2 := map_itoa_inj (rng_ns hy.1) (rng_ns hx.1) (by simpa [wordsOf] using e)
  rw [← parse_back x, ← parse_back y, h2]

/-- A text of more than 400 bytes is no write's. -/
theorem text_len {bs : List UInt8} {x : Wr} (hx : IsText bs x) : bs.length ≤ 400 := by
  have h1 := nums_short (sml_ns hx.1)
  have h2 := ns_len x
  have h3 : x.xs.length ≤ 6 := depR_len (ok_parts hx.1).2.2.2.1
  have h4 := text_glue hx.1
  rw [glue_words, hx.2] at h4
  have h5 := congrArg List.length h4
  simp at h5
  omega

end Go.Proofs.YtidpcjcnhklmpacGreatDoor

/- The remainder of 32 bits with the polynomial of IEEE: plain facts; the contract of spec.Crc. -/
namespace Go.Proofs.YtidpcjcnhklmpacGreatDoor
open Go.ChangeShapes Go.WideShapes Go.ChangeAt Go.RowKit Go.Joins

/-- One step, for one bit. -/
def crcBit (x : Nat) : Nat := if x % 2 = 1 then (x / 2) ^^^ 3988292384 else x / 2

def crcBits : Nat → Nat → Nat
  | 0, x => x
  | k + 1, x => crcBit (crcBits k x)

def crcByte (x : Nat) (b : UInt8) : Nat := crcBits 8 (x ^^^ b.toNat)

def crcRun (bs : List UInt8) : Nat := bs.foldl crcByte 4294967295

def crcL (bs : List UInt8) : Nat := crcRun bs ^^^ 4294967295

set_option maxRecDepth 100000 in
theorem xor32 {a b : Nat} (ha : a < 4294967296) (hb : b < 4294967296) : a ^^^ b < 4294967296 := Nat.xor_lt_two_pow (n := 32) (by omega) (by omega)

set_option maxRecDepth 100000 in
theorem crcBit_bd {x : Nat} (h : x < 4294967296) : crcBit x < 4294967296 := by
  unfold crcBit
  split
  · exact xor32 (by omega) (by omega)
  · omega

set_option maxRecDepth 100000 in
theorem crcBits_bd {x : Nat} (h : x < 4294967296) : ∀ k, crcBits k x < 4294967296
  | 0 => h
  | k + 1 => crcBit_bd (crcBits_bd h k)

set_option maxRecDepth 100000 in
theorem crcByte_bd {x : Nat} (h : x < 4294967296) (b : UInt8) : crcByte x b < 4294967296 :=
  crcBits_bd (xor32 h (by have := b.toNat_lt; omega)) 8

set_option maxRecDepth 100000 in
theorem crc_fold : ∀ (bs : List UInt8) (x : Nat), x < 4294967296 → bs.foldl crcByte x < 4294967296
  | [], _, h => h
  | b :: r, x, h => crc_fold r (crcByte x b) (crcByte_bd h b)

set_option maxRecDepth 100000 in
theorem crcRun_bd (bs : List UInt8) : crcRun bs < 4294967296 := crc_fold bs _ (by omega)

set_option maxRecDepth 100000 in
theorem crcL_bd (bs : List UInt8) : crcL bs < 4294967296 := xor32 (crcRun_bd bs) (by omega)

set_option maxRecDepth 100000 in
theorem crcRun_snoc (bs : List UInt8) (b : UInt8) : crcRun (bs ++ [b]) = crcByte (crcRun bs) b := by
  unfold crcRun
  rw [List.foldl_append]
  rfl

set_option maxRecDepth 100000 in
theorem crcRun_take {s : ByteArray} {k : Nat} (h : k < s.size) : crcRun (s.data.toList.take (k + 1)) = crcByte (crcRun (s.data.toList.take k)) s[k] := by
  have hl : k < s.data.toList.length := by simpa using h
  rw [List.take_succ_eq_append_getElem hl, crcRun_snoc]
  rfl

set_option maxRecDepth 100000 in
theorem i64_xor_nat {a b : Nat} (ha : a < 4294967296) (hb : b < 4294967296) : bits .xor .i64 (a : Int) (b : Int) = ((a ^^^ b : Nat) : Int) := by
  have hx := xor32 ha hb
  show IntKind.i64.wrap ((BitVec.ofInt 64 (a : Int) ^^^ BitVec.ofInt 64 (b : Int)).toNat : Int) = _
  rw [BitVec.toNat_xor, ofInt_u64 a (by omega), ofInt_u64 b (by omega), wrap_small _ (by omega) (by omega)]

set_option maxRecDepth 100000 in
set_option maxHeartbeats 2000000 in
theorem specCrc_any (s : ByteArray) (w : World) (hs : s.size ≤ 9223372036854775807) :
    Calls Tryz.prog 65 #[.string s] w fun e w' => e = .returned (.int .i64 (crcL s.data.toList : Nat)) ∧ w' = w := by
  go_enter Tryz.func65, Tryz.ntmps65
  go_wp2
  go_loopw [3, 4] (fun x i wr => ∃ k : Nat, k ≤ s.size ∧ i = .int .i64 k ∧ x = .int .i64 (crcRun (s.data.toList.take k) : Nat) ∧ wr = w) (fun _ i _ => s.size - (intOf i).toNat)
  case atStart => exact ⟨0, Nat.zero_le _, rfl, rfl, rfl⟩
  case round =>
    obtain ⟨k, hk, rfl, rfl, rfl⟩ := hrel
    by_cases hk' : k < s.size
    · have i1 : (0 : Int) ≤ (k : Int) := by omega
      have i2 : (k : Int) < (s.size : Int) := by omega
      have HT := Lib.hid (crcRun_take hk')
      have hb := crcRun_bd (s.data.toList.take k)
      have hc : (s[k].toNat : Nat) < 4294967296 := by have := s[k].toNat_lt; omega
      have hu : s[k].toNat < 256 := UInt8.toNat_lt _
      have hu' : wrap64 (s[k].toNat : Int) = (s[k].toNat : Int) := by unfold wrap64; omega
      have hx : bits .xor .i64 ((crcRun (s.data.toList.take k) : Nat) : Int) ((s[k].toNat : Nat) : Int) = ((crcRun (s.data.toList.take k) ^^^ s[k].toNat : Nat) : Int) := i64_xor_nat hb hc
      have hy := xor32 hb hc
      have HB : Hid (crcByte (crcRun (s.data.toList.take k)) s[k] = crcBits 8 (crcRun (s.data.toList.take k) ^^^ s[k].toNat)) := rfl
      go_wp2
      generalize crcRun (s.data.toList.take k) ^^^ s[k].toNat = y at *
      clear hx
      go_loopw [3, 5] (fun x i wq => ∃ j : Nat, j ≤ 8 ∧ i = .int .i64 j ∧ x = .int .i64 (crcBits j y : Nat) ∧ wq = wr) (fun _ i _ => 8 - (intOf i).toNat)
      case atStart => exact ⟨0, Nat.zero_le _, rfl, rfl, rfl⟩
      case round =>
        obtain ⟨j, hj, rfl, rfl, rfl⟩ := hrel
        by_cases hj' : j < 8
        · have j1 : (j : Int) < 8 := by omega
          have hz := crcBits_bd hy j
          have HS : Hid (crcBits (j + 1) y = crcBit (crcBits j y)) := rfl
          generalize crcBits j y = z at *
          have hz2 : (z / 2 : Nat) < 4294967296 := by omega
          have d1 : ((z : Int)).tmod 2 = ((z % 2 : Nat) : Int) := by rw [Int.tmod_eq_emod_of_nonneg (by omega)]; omega
          have d2 : ((z : Int)).tdiv 2 = ((z / 2 : Nat) : Int) := by rw [Int.tdiv_eq_ediv_of_nonneg (by omega)]; omega
          have hx : bits .xor .i64 ((z / 2 : Nat) : Int) 3988292384 = ((z / 2 ^^^ 3988292384 : Nat) : Int) := i64_xor_nat hz2 (b := 3988292384) (by omega)
          by_cases hm : z % 2 = 1
          · have HE : Hid (crcBits (j + 1) y = z / 2 ^^^ 3988292384) := by
              rw [HS.out]
              unfold crcBit
              rw [if_pos hm]
              exact Lib.hid rfl
            go_wp2
            refine ⟨⟨j + 1, by omega, by go_num, ?_, trivial⟩, by simp [intOf]; omega⟩
            have e2 : (z : Int) / 2 = ((z / 2 : Nat) : Int) := by omega
            rw [HE.out, e2, hx]
          · have HE : Hid (crcBits (j + 1) y = z / 2) := by
              rw [HS.out]
              unfold crcBit
              rw [if_neg hm]
              exact Lib.hid rfl
            have hm0 : z % 2 = 0 := by omega
            go_wp2
            refine ⟨⟨j + 1, by omega, by go_num, ?_, trivial⟩, by simp [intOf]; omega⟩
            have e2 : (z : Int) / 2 = ((z / 2 : Nat) : Int) := by omega
            rw [HE.out, e2]
        · have hjj : j = 8 := by omega
          subst hjj
          go_wp2
          exact ⟨⟨k + 1, by omega, by go_num, by rw [HT.out, HB.out], trivial⟩, by simp [intOf]; omega⟩
    · have hkk : k = s.size := by omega
      subst hkk
      have e : s.data.toList.take s.size = s.data.toList := List.take_of_length_le (by simp)
      rw [e]
      have hb := crcRun_bd s.data.toList
      have hx : bits .xor .i64 ((crcRun s.data.toList : Nat) : Int) 4294967295 = ((crcL s.data.toList : Nat) : Int) := i64_xor_nat hb (b := 4294967295) (by omega)
      go_wp2
      go_ret
      exact ⟨rfl, rfl⟩

end Go.Proofs.YtidpcjcnhklmpacGreatDoor

/- Batches of writes as text, and logs: plain facts. -/
namespace Go.Proofs.YtidpcjcnhklmpacGreatDoor
open Go.ChangeShapes Go.WideShapes Go.ChangeAt Go.RowKit Go.Joins

/-- The writes of a batch: at least one, at most six, each WriteOk. -/
def okWs (ws : List Wr) : Bool := decide (1 ≤ ws.length ∧ ws.length ≤ 6) && ws.all okR

def lineW (x : Wr) : List UInt8 := textR x ++ [10]

def headB (n : Nat) : List UInt8 := [98, 97, 116, 99, 104, 32] ++ Lib.itoa n

def bodyB (ws : List Wr) : List UInt8 := headB ws.length ++ 10 :: ws.flatMap lineW

def sumB (ws : List Wr) : List UInt8 := [115, 117, 109, 32] ++ Lib.itoa (crcL (bodyB ws) : Int)

def batchT (ws : List Wr) : List UInt8 := if okWs ws = true then bodyB ws ++ (sumB ws ++ [10]) else []

theorem okWs_all {ws : List Wr} (h : okWs ws = true) : ∀ x ∈ ws, okR x = true := by
  unfold okWs at h
  simp only [Bool.and_eq_true, List.all_eq_true] at h
  exact h.2

theorem okWs_len {ws : List Wr} (h : okWs ws = true) : 1 ≤ ws.length ∧ ws.length ≤ 6 := by
  unfold okWs at h
  simp only [Bool.and_eq_true, decide_eq_true_eq] at h
  exact h.1

theorem no_line_num {n : Int} (h : Rng n) : (10 : UInt8) ∉ Lib.itoa n := by
  obtain ⟨f1, _, _, _, f5, f6⟩ := itoa_parts h.1 h.2
  intro hm
  by_cases hn : n < 0
  · rw [f5 hn] at hm
    rcases List.mem_cons.1 hm with hm | hm
    · exact absurd hm (by decide)
    · exact absurd (f1 10 hm).1 (by decide)
  · rw [← f6 (by omega)] at hm
    exact absurd (f1 10 hm).1 (by decide)

theorem no_line_nums {ns : List Int} (h : ∀ n ∈ ns, Rng n) : (10 : UInt8) ∉ numsText ns := by
  intro hm
  unfold numsText at hm
  obtain ⟨n, hn, hb⟩ := List.mem_flatMap.1 hm
  rcases List.mem_cons.1 hb with hb | hb
  · exact absurd hb (by decide)
  · exact no_line_num (h n hn) hb

theorem no_line_text {x : Wr} (h : okR x = true) : (10 : UInt8) ∉ textR x := by
  intro hm
  have e := text_glue h
  rw [glue_words] at e
  have hm2 : (10 : UInt8) ∈ textR x ++ [32] := List.mem_append_left _ hm
  rw [← e] at hm2
  rcases List.mem_append.1 hm2 with h1 | h1
  · rcases List.mem_cons.1 h1 with h2 | h2
    · exact absurd h2 (by decide)
    · exact no_line_nums (rng_ns h) h2
  · simp at h1

/-- Two lines that begin the same text are the same. -/
theorem line_one : ∀ {l l' r r' s : List UInt8}, (10 : UInt8) ∉ l → (10 : UInt8) ∉ l' → l ++ 10 :: r <+: s → l' ++ 10 :: r' <+: s → l = l' ∧ ∃ t, s = l ++ 10 :: t ∧ r <+: t ∧ r' <+: t
  | [], [], r, r', s, _, _, h, h' => by
    obtain ⟨t, rfl⟩ := h
    refine ⟨rfl, r ++ t, by simp, List.prefix_append _ _, ?_⟩
    have h2 : 10 :: r' <+: 10 :: (r ++ t) := by simpa using h'
    exact (List.prefix_cons_inj 10).1 h2
  | [], c :: l', r, r', s, _, h2, h, h' => by
    exfalso
    obtain ⟨t, rfl⟩ := h
    have h3 : c :: (l' ++ 10 :: r') <+: 10 :: (r ++ t) := by simpa using h'
    have := (List.cons_prefix_cons.1 h3).1
    exact h2 (by rw [this]; simp)
  | c :: l, [], r, r', s, h1, _, h, h' => by
    exfalso
    obtain ⟨t, rfl⟩ := h'
    have h3 : c :: (l ++ 10 :: r) <+: 10 :: (r' ++ t) := by simpa using h
    have := (List.cons_prefix_cons.1 h3).1
    exact h1 (by rw [this]; simp)
  | c :: l, d :: l', r, r', s, h1, h2, h, h' => by
    cases s with
    | nil => exact absurd (List.prefix_nil.1 h) (by simp)
    | cons a s =>
      have k : c = a ∧ l ++ 10 :: r <+: s := by simpa using List.cons_prefix_cons.1 (by simpa using h)
      have k' : d = a ∧ l' ++ 10 :: r' <+: s := by simpa using List.cons_prefix_cons.1 (by simpa using h')
      obtain ⟨e, t, ht, q1, q2⟩ := line_one (fun hm => h1 (List.mem_cons_of_mem _ hm)) (fun hm => h2 (List.mem_cons_of_mem _ hm)) k.2 k'.2
      exact ⟨by rw [k.1, k'.1, e], t, by rw [ht, k.1]; rfl, q1, q2⟩

theorem lines_one : ∀ {ws vs : List Wr} {r r' s : List UInt8}, ws.length = vs.length → (∀ x ∈ ws, okR x = true) → (∀ x ∈ vs, okR x = true) → ws.flatMap lineW ++ r <+: s → vs.flatMap lineW ++ r' <+: s → ws = vs
  | [], [], _, _, _, _, _, _, _, _ => rfl
  | [], v :: vs, _, _, _, h, _, _, _, _ => by simp at h
  | x :: ws, [], _, _, _, h, _, _, _, _ => by simp at h
  | x :: ws, v :: vs, r, r', s, hl, h1, h2, h, h' => by
    have k : textR x ++ 10 :: (ws.flatMap lineW ++ r) <+: s := by simpa [lineW] using h
    have k' : textR v ++ 10 :: (vs.flatMap lineW ++ r') <+: s := by simpa [lineW] using h'
    have o1 := h1 x (by simp)
    have o2 := h2 v (by simp)
    obtain ⟨e, t, -, q1, q2⟩ := line_one (no_line_text o1) (no_line_text o2) k k'
    have e1 : x = v := text_is_one ⟨o1, rfl⟩ ⟨o2, e.symm⟩
    have e2 : ws = vs := lines_one (by simpa using hl) (fun y hy => h1 y (List.mem_cons_of_mem _ hy)) (fun y hy => h2 y (List.mem_cons_of_mem _ hy)) q1 q2
    rw [e1, e2]

theorem rng_small {n : Nat} (h : n ≤ 6) : Rng (n : Int) := ⟨by omega, by omega⟩

theorem no_line_head {n : Nat} (h : n ≤ 6) : (10 : UInt8) ∉ headB n := by
  intro hm
  unfold headB at hm
  rcases List.mem_append.1 hm with h1 | h1
  · simp at h1
  · exact no_line_num (rng_small h) h1

/-- Of the batches one at most has a text with which this one begins. -/
theorem batch_one {a b : List Wr} {s : List UInt8} (ha : okWs a = true) (hb : okWs b = true) (h : batchT a <+: s) (h' : batchT b <+: s) : a = b := by
  unfold batchT at h h'
  rw [if_pos ha] at h
  rw [if_pos hb] at h'
  have k : headB a.length ++ 10 :: (a.flatMap lineW ++ (sumB a ++ [10])) <+: s := by simpa [bodyB] using h
  have k' : headB b.length ++ 10 :: (b.flatMap lineW ++ (sumB b ++ [10])) <+: s := by simpa [bodyB] using h'
  obtain ⟨e, t, -, q1, q2⟩ := line_one (no_line_head (okWs_len ha).2) (no_line_head (okWs_len hb).2) k k'
  unfold headB at e
  have e1 := itoa_inj (rng_small (okWs_len ha).2) (rng_small (okWs_len hb).2) (List.append_cancel_left e)
  exact lines_one (by omega) (okWs_all ha) (okWs_all hb) q1 q2

theorem batch_pos {a : List Wr} (h : okWs a = true) : 0 < (batchT a).length := by
  unfold batchT
  rw [if_pos h]
  simp [bodyB, headB]

/-- The text of a log. -/
def logT (bs : List (List Wr)) : List UInt8 := bs.flatMap batchT

/-- The most batches with whose texts this text begins. -/
def IsLog (s : List UInt8) (bs : List (List Wr)) : Prop := (∀ b ∈ bs, okWs b = true) ∧ logT bs <+: s ∧ ∀ b, okWs b = true → ¬ logT bs ++ batchT b <+: s

theorem logT_cons (b : List Wr) (bs : List (List Wr)) : logT (b :: bs) = batchT b ++ logT bs := by simp [logT]

theorem prefix_left {a b s : List UInt8} (h : a ++ b <+: s) : a <+: s := List.IsPrefix.trans (List.prefix_append a b) h

theorem prefix_strip {a b t : List UInt8} (h : a ++ b <+: a ++ t) : b <+: t := (List.prefix_append_right_inj a).1 h

/-- Whatever batches a text begins with, they are the first of those that are read. -/
theorem log_first : ∀ {bs cs : List (List Wr)} {s : List UInt8}, IsLog s bs → (∀ b ∈ cs, okWs b = true) → logT cs <+: s → cs <+: bs
  | _, [], _, _, _, _ => List.nil_prefix
  | [], c :: cs, s, h, hc, hp => by
    exfalso
    rw [logT_cons] at hp
    exact h.2.2 c (hc c (by simp)) (by simpa [logT] using prefix_left hp)
  | b :: bs, c :: cs, s, h, hc, hp => by
    have h2 := h.2.1
    rw [logT_cons] at h2 hp
    have e : b = c := batch_one (h.1 b (by simp)) (hc c (by simp)) (prefix_left h2) (prefix_left hp)
    subst e
    obtain ⟨t, rfl⟩ := prefix_left h2
    have ih := log_first (bs := bs) (cs := cs) (s := t) ⟨fun x hx => h.1 x (List.mem_cons_of_mem _ hx), prefix_strip h2, fun x hx hq => h.2.2 x hx (by
      rw [logT_cons, List.append_assoc]
      exact (List.prefix_append_right_inj _).2 hq)⟩ (fun x hx => hc x (List.mem_cons_of_mem _ hx)) (prefix_strip hp)
    exact (List.prefix_cons_inj b).2 ih

theorem log_one {bs cs : List (List Wr)} {s : List UInt8} (h : IsLog s bs) (h' : IsLog s cs) : bs = cs := by
  have h1 := log_first h h'.1 h'.2.1
  have h2 := log_first h' h.1 h.2.1
  exact List.IsPrefix.eq_of_length h2 (Nat.le_antisymm h2.length_le h1.length_le)

/-- Of a log that is cut: the first of its batches; all of them, where they are whole. -/
theorem log_cut {bs cs : List (List Wr)} {s : List UInt8} {k : Nat} (h : IsLog s bs) (h' : IsLog (s.take k) cs) : cs <+: bs ∧ ((logT bs).length ≤ k → cs = bs) := by
  have h1 := log_first h h'.1 (List.IsPrefix.trans h'.2.1 (List.take_prefix k s))
  refine ⟨h1, fun hk => ?_⟩
  have h2 : logT bs <+: s.take k := by
    rw [List.prefix_take_iff]
    exact ⟨h.2.1, hk⟩
  have h3 := log_first h' h.1 h2
  exact (List.IsPrefix.eq_of_length h1 (Nat.le_antisymm h1.length_le h3.length_le))

end Go.Proofs.YtidpcjcnhklmpacGreatDoor

/- Contracts of eqWriteS and of the specification's MapOk. -/
namespace Go.Proofs.YtidpcjcnhklmpacGreatDoor
open Go.ChangeShapes Go.WideShapes Go.ChangeAt Go.RowKit Go.Joins
attribute [local go_sem ↓] Go.wp_at_zero Go.wp_at_succ

abbrev wrOf (x : Wr) (a : Option Addr) (cap : Nat) : Value := wrV x.k x.c x.s x.q x.v x.de a x.xs.length cap

abbrev okW (x : Wr) : Bool := writeOkB x.k x.c x.s x.q x.v x.de x.xs

/-- Each write's dependencies are not too many. -/
def Few (ws : List Wr) : Prop := ∀ i, i < ws.length → (ws.getD i wz).xs.length ≤ 1048576

theorem few_of_bulk {ws : List Wr} (h : bulk ws ≤ 1048576) : Few ws := fun i hi => Nat.le_trans (bulk_one ws i hi) h

/-- One write of a row, in this world and in each later one. -/
theorem HoldsWs.get {w w' : World} {b : Nat} {ws : List Wr} {γ : Nat → Nat} (h : HoldsWs w b ws γ) (hb : Below w.heap.size w w') {i n : Nat} (hn : ws.length = n) (hi : i < n) :
    ∃ cap, b < w'.heap.size ∧ WrAt w' b (i * 7) (ws.getD i wz) (some ⟨γ i, 0, none⟩) cap ∧ γ i < w'.heap.size ∧ HoldsDeps w' (γ i) 0 (ws.getD i wz).xs := by
  obtain ⟨⟨cap, h1⟩, h2, h3⟩ := (h.below hb).2 i (by omega)
  exact ⟨cap, (h.below hb).1, h1, h2, h3⟩

/-- One write of a slice that is not empty, in this world and in each later one. -/
theorem IsWs.at {w w' : World} {a : Option Addr} {ws : List Wr} (h : IsWs w a ws) (hb : Below w.heap.size w w') {k n : Nat} (hn : ws.length = n) (hk : k < n) :
    ∃ b o a' cap, a = some ⟨b, o, none⟩ ∧ b < w'.heap.size ∧ WrAt w' b (o + k * 7) (ws.getD k wz) a' cap ∧ IsDeps w' a' (ws.getD k wz).xs := by
  rcases h.below hb with h | ⟨b, o, ha, hlt, hh⟩
  · subst h
    simp at hn
    omega
  · obtain ⟨a', cap, h1, _, h3⟩ := hh k (by omega)
    exact ⟨b, o, a', cap, ha, hlt, h1, h3⟩

/-- One write of a slice, in every later world. -/
theorem IsWs.later {w : World} {a : Option Addr} {ws : List Wr} (h : IsWs w a ws) {k n : Nat} (hn : ws.length = n) (hk : k < n) :
    ∃ b o a' cap, a = some ⟨b, o, none⟩ ∧ ∀ w', Below w.heap.size w w' → b < w'.heap.size ∧ WrAt w' b (o + k * 7) (ws.getD k wz) a' cap ∧ IsDeps w' a' (ws.getD k wz).xs := by
  rcases h with h | ⟨b, o, ha, hlt, hh⟩
  · subst h
    simp at hn
    omega
  · obtain ⟨a', cap, h1, _, h3⟩ := hh k (by omega)
    exact ⟨b, o, a', cap, ha, fun w' hb => ⟨Nat.lt_of_lt_of_le hlt hb.size, h1.of_block (hb.block _ hlt), h3.below hb⟩⟩

theorem IsWs.keyAt {w w' : World} {b o : Nat} {ws : List Wr} (h : IsWs w (some ⟨b, o, none⟩) ws) (hb : Below w.heap.size w w') {k n : Nat} (hn : ws.length = n) (hk : k < n) : w'.cell? ⟨b, o + k * 7, none⟩ = some (.int .i64 (ws.getD k wz).k) := by
  obtain ⟨b', o', _, _, he, _, ⟨h0, _⟩, _⟩ := h.at hb hn hk
  injection he with he
  injection he with e1 e2
  subst e1 e2
  exact h0

theorem HoldsWs.isWs {w : World} {b : Nat} {ws : List Wr} {γ : Nat → Nat} (h : HoldsWs w b ws γ) (hx : Few ws) : IsWs w (some ⟨b, 0, none⟩) ws := by
  refine .inr ⟨b, 0, rfl, h.1, fun i hi => ?_⟩
  obtain ⟨⟨cap, h1⟩, h2, h3⟩ := h.2 i hi
  exact ⟨_, cap, by rw [Nat.zero_add]; exact h1, by have := hx i hi; unfold maxLen; omega, .inr ⟨_, _, rfl, h2, h3⟩⟩

def wrGood (ws : List Wr) (i : Nat) : Bool := okW (ws.getD i wz) && decide (i = 0 ∨ (ws.getD (i - 1) wz).k < (ws.getD i wz).k)

def mapOkB (ws : List Wr) : Bool := (List.range ws.length).all (wrGood ws)

theorem mapOk_true {ws : List Wr} (h : ∀ i, i < ws.length → wrGood ws i = true) : mapOkB ws = true := by
  unfold mapOkB
  rw [List.all_eq_true]
  intro i hi
  exact h i (List.mem_range.1 hi)

theorem mapOk_false {ws : List Wr} {i : Nat} (hi : i < ws.length) (h : wrGood ws i = false) : mapOkB ws = false := by
  unfold mapOkB
  rw [List.all_eq_false]
  exact ⟨i, List.mem_range.2 hi, by simp [h]⟩

theorem good_next {ws : List Wr} {k : Nat} (h : ∀ j, j < k → wrGood ws j = true) (hk : wrGood ws k = true) : ∀ j, j < k + 1 → wrGood ws j = true := fun j hj => by
  by_cases h' : j < k
  · exact h j h'
  · have : j = k := by omega
    rw [this]
    exact hk

end Go.Proofs.YtidpcjcnhklmpacGreatDoor

/- The contract of spec.BatchText. -/
namespace Go.Proofs.YtidpcjcnhklmpacGreatDoor
open Go.ChangeShapes Go.WideShapes Go.ChangeAt Go.RowKit Go.Joins
attribute [local go_sem ↓] Go.wp_at_zero Go.wp_at_succ

/-- A list of writes, the dependencies of each from a block's begin on. -/
def IsWs0 (w : World) (a : Option Addr) (ws : List Wr) : Prop :=
  ws = [] ∨ ∃ b o, a = some ⟨b, o, none⟩ ∧ b < w.heap.size ∧ ∀ i, i < ws.length → ∃ a' cap, WrAt w b (o + i * 7) (ws.getD i wz) a' cap ∧ Deps0 w a' (ws.getD i wz).xs

set_option maxRecDepth 100000 in
theorem deps0_stay {w w' : World} {a : Option Addr} {xs : List Dp} (h : Deps0 w a xs) (hb : Below w.heap.size w w') : Deps0 w' a xs := by
  rcases h with h | ⟨g, h1, h2, h3⟩
  · exact .inl h
  · exact .inr ⟨g, h1, Nat.lt_of_lt_of_le h2 hb.size, h3.below hb h2⟩

set_option maxRecDepth 100000 in
theorem IsWs0.below {w w' : World} {a : Option Addr} {ws : List Wr} (h : IsWs0 w a ws) (hb : Below w.heap.size w w') : IsWs0 w' a ws := by
  rcases h with h | ⟨b, o, ha, hlt, hh⟩
  · exact .inl h
  · refine .inr ⟨b, o, ha, Nat.lt_of_lt_of_le hlt hb.size, fun i hi => ?_⟩
    obtain ⟨a', cap, h1, h2⟩ := hh i hi
    exact ⟨a', cap, h1.of_block (hb.block b hlt), deps0_stay h2 hb⟩

/-- The text behind so many writes. -/
def accB (ws : List Wr) (j : Nat) : List UInt8 := headB ws.length ++ 10 :: (ws.take j).flatMap lineW

set_option maxRecDepth 100000 in
theorem accB_next (ws : List Wr) {j : Nat} (h : j < ws.length) : accB ws (j + 1) = accB ws j ++ (textR (ws.getD j wz) ++ [10]) := by
  unfold accB
  have e : ws.take (j + 1) = ws.take j ++ [ws.getD j wz] := by
    rw [List.take_add_one, List.getElem?_eq_getElem h]
    simp [List.getD, h]
  rw [e, List.flatMap_append]
  simp [lineW]

set_option maxRecDepth 100000 in
theorem okR_text {x : Wr} : textR x = [] ↔ okR x = false := by
  unfold textR writeText okR
  cases h : writeOkB x.k x.c x.s x.q x.v x.de x.xs
  · simp
  · simp [headText]

set_option maxRecDepth 100000 in
theorem okWs_iff {ws : List Wr} : okWs ws = true ↔ (1 ≤ ws.length ∧ ws.length ≤ 6) ∧ ∀ i, i < ws.length → okR (ws.getD i wz) = true := by
  unfold okWs
  simp only [Bool.and_eq_true, decide_eq_true_eq, List.all_eq_true]
  constructor
  · rintro ⟨h1, h2⟩
    exact ⟨h1, fun i hi => h2 _ (by simp [List.getD, hi])⟩
  · rintro ⟨h1, h2⟩
    refine ⟨h1, fun x hx => ?_⟩
    obtain ⟨i, hi, rfl⟩ := List.getElem_of_mem hx
    have := h2 i hi
    simpa [List.getD, hi] using this

set_option maxRecDepth 100000 in
theorem text_400 {x : Wr} : (textR x).length ≤ 400 := by
  cases h : okR x
  · rw [okR_text.2 h]
    simp
  · exact text_len ⟨h, rfl⟩

set_option maxRecDepth 100000 in
set_option maxHeartbeats 4000000 in
theorem specBatch_any (a : Option Addr) (n cap : Nat) (ws : List Wr) (w : World) (hn : ws.length = n) (hm : n ≤ 1048576) (hx : Few ws) (hh : IsWs0 w a ws) :
    Calls Tryz.prog 34 #[.slice a n cap] w fun e w' => e = .returned (.string (str (batchT ws))) ∧ Below w.heap.size w w' := by
  by_cases hr : 1 ≤ n ∧ n ≤ 6
  rotate_left
  · have HE : Hid (batchT ws = []) := by
      show _ = _
      unfold batchT
      rw [if_neg fun h => hr (by rw [← hn]; exact okWs_len h)]
    clear hh hn hx
    have hb : btw (n : Int) 1 6 = false := by
      cases h : btw (n : Int) 1 6
      · rfl
      · exact absurd (by have := btw_bounds h; omega) hr
    go_enter Tryz.func34, Tryz.ntmps34
    go_wp2_with fail
    refine (between_any _ _ _ _).mono ?_
    rintro e w1 ⟨rfl, hw⟩
    subst w1
    rw [hb]
    go_wp2
    go_ret
    exact ⟨by rw [HE.out]; rfl, Below.refl _ _⟩
  have hb : btw (n : Int) 1 6 = true := by unfold btw; simp; omega
  have HH := Lib.hid hh
  have HN := Lib.hid hn
  have HX := Lib.hid hx
  clear hh hn hx
  have z0 : (⟨(Lib.itoa (n : Int)).toArray⟩ : ByteArray).size ≤ 21 := by
    have := Lib.itoa_length_le (n : Int) (by omega) (by omega)
    simpa [ByteArray.size] using this
  have HE0 : Hid ((⟨#[98, 97, 116, 99, 104, 32]⟩ : ByteArray) ++ ⟨(Lib.itoa (n : Int)).toArray⟩ ++ ⟨#[10]⟩ = str (accB ws 0)) := by
    have e1 : (⟨#[98, 97, 116, 99, 104, 32]⟩ : ByteArray) = str [98, 97, 116, 99, 104, 32] := rfl
    have e2 : (⟨(Lib.itoa (n : Int)).toArray⟩ : ByteArray) = str (Lib.itoa (n : Int)) := rfl
    have e3 : (⟨#[10]⟩ : ByteArray) = str [10] := rfl
    show _ = _
    rw [e1, e2, e3, str_add, str_add]
    unfold accB headB
    rw [HN.out]
    simp
  go_enter Tryz.func34, Tryz.ntmps34
  go_wp2_with fail
  refine (between_any _ _ _ _).mono ?_
  rintro e w1 ⟨rfl, hw⟩
  subst w1
  rw [hb]
  clear hb
  go_wp2_with fail
  refine (specNum (n : Int) _ (by omega) (by omega)).mono ?_
  rintro e w1 ⟨rfl, hb1⟩
  have HB1 := Lib.hid hb1
  clear hb1
  obtain ⟨t0, ht0⟩ : ∃ t0 : ByteArray, ⟨(Lib.itoa (n : Int)).toArray⟩ = t0 := ⟨_, rfl⟩
  rw [ht0] at z0 HE0 ⊢
  clear ht0
  have z1 : ((⟨#[98, 97, 116, 99, 104, 32]⟩ : ByteArray) ++ t0).size ≤ 27 := by
    rw [ByteArray.size_append]
    have : (⟨#[98, 97, 116, 99, 104, 32]⟩ : ByteArray).size = 6 := rfl
    omega
  have z2 : ((⟨#[98, 97, 116, 99, 104, 32]⟩ : ByteArray) ++ t0 ++ ⟨#[10]⟩).size ≤ 28 := by
    rw [ByteArray.size_append]
    have : (⟨#[10]⟩ : ByteArray).size = 1 := rfl
    omega
  go_wp2
  go_loopw [3, 4] (fun t i wr => ∃ (j : Nat) (acc : ByteArray), j ≤ n ∧ i = .int .i64 j ∧ t = .string acc ∧ acc.size ≤ 28 + 401 * j ∧ Hid (acc = str (accB ws j)) ∧ Hid (∀ i, i < j → okR (ws.getD i wz) = true) ∧ Hid (Below w.heap.size w wr)) (fun _ i _ => n - (intOf i).toNat)
  case atStart => exact ⟨0, _, Nat.zero_le _, rfl, rfl, by omega, HE0, fun i h => absurd h (Nat.not_lt_zero i), HB1⟩
  case round =>
    clear HE0 HB1 z0 z1 z2
    obtain ⟨j, acc, hj, rfl, rfl, hsz, HA, HO, HB⟩ := hrel
    by_cases hj' : j < n
    · have hjj : j < ws.length := by rw [HN.out]; exact hj'
      have i1 : (0 : Int) ≤ (j : Int) := by omega
      have i2 : (j : Int) < (n : Int) := by omega
      obtain ⟨b, o, rfl, hz, hall⟩ : ∃ b o, a = some ⟨b, o, none⟩ ∧ b < wr.heap.size ∧ ∀ i, i < ws.length → ∃ a' cap, WrAt wr b (o + i * 7) (ws.getD i wz) a' cap ∧ Deps0 wr a' (ws.getD i wz).xs := by
        rcases HH.out.below HB.out with h | h
        · rw [h] at hjj
          simp at hjj
        · exact h
      obtain ⟨ad, cp, ⟨e0, e1, e2, e3, e4, e5, e6⟩, hd⟩ := hall j hjj
      have hxl := HX.out j hjj
      have HD := Lib.hid hd
      have HNX := Lib.hid (accB_next ws hjj)
      have HT4 := Lib.hid (text_400 (x := ws.getD j wz))
      have HIF := Lib.hid (okR_text (x := ws.getD j wz))
      have HNO : Hid (okR (ws.getD j wz) = false → batchT ws = []) := fun h => by
        unfold batchT
        rw [if_neg fun hk => by have := (okWs_iff.1 hk).2 j hjj; rw [h] at this; cases this]
      have HO2 : Hid (okR (ws.getD j wz) = true → ∀ i, i < j + 1 → okR (ws.getD i wz) = true) := fun h i hi => by
        by_cases hij : i < j
        · exact HO.out i hij
        · obtain rfl : i = j := by omega
          exact h
      clear hall hd
      generalize ws.getD j wz = x at *
      obtain ⟨xk, xc, xs', xq, xv, xd, xx⟩ := x
      simp only at e0 e1 e2 e3 e4 e5 e6 hxl HD
      go_wp2_with fail
      refine (specText_gen xk xc xs' xq xv xd ad xx _ cp _ rfl hxl HD.out).mono ?_
      rintro e w2 ⟨rfl, hb⟩
      have HB2 := Lib.hid (below_step HB.out HB.out.size hb)
      clear hb HB HD e0 e1 e2 e3 e4 e5 e6
      have HTX : Hid (textR ⟨xk, xc, xs', xq, xv, xd, xx⟩ = writeText xk xc xs' xq xv xd xx) := rfl
      cases hok : okR ⟨xk, xc, xs', xq, xv, xd, xx⟩
      · have h0 : str (writeText xk xc xs' xq xv xd xx) = ⟨#[]⟩ := by
          rw [← HTX.out, HIF.out.2 hok]
          rfl
        rw [h0]
        have HE := Lib.hid (HNO.out hok)
        clear hok
        go_wp2
        go_ret
        exact ⟨by rw [HE.out]; rfl, HB2.out⟩
      · have HE2 := Lib.hid (HO2.out hok)
        have hne : textR ⟨xk, xc, xs', xq, xv, xd, xx⟩ ≠ [] := fun h => by
          have := HIF.out.1 h
          rw [hok] at this
          cases this
        have h4 := HT4.out
        rw [HTX.out] at hne h4 HNX
        have hs : (str (writeText xk xc xs' xq xv xd xx)).size ≤ 400 := by rw [str_size]; exact h4
        have HNE : Hid (accB ws (j + 1) = accB ws j ++ (writeText xk xc xs' xq xv xd xx ++ [10])) := HNX.out
        have hnl : (str (writeText xk xc xs' xq xv xd xx)).toList.isEmpty = false := by
          rw [ByteArray.toList_eq]
          cases h : writeText xk xc xs' xq xv xd xx with
          | nil => exact absurd h hne
          | cons => rfl
        have HSA : Hid (acc ++ str (writeText xk xc xs' xq xv xd xx) ++ ⟨#[10]⟩ = str (accB ws (j + 1))) := by
          have e3 : (⟨#[10]⟩ : ByteArray) = str [10] := rfl
          show _ = _
          rw [HA.out, e3, str_add, str_add, HNE.out, List.append_assoc]
        clear hok hne h4 HNX HNE HT4 HIF HNO HO2 HTX
        generalize str (writeText xk xc xs' xq xv xd xx) = tx at *
        have y1 : (acc ++ tx).size ≤ 428 + 401 * j := by rw [ByteArray.size_append]; omega
        have y2 : (acc ++ tx ++ ⟨#[10]⟩).size ≤ 28 + 401 * (j + 1) := by
          rw [ByteArray.size_append]
          have : (⟨#[10]⟩ : ByteArray).size = 1 := rfl
          omega
        go_wp2
        exact ⟨⟨j + 1, _, by omega, by go_num, rfl, y2, HSA, HE2, HB2⟩, by simp [intOf]; omega⟩
    · have hjn : j = n := by omega
      subst hjn
      have hacc : acc.size ≤ 3000 := by omega
      have HOK : Hid (okWs ws = true) := okWs_iff.2 ⟨by rw [HN.out]; exact hr, fun i hi => HO.out i (by rw [← HN.out]; exact hi)⟩
      have HBD : Hid (accB ws j = bodyB ws) := by
        show _ = _
        unfold accB bodyB
        rw [List.take_of_length_le (by rw [HN.out]; exact Nat.le_refl _)]
      have HCR : Hid (crcL acc.data.toList = crcL (bodyB ws)) := by
        show _ = _
        rw [HA.out, HBD.out]
        rfl
      have hcb := crcL_bd (bodyB ws)
      have z3 : (acc ++ ⟨#[115, 117, 109, 32]⟩).size ≤ 3004 := by
        rw [ByteArray.size_append]
        have : (⟨#[115, 117, 109, 32]⟩ : ByteArray).size = 4 := rfl
        omega
      have HFE : Hid (acc ++ ⟨#[115, 117, 109, 32]⟩ ++ ⟨(Lib.itoa ((crcL (bodyB ws) : Nat) : Int)).toArray⟩ ++ ⟨#[10]⟩ = str (batchT ws)) := by
        have e1 : (⟨#[115, 117, 109, 32]⟩ : ByteArray) = str [115, 117, 109, 32] := rfl
        have e2 : (⟨(Lib.itoa ((crcL (bodyB ws) : Nat) : Int)).toArray⟩ : ByteArray) = str (Lib.itoa ((crcL (bodyB ws) : Nat) : Int)) := rfl
        have e3 : (⟨#[10]⟩ : ByteArray) = str [10] := rfl
        show _ = _
        unfold batchT
        rw [if_pos HOK.out, HA.out, HBD.out, e1, e2, e3, str_add, str_add, str_add]
        simp [sumB]
      have z4 : (⟨(Lib.itoa ((crcL (bodyB ws) : Nat) : Int)).toArray⟩ : ByteArray).size ≤ 21 := by
        have := Lib.itoa_length_le ((crcL (bodyB ws) : Nat) : Int) (by omega) (by omega)
        simpa [ByteArray.size] using this
      go_wp2_with fail
      refine (specCrc_any acc _ (by omega)).mono ?_
      rintro e w2 ⟨rfl, hw⟩
      subst w2
      rw [HCR.out]
      go_wp2_with fail
      refine (specNum _ _ (by omega) (by omega)).mono ?_
      rintro e w2 ⟨rfl, hb⟩
      have HB2 := Lib.hid (below_step HB.out HB.out.size hb)
      clear hb
      generalize (⟨(Lib.itoa ((crcL (bodyB ws) : Nat) : Int)).toArray⟩ : ByteArray) = tc at *
      have z5 : (acc ++ ⟨#[115, 117, 109, 32]⟩ ++ tc).size ≤ 3100 := by rw [ByteArray.size_append]; omega
      have z6 : (acc ++ ⟨#[115, 117, 109, 32]⟩ ++ tc ++ ⟨#[10]⟩).size ≤ 3200 := by
        rw [ByteArray.size_append]
        have : (⟨#[10]⟩ : ByteArray).size = 1 := rfl
        omega
      go_wp2
      go_ret
      exact ⟨by rw [← HFE.out]; rfl, HB2.out⟩

end Go.Proofs.YtidpcjcnhklmpacGreatDoor

/- The contract of spec.l06Line: the line that begins at a place. -/
namespace Go.Proofs.YtidpcjcnhklmpacGreatDoor
open Go.ChangeShapes Go.WideShapes Go.ChangeAt Go.RowKit Go.Joins
attribute [local go_sem ↓] Go.wp_at_zero Go.wp_at_succ

set_option maxRecDepth 100000 in
theorem byte_at {s : ByteArray} {j : Nat} (h : j < s.size) : s.data.toList[j]? = some s[j] := by
  have hl : j < s.data.toList.length := by simpa using h
  rw [List.getElem?_eq_getElem hl]
  rfl

/-- No line ends between two places. -/
def NoEnd (s : ByteArray) (i j : Nat) : Prop := ∀ k, i ≤ k → k < j → s.data.toList[k]? ≠ some 10

set_option maxRecDepth 100000 in
theorem line_found {s : ByteArray} {i j : Nat} (hij : i ≤ j) (hj : j < s.size) (h : NoEnd s i j) (he : s[j] = 10) : ∃ l r, s.data.toList.drop i = l ++ 10 :: r ∧ (10 : UInt8) ∉ l ∧ l.length = j - i ∧ str l = s.extract i j := by
  have hl : j < s.data.toList.length := by simpa using hj
  refine ⟨(s.data.toList.drop i).take (j - i), s.data.toList.drop (j + 1), ?_, ?_, ?_, ?_⟩
  · have e1 : s.data.toList.drop j = 10 :: s.data.toList.drop (j + 1) := by
      rw [List.drop_eq_getElem_cons hl]
      congr 1
    have e2 := (List.take_append_drop (j - i) (s.data.toList.drop i)).symm
    rw [List.drop_drop, show i + (j - i) = j by omega, e1] at e2
    exact e2
  · intro hm
    obtain ⟨k, hk, he2⟩ := List.getElem_of_mem hm
    have hk2 : k < j - i := by
      have := hk
      simp at this
      omega
    refine h (i + k) (by omega) (by omega) ?_
    rw [← he2, List.getElem_take, List.getElem_drop]
    exact List.getElem?_eq_getElem (by omega)
  · simp
    omega
  · apply ByteArray.ext
    show ((s.data.toList.drop i).take (j - i)).toArray = (s.extract i j).data
    rw [ByteArray.data_extract]
    apply Array.ext'
    rw [Array.toList_extract, List.extract_eq_take_drop]

set_option maxRecDepth 100000 in
theorem line_none {s : ByteArray} {i : Nat} (h : NoEnd s i s.size) : (10 : UInt8) ∉ s.data.toList.drop i := by
  intro hm
  obtain ⟨k, hk, he⟩ := List.getElem_of_mem hm
  have hk2 : i + k < s.data.toList.length := by
    have := hk
    simp at this
    simp
    omega
  refine h (i + k) (by omega) (by simpa using hk2) ?_
  rw [← he, List.getElem_drop]
  exact List.getElem?_eq_getElem hk2

set_option maxRecDepth 100000 in
set_option maxHeartbeats 2000000 in
theorem line_any (s : ByteArray) (i : Nat) (w : World) (hs : s.size ≤ 1048576) (hi : i ≤ s.size) :
    Calls Tryz.prog 41 #[.string s, .int .i64 (i : Int)] w fun e w' => ((∃ l r, s.data.toList.drop i = l ++ 10 :: r ∧ (10 : UInt8) ∉ l ∧ e = .returned (.tuple #[.string (str l), .int .i64 ((i + l.length + 1 : Nat) : Int), .bool true])) ∨ ((10 : UInt8) ∉ s.data.toList.drop i ∧ e = .returned (.tuple #[.string ⟨#[]⟩, .int .i64 (i : Int), .bool false]))) ∧ w' = w := by
  go_enter Tryz.func41, Tryz.ntmps41
  go_wp2
  go_loopw [7] (fun t wr => ∃ j : Nat, i ≤ j ∧ j ≤ s.size ∧ t = .int .i64 j ∧ Hid (NoEnd s i j) ∧ wr = w) (fun t _ => s.size - (intOf t).toNat)
  case atStart => exact ⟨i, Nat.le_refl _, hi, rfl, fun k h1 h2 => absurd h2 (by omega), rfl⟩
  case round =>
    obtain ⟨j, hij, hj, rfl, HN, rfl⟩ := hrel
    by_cases hj' : j < s.size
    · have i1 : (0 : Int) ≤ (j : Int) := by omega
      have i2 : (j : Int) < (s.size : Int) := by omega
      by_cases he : s[j] = 10
      · have HF := Lib.hid (line_found hij hj' HN.out he)
        have hu : ((s[j].toNat : Nat) : Int) = 10 := by rw [he]; rfl
        have j1 : (i : Int) ≤ (j : Int) := by omega
        have j2 : (j : Int) ≤ (s.size : Int) := by omega
        go_wp2
        obtain ⟨l, r, q1, q2, q3, q4⟩ := HF.out
        have e3 : ((i + l.length + 1 : Nat) : Int) = (j : Int) + 1 := by omega
        exact bodyPost_ret (v := .tuple #[.string (s.extract i j), .int .i64 ((j : Int) + 1), .bool true]) (by simp [results, Tryz.results41, go_sem]) rfl ⟨.inl ⟨l, r, q1, q2, by rw [q4, e3]⟩, rfl⟩
      · have HN2 : Hid (NoEnd s i (j + 1)) := fun k h1 h2 => by
          by_cases hk : k < j
          · exact HN.out k h1 hk
          · obtain rfl : k = j := by omega
            rw [byte_at hj']
            simpa using he
        have hu : ¬ ((s[j].toNat : Nat) : Int) = 10 := fun h => he (by
          have h2 : s[j].toNat = 10 := by omega
          exact UInt8.toNat_inj.1 h2)
        go_wp2
        exact ⟨⟨j + 1, by omega, by omega, by go_num, HN2, trivial⟩, by simp [intOf]; omega⟩
    · have hjj : j = s.size := by omega
      subst hjj
      have HL := Lib.hid (line_none HN.out)
      go_wp2
      exact bodyPost_ret (v := .tuple #[.string ⟨#[]⟩, .int .i64 (i : Int), .bool false]) (by simp [results, Tryz.results41, go_sem]) rfl ⟨.inr ⟨HL.out, rfl⟩, rfl⟩

end Go.Proofs.YtidpcjcnhklmpacGreatDoor
