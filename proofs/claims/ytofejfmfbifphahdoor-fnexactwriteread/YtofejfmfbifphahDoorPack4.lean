import Derived.Test.YtofejfmfbifphahDoorPack2
import Derived.Test.YtofejfmfbifphahDoorPack3
import Derived.Lib.Hide
import Derived.Test.YtofejfmfbifphahDoorPack1
import Derived.BigQuiet
import Derived.Deep.QuietTactic
import Derived.WalkSmall
/- Lists of writes in memory; the contracts of szWriteS, toWriteS, eqWriteS. -/
namespace Go.Proofs.YtofejfmfbifphahDoor
open Go.ChangeShapes Go.WideShapes Go.ChangeAt Go.RowKit Go.Joins
attribute [local go_sem ↓] Go.wp_at_zero Go.wp_at_succ

structure Wr where
  k : Int
  c : Int
  s : Int
  q : Int
  v : Int
  de : Bool
  xs : List Dp

def wz : Wr := ⟨0, 0, 0, 0, 0, false, []⟩

/-- A write's cells from place o of block b on, its dependencies at a. -/
def WrAt (w : World) (b o : Nat) (x : Wr) (a : Option Addr) (cap : Nat) : Prop :=
  w.cell? ⟨b, o, none⟩ = some (.int .i64 x.k) ∧ w.cell? ⟨b, o + 1, none⟩ = some (.int .i64 x.c) ∧ w.cell? ⟨b, o + 2, none⟩ = some (.int .i64 x.s) ∧ w.cell? ⟨b, o + 3, none⟩ = some (.int .i64 x.q) ∧
  w.cell? ⟨b, o + 4, none⟩ = some (.int .i64 x.v) ∧ w.cell? ⟨b, o + 5, none⟩ = some (.bool x.de) ∧ w.cell? ⟨b, o + 6, none⟩ = some (.slice a x.xs.length cap)

theorem WrAt.of_block {w w' : World} {b o : Nat} {x : Wr} {a : Option Addr} {cap : Nat} (h : WrAt w b o x a cap) (hb : w'.heap[b]? = w.heap[b]?) : WrAt w' b o x a cap := by
  obtain ⟨h0, h1, h2, h3, h4, h5, h6⟩ := h
  have e : ∀ i, w'.cell? ⟨b, i, none⟩ = w.cell? ⟨b, i, none⟩ := fun i => World.cell?_of_block (a := ⟨b, i, none⟩) hb
  exact ⟨(e _).trans h0, (e _).trans h1, (e _).trans h2, (e _).trans h3, (e _).trans h4, (e _).trans h5, (e _).trans h6⟩

/-- What a slice of writes leads to, wherever its writes' dependencies lie. -/
def IsWs (w : World) (a : Option Addr) (ws : List Wr) : Prop :=
  ws = [] ∨ ∃ b o, a = some ⟨b, o, none⟩ ∧ b < w.heap.size ∧ ∀ i, i < ws.length → ∃ a' cap, WrAt w b (o + i * 7) (ws.getD i wz) a' cap ∧ (ws.getD i wz).xs.length ≤ maxLen ∧ IsDeps w a' (ws.getD i wz).xs

theorem IsWs.below {w w' : World} {a : Option Addr} {ws : List Wr} (h : IsWs w a ws) (hb : Below w.heap.size w w') : IsWs w' a ws := by
  rcases h with h | ⟨b, o, ha, hlt, hh⟩
  · exact .inl h
  · refine .inr ⟨b, o, ha, Nat.lt_of_lt_of_le hlt hb.size, fun i hi => ?_⟩
    obtain ⟨a', cap, h1, h2, h3⟩ := hh i hi
    exact ⟨a', cap, h1.of_block (hb.block _ hlt), h2, h3.below hb⟩

/-- A row of writes from block b's begin on, write number i's dependencies from block γ i's begin on. -/
def HoldsWs (w : World) (b : Nat) (ws : List Wr) (γ : Nat → Nat) : Prop :=
  b < w.heap.size ∧ ∀ i, i < ws.length → (∃ cap, WrAt w b (i * 7) (ws.getD i wz) (some ⟨γ i, 0, none⟩) cap) ∧ γ i < w.heap.size ∧ HoldsDeps w (γ i) 0 (ws.getD i wz).xs

theorem HoldsWs.below {w w' : World} {b : Nat} {ws : List Wr} {γ : Nat → Nat} (h : HoldsWs w b ws γ) (hb : Below w.heap.size w w') : HoldsWs w' b ws γ := by
  refine ⟨Nat.lt_of_lt_of_le h.1 hb.size, fun i hi => ?_⟩
  obtain ⟨⟨cap, h1⟩, h2, h3⟩ := h.2 i hi
  exact ⟨⟨cap, h1.of_block (hb.block _ h.1)⟩, Nat.lt_of_lt_of_le h2 hb.size, h3.below hb h2⟩

/-- How much a list of writes is: its length, and those of its writes' dependencies. -/
def bulk : List Wr → Nat
  | [] => 0
  | x :: r => x.xs.length + bulk r

theorem bulk_take (ws : List Wr) (k : Nat) (h : k < ws.length) : bulk (ws.take (k + 1)) = bulk (ws.take k) + (ws.getD k wz).xs.length := by
  induction ws generalizing k with
  | nil => simp at h
  | cons x r ih =>
    cases k with
    | zero => simp [bulk]
    | succ k =>
      have := ih k (by simpa using h)
      simp only [List.take_succ_cons, bulk, List.getD_cons_succ] at this ⊢
      omega

theorem bulk_one (ws : List Wr) (k : Nat) (h : k < ws.length) : (ws.getD k wz).xs.length ≤ bulk ws := by
  induction ws generalizing k with
  | nil => simp at h
  | cons x r ih =>
    cases k with
    | zero => simp [bulk]
    | succ k =>
      have := ih k (by simpa using h)
      simp only [bulk, List.getD_cons_succ]
      omega

theorem ws_at {w w' : World} {a : Option Addr} {ws : List Wr} {n : Nat} (h : IsWs w a ws) (hb : Below w.heap.size w w') (hn : ws.length = n) {k : Nat} (hk : k < n) :
    ∃ b o a' cap, a = some ⟨b, o, none⟩ ∧ WrAt w' b (o + k * 7) (ws.getD k wz) a' cap ∧ (ws.getD k wz).xs.length ≤ maxLen ∧ IsDeps w' a' (ws.getD k wz).xs := by
  rcases h.below hb with h | ⟨b, o, ha, _, hh⟩
  · subst h
    simp at hn
    omega
  · obtain ⟨a', cap, h1, h2, h3⟩ := hh k (by omega)
    exact ⟨b, o, a', cap, ha, h1, h2, h3⟩

/-- Cell j of a row of writes. -/
def wrCell (ws : List Wr) (γ : Nat → Nat) (j : Nat) : Value :=
  if j % 7 = 0 then .int .i64 (ws.getD (j / 7) wz).k else if j % 7 = 1 then .int .i64 (ws.getD (j / 7) wz).c else if j % 7 = 2 then .int .i64 (ws.getD (j / 7) wz).s else if j % 7 = 3 then .int .i64 (ws.getD (j / 7) wz).q
  else if j % 7 = 4 then .int .i64 (ws.getD (j / 7) wz).v else if j % 7 = 5 then .bool (ws.getD (j / 7) wz).de else .slice (some ⟨γ (j / 7), 0, none⟩) (ws.getD (j / 7) wz).xs.length (ws.getD (j / 7) wz).xs.length

/-- Cell j of a row of zero writes. -/
def zeroCell (j : Nat) : Value := if j % 7 = 5 then .bool false else if j % 7 = 6 then .slice none 0 0 else .int .i64 0

def wrFill (ws : List Wr) (γ : Nat → Nat) (k j : Nat) : Value := if j < k * 7 then wrCell ws γ j else zeroCell j

def upd (γ : Nat → Nat) (k g : Nat) : Nat → Nat := fun i => if i = k then g else γ i

theorem upd_at (γ : Nat → Nat) (k g : Nat) : upd γ k g k = g := by simp [upd]

theorem upd_off (γ : Nat → Nat) {k i : Nat} (g : Nat) (h : i ≠ k) : upd γ k g i = γ i := by simp [upd, h]

theorem wrCell0 (ws : List Wr) (γ : Nat → Nat) (k : Nat) : wrCell ws γ (k * 7) = .int .i64 (ws.getD k wz).k := by
  unfold wrCell
  rw [if_pos (by omega), show k * 7 / 7 = k by omega]

theorem wrCell1 (ws : List Wr) (γ : Nat → Nat) (k : Nat) : wrCell ws γ (k * 7 + 1) = .int .i64 (ws.getD k wz).c := by
  unfold wrCell
  rw [if_neg (by omega), if_pos (by omega), show (k * 7 + 1) / 7 = k by omega]

theorem wrCell2 (ws : List Wr) (γ : Nat → Nat) (k : Nat) : wrCell ws γ (k * 7 + 2) = .int .i64 (ws.getD k wz).s := by
  unfold wrCell
  rw [if_neg (by omega), if_neg (by omega), if_pos (by omega), show (k * 7 + 2) / 7 = k by omega]

theorem wrCell3 (ws : List Wr) (γ : Nat → Nat) (k : Nat) : wrCell ws γ (k * 7 + 3) = .int .i64 (ws.getD k wz).q := by
  unfold wrCell
  rw [if_neg (by omega), if_neg (by omega), if_neg (by omega), if_pos (by omega), show (k * 7 + 3) / 7 = k by omega]

theorem wrCell4 (ws : List Wr) (γ : Nat → Nat) (k : Nat) : wrCell ws γ (k * 7 + 4) = .int .i64 (ws.getD k wz).v := by
  unfold wrCell
  rw [if_neg (by omega), if_neg (by omega), if_neg (by omega), if_neg (by omega), if_pos (by omega), show (k * 7 + 4) / 7 = k by omega]

theorem wrCell5 (ws : List Wr) (γ : Nat → Nat) (k : Nat) : wrCell ws γ (k * 7 + 5) = .bool (ws.getD k wz).de := by
  unfold wrCell
  rw [if_neg (by omega), if_neg (by omega), if_neg (by omega), if_neg (by omega), if_neg (by omega), if_pos (by omega), show (k * 7 + 5) / 7 = k by omega]

theorem wrCell6 (ws : List Wr) (γ : Nat → Nat) (k : Nat) : wrCell ws γ (k * 7 + 6) = .slice (some ⟨γ k, 0, none⟩) (ws.getD k wz).xs.length (ws.getD k wz).xs.length := by
  unfold wrCell
  rw [if_neg (by omega), if_neg (by omega), if_neg (by omega), if_neg (by omega), if_neg (by omega), if_neg (by omega), show (k * 7 + 6) / 7 = k by omega]

theorem wrCell_off (ws : List Wr) (γ : Nat → Nat) (k g j : Nat) (h : j < k * 7) : wrCell ws (upd γ k g) j = wrCell ws γ j := by
  unfold wrCell
  rw [upd_off γ g (show j / 7 ≠ k by omega)]

theorem wrFill_step (ws : List Wr) (γ : Nat → Nat) (k g j : Nat) :
    (if j = k * 7 + 6 then Value.slice (some ⟨g, 0, none⟩) (ws.getD k wz).xs.length (ws.getD k wz).xs.length else if j = k * 7 + 5 then Value.bool (ws.getD k wz).de else if j = k * 7 + 4 then Value.int .i64 (ws.getD k wz).v else if j = k * 7 + 3 then Value.int .i64 (ws.getD k wz).q else if j = k * 7 + 2 then Value.int .i64 (ws.getD k wz).s else if j = k * 7 + 1 then Value.int .i64 (ws.getD k wz).c else if j = k * 7 then Value.int .i64 (ws.getD k wz).k else wrFill ws γ k j) = wrFill ws (upd γ k g) (k + 1) j := by
  unfold wrFill
  by_cases h6 : j = k * 7 + 6
  · rw [if_pos h6, if_pos (by omega), h6, wrCell6, upd_at]
  rw [if_neg h6]
  by_cases h5 : j = k * 7 + 5
  · rw [if_pos h5, if_pos (by omega), h5, wrCell5]
  rw [if_neg h5]
  by_cases h4 : j = k * 7 + 4
  · rw [if_pos h4, if_pos (by omega), h4, wrCell4]
  rw [if_neg h4]
  by_cases h3 : j = k * 7 + 3
  · rw [if_pos h3, if_pos (by omega), h3, wrCell3]
  rw [if_neg h3]
  by_cases h2 : j = k * 7 + 2
  · rw [if_pos h2, if_pos (by omega), h2, wrCell2]
  rw [if_neg h2]
  by_cases h1 : j = k * 7 + 1
  · rw [if_pos h1, if_pos (by omega), h1, wrCell1]
  rw [if_neg h1]
  by_cases h0 : j = k * 7
  · rw [if_pos h0, if_pos (by omega), h0, wrCell0]
  rw [if_neg h0]
  by_cases hl : j < k * 7
  · rw [if_pos hl, if_pos (by omega), wrCell_off _ _ _ _ _ hl]
  · rw [if_neg hl, if_neg (by omega)]

theorem wrAt_of_row {w : World} {b t : Nat} {ws : List Wr} {γ : Nat → Nat} (h : w.rowIs b t (ws.length * 7) (wrFill ws γ ws.length)) {i : Nat} (hi : i < ws.length) : WrAt w b (i * 7) (ws.getD i wz) (some ⟨γ i, 0, none⟩) (ws.getD i wz).xs.length := by
  refine ⟨?_, ?_, ?_, ?_, ?_, ?_, ?_⟩
  · rw [h.cell (by omega), wrFill, if_pos (by omega), wrCell0]
  · rw [h.cell (by omega), wrFill, if_pos (by omega), wrCell1]
  · rw [h.cell (by omega), wrFill, if_pos (by omega), wrCell2]
  · rw [h.cell (by omega), wrFill, if_pos (by omega), wrCell3]
  · rw [h.cell (by omega), wrFill, if_pos (by omega), wrCell4]
  · rw [h.cell (by omega), wrFill, if_pos (by omega), wrCell5]
  · rw [h.cell (by omega), wrFill, if_pos (by omega), wrCell6]

theorem wrow_start (w : World) (t n : Nat) (ws : List Wr) (γ : Nat → Nat) : (w.alloc (.cells (madeCells #[.int .i64 0, .int .i64 0, .int .i64 0, .int .i64 0, .int .i64 0, .bool false, .slice none 0 0] (n * 7)) t)).rowIs w.heap.size t (n * 7) (wrFill ws γ 0) := by
  refine ⟨_, Go.Deep.blk_alloc_new _ _, size_madeCells _ _, fun i hi => ?_⟩
  have e : wrFill ws γ 0 i = zeroCell i := by unfold wrFill; rw [if_neg (by omega)]
  rw [e]
  have h7 : i % 7 = 0 ∨ i % 7 = 1 ∨ i % 7 = 2 ∨ i % 7 = 3 ∨ i % 7 = 4 ∨ i % 7 = 5 ∨ i % 7 = 6 := by omega
  rcases h7 with h | h | h | h | h | h | h <;> simp [madeCells, zeroCell, hi, h]

abbrev set7 (w : World) (g o : Nat) (x : Wr) (a : Option Addr) (len cap : Nat) : World :=
  ((((((w.setCell ⟨g, o, none⟩ (.int .i64 x.k)).setCell ⟨g, o + 1, none⟩ (.int .i64 x.c)).setCell ⟨g, o + 2, none⟩ (.int .i64 x.s)).setCell ⟨g, o + 3, none⟩ (.int .i64 x.q)).setCell ⟨g, o + 4, none⟩ (.int .i64 x.v)).setCell ⟨g, o + 5, none⟩ (.bool x.de)).setCell ⟨g, o + 6, none⟩ (.slice a len cap)

theorem wrow_step {w : World} {b t n : Nat} {ws : List Wr} {γ : Nat → Nat} {k : Nat} (g : Nat) (h : w.rowIs b t n (wrFill ws γ k)) :
    (set7 w b (k * 7) (ws.getD k wz) (some ⟨g, 0, none⟩) (ws.getD k wz).xs.length (ws.getD k wz).xs.length).rowIs b t n (wrFill ws (upd γ k g) (k + 1)) :=
  (((((((h.set _ _).set _ _).set _ _).set _ _).set _ _).set _ _).set _ _).congr (fun j _ => wrFill_step ws γ k g j)

theorem below_set7 {B : Nat} {a w : World} {g : Nat} (h : Below B a w) (hg : B ≤ g) (o : Nat) (x : Wr) (ad : Option Addr) (len cap : Nat) : Below B a (set7 w g o x ad len cap) :=
  ((((((h.setCell (p := ⟨g, o, none⟩) hg _).setCell (p := ⟨g, o + 1, none⟩) hg _).setCell (p := ⟨g, o + 2, none⟩) hg _).setCell (p := ⟨g, o + 3, none⟩) hg _).setCell (p := ⟨g, o + 4, none⟩) hg _).setCell (p := ⟨g, o + 5, none⟩) hg _).setCell (p := ⟨g, o + 6, none⟩) hg _

theorem HoldsDeps.set7 {w : World} {b o : Nat} {xs : List Dp} (h : HoldsDeps w b o xs) {g : Nat} (hne : g ≠ b) (o' : Nat) (x : Wr) (a : Option Addr) (len cap : Nat) : HoldsDeps (set7 w g o' x a len cap) b o xs :=
  ((((((h.set hne _).set hne _).set hne _).set hne _).set hne _).set hne _).set hne _

theorem infoWr : (Tryd.prog.info? 32).map (fun i => (i.zero, i.size, i.bytes)) = some (some (wrV 0 0 0 0 0 false none 0 0), 7, 72) := by kernel_rfl

/-- The blocks of the dependencies of the first k writes: each of its own, behind block B, holding what is asked. -/
def Rows7 (w : World) (B : Nat) (ws : List Wr) (γ : Nat → Nat) (k : Nat) : Prop :=
  (∀ i, i < k → B < γ i ∧ γ i < w.heap.size ∧ HoldsDeps w (γ i) 0 (ws.getD i wz).xs ∧ ∀ o, w.frozen? ⟨γ i, o, none⟩ = false) ∧ ∀ i j, i < k → j < k → γ i = γ j → i = j

theorem Rows7.below {w w' : World} {B : Nat} {ws : List Wr} {γ : Nat → Nat} {k : Nat} (h : Rows7 w B ws γ k) (hb : Below w.heap.size w w') : Rows7 w' B ws γ k :=
  ⟨fun i hi => ⟨(h.1 i hi).1, Nat.lt_of_lt_of_le (h.1 i hi).2.1 hb.size, (h.1 i hi).2.2.1.below hb (h.1 i hi).2.1, fun o => (hb.frozen (p := ⟨γ i, o, none⟩) (h.1 i hi).2.1).trans ((h.1 i hi).2.2.2 o)⟩, h.2⟩

theorem Rows7.step {w w' : World} {B : Nat} {ws : List Wr} {γ : Nat → Nat} {k g : Nat} (h : Rows7 w B ws γ k) (hb : Below w.heap.size w w') (hB : B < w.heap.size) (hg : w.heap.size ≤ g) (hg' : g < w'.heap.size) (hh : HoldsDeps w' g 0 (ws.getD k wz).xs) (hz : ∀ o, w'.frozen? ⟨g, o, none⟩ = false) (o : Nat) (x : Wr) (a : Option Addr) (len cap : Nat) :
    Rows7 (set7 w' B o x a len cap) B ws (upd γ k g) (k + 1) := by
  have h' := h.below hb
  refine ⟨fun i hi => ?_, fun i j hi hj he => ?_⟩
  · by_cases hik : i = k
    · subst hik
      rw [upd_at]
      exact ⟨by omega, by simpa using hg', hh.set7 (by omega) _ _ _ _ _, fun o' => by simpa using hz o'⟩
    · rw [upd_off γ g hik]
      obtain ⟨h1, h2, h3, h4⟩ := h'.1 i (by omega)
      exact ⟨h1, by simpa using h2, h3.set7 (by omega) _ _ _ _ _, fun o' => by simpa using h4 o'⟩
  · by_cases hik : i = k
    · by_cases hjk : j = k
      · omega
      · rw [hik, upd_at, upd_off γ g hjk] at he
        have := (h.1 j (by omega)).2.1
        omega
    · by_cases hjk : j = k
      · rw [hjk, upd_at, upd_off γ g hik] at he
        have := (h.1 i (by omega)).2.1
        omega
      · rw [upd_off γ g hik, upd_off γ g hjk] at he
        exact h.2 i j (by omega) (by omega) he

/-- Writes of one's own, from block number base on: each row in a block of its own, none of them shut. -/
structure OwnWs (w : World) (base b : Nat) (ws : List Wr) (γ : Nat → Nat) : Prop where
  holds : HoldsWs w b ws γ
  le : base ≤ b
  open_ : ∀ o, w.frozen? ⟨b, o, none⟩ = false
  deps : ∀ i, i < ws.length → base ≤ γ i ∧ γ i ≠ b ∧ ∀ o, w.frozen? ⟨γ i, o, none⟩ = false
  inj : ∀ i j, i < ws.length → j < ws.length → γ i = γ j → i = j

theorem OwnWs.below {w w' : World} {base b : Nat} {ws : List Wr} {γ : Nat → Nat} (h : OwnWs w base b ws γ) (hb : Below w.heap.size w w') : OwnWs w' base b ws γ where
  holds := h.holds.below hb
  le := h.le
  open_ := fun o => (hb.frozen (p := ⟨b, o, none⟩) h.holds.1).trans (h.open_ o)
  deps := fun i hi => ⟨(h.deps i hi).1, (h.deps i hi).2.1, fun o => (hb.frozen (p := ⟨γ i, o, none⟩) (h.holds.2 i hi).2.1).trans ((h.deps i hi).2.2 o)⟩
  inj := h.inj

end Go.Proofs.YtofejfmfbifphahDoor

/- A write's text, read back: plain facts. -/
namespace Go.Proofs.YtofejfmfbifphahDoor
open Go.ChangeShapes Go.WideShapes Go.ChangeAt Go.RowKit Go.Joins

def okR (x : Wr) : Bool := writeOkB x.k x.c x.s x.q x.v x.de x.xs

def textR (x : Wr) : List UInt8 := writeText x.k x.c x.s x.q x.v x.de x.xs

/-- The numbers of a write's text. -/
def nsR (x : Wr) : List Int := headNs x.k x.c x.s x.q x.v x.de x.xs.length ++ x.xs.flatMap depNs

/-- The text of a write that is WriteOk. -/
def IsText (bs : List UInt8) (x : Wr) : Prop := okR x = true ∧ textR x = bs

def Rng (n : Int) : Prop := -100000000000 < n ∧ n < 100000000000

theorem glue_words (ns : List Int) : glue (wordsOf ns) = 119 :: numsText ns ++ [32] := by
  have h : ∀ ns : List Int, (ns.map fun n => str (Lib.itoa n)).flatMap (fun x => x.data.toList ++ [32]) = (numsText ns ++ [32]).drop 1 ∨ ns = [] := by
    intro ns
    induction ns with
    | nil => exact .inr rfl
    | cons n r ih =>
      refine .inl ?_
      rcases ih with ih | rfl
      · cases r with
        | nil => simp [numsText, str]
        | cons m r =>
          rw [List.map_cons, List.flatMap_cons, ih]
          simp [numsText, str]
      · simp [numsText, str]
  unfold glue wordsOf
  rw [List.flatMap_cons]
  rcases h ns with h1 | rfl
  · cases ns with
    | nil => simp [numsText, str]
    | cons n r =>
      rw [h1]
      simp [numsText, str]
  · simp [numsText, str]

theorem text_glue {x : Wr} (h : okR x = true) : glue (wordsOf (nsR x)) = textR x ++ [32] := by
  rw [glue_words]
  unfold textR writeText nsR
  have h' : writeOkB x.k x.c x.s x.q x.v x.de x.xs = true := h
  rw [if_pos h', text_nums]

theorem no_blank_num {n : Int} (h : Rng n) : (32 : UInt8) ∉ Lib.itoa n := by
  obtain ⟨f1, _, _, _, f5, f6⟩ := itoa_parts h.1 h.2
  intro hm
  by_cases hn : n < 0
  · rw [f5 hn] at hm
    rcases List.mem_cons.1 hm with hm | hm
    · exact absurd hm (by decide)
    · exact absurd (f1 32 hm).1 (by decide)
  · rw [← f6 (by omega)] at hm
    exact absurd (f1 32 hm).1 (by decide)

theorem no_blank_words {ns : List Int} (h : ∀ n ∈ ns, Rng n) : NoBlank (wordsOf ns) := fun x hx => by
  unfold wordsOf at hx
  rcases List.mem_cons.1 hx with rfl | hx
  · simp [str]
  · obtain ⟨n, hn, rfl⟩ := List.mem_map.1 hx
    show (32 : UInt8) ∉ (Lib.itoa n).toArray.toList
    rw [List.toList_toArray]
    exact no_blank_num (h n hn)

theorem itoa_inj {m n : Int} (hm : Rng m) (hn : Rng n) (h : Lib.itoa m = Lib.itoa n) : m = n := by
  obtain ⟨f1, f2, _, _, f5, f6⟩ := itoa_parts hm.1 hm.2
  obtain ⟨g1, g2, _, _, g5, g6⟩ := itoa_parts hn.1 hn.2
  rw [h] at f1 f2 f5 f6
  have e : m.natAbs = n.natAbs := by rw [← f2, g2]
  by_cases h1 : m < 0
  · by_cases h2 : n < 0
    · omega
    · have := f5 h1
      rw [g6 (by omega)] at this
      have hl := congrArg List.length this
      simp at hl
  · by_cases h2 : n < 0
    · have := g5 h2
      rw [f6 (by omega)] at this
      have hl := congrArg List.length this
      simp at hl
    · omega

theorem str_inj {a b : List UInt8} (h : str a = str b) : a = b := by
  have := congrArg (fun x : ByteArray => x.data.toList) h
  simpa [str] using this

theorem map_itoa_inj : ∀ {ms ns : List Int}, (∀ n ∈ ms, Rng n) → (∀ n ∈ ns, Rng n) → (ms.map fun n => str (Lib.itoa n)) = (ns.map fun n => str (Lib.itoa n)) → ms = ns
  | [], [], _, _, _ => rfl
  | [], n :: ns, _, _, h => by simp at h
  | m :: ms, [], _, _, h => by simp at h
  | m :: ms, n :: ns, hm, hn, h => by
    simp only [List.map_cons, List.cons.injEq] at h
    rw [itoa_inj (hm m (by simp)) (hn n (by simp)) (str_inj h.1), map_itoa_inj (fun x hx => hm x (by simp [hx])) (fun x hx => hn x (by simp [hx])) h.2]

theorem words_are {bs : List UInt8} {x : Wr} {W : List ByteArray} (hx : IsText bs x) (hr : ∀ n ∈ nsR x, Rng n) (hW : NoBlank W) (hg : glue W = bs ++ [32]) : W = wordsOf (nsR x) := by
  refine glue_inj hW (no_blank_words hr) ?_
  rw [text_glue hx.1, hx.2, hg]

/-- Dependencies out of numbers. -/
def parseD : List Int → List Dp
  | k :: c :: s :: q :: r => ⟨k, c, s, q⟩ :: parseD r
  | _ => []

theorem parseD_back : ∀ xs : List Dp, parseD (xs.flatMap depNs) = xs
  | [] => rfl
  | d :: r => by
    show (⟨d.k, d.c, d.s, d.q⟩ : Dp) :: parseD (r.flatMap depNs) = d :: r
    rw [parseD_back r]

/-- The write that numbers say. -/
def parseW (zs : List Int) : Wr := ⟨zs.getD 0 0, zs.getD 1 0, zs.getD 2 0, zs.getD 3 0, zs.getD 4 0, zs.getD 5 0 == 1, parseD (zs.drop 7)⟩

theorem parse_back (x : Wr) : parseW (nsR x) = x := by
  obtain ⟨k, c, s, q, v, de, xs⟩ := x
  unfold parseW nsR headNs
  simp only [List.cons_append, List.nil_append, List.drop_succ_cons, List.drop_zero, parseD_back]
  simp only [List.getD_cons_zero, List.getD_cons_succ]
  congr 1
  cases de <;> rfl

theorem ns_len (x : Wr) : (nsR x).length = 7 + 4 * x.xs.length := by
  have h : ∀ xs : List Dp, (xs.flatMap depNs).length = 4 * xs.length := by
    intro xs
    induction xs with
    | nil => rfl
    | cons d r ih =>
      rw [List.flatMap_cons, List.length_append, ih]
      simp [depNs]
      omega
  unfold nsR
  rw [List.length_append, h]
  simp [headNs]

end Go.Proofs.YtofejfmfbifphahDoor

/- A write's text, read back: what a reader that reads word by word knows. -/
namespace Go.Proofs.YtofejfmfbifphahDoor
open Go.ChangeShapes Go.WideShapes Go.ChangeAt Go.RowKit Go.Joins

theorem depKey_ge {xs : List Dp} (h : depsOkB xs = true) : ∀ i, i < xs.length → (i : Int) ≤ (xs.getD i dz).k
  | 0, hi => by
    have := btw_bounds (dep_key h hi)
    simpa using this.1
  | i + 1, hi => by
    have ih := depKey_ge h i (by omega)
    unfold depsOkB at h
    have := List.all_eq_true.1 h (i + 1) (List.mem_range.2 hi)
    simp only [depGood, Bool.and_eq_true, decide_eq_true_eq] at this
    rcases this.2.2 with h1 | h1
    · omega
    · simp only [Nat.add_sub_cancel] at h1
      omega

theorem depR_len {xs : List Dp} (h : depsOkB xs = true) : xs.length ≤ 6 := by
  by_cases h0 : xs.length = 0
  · omega
  · have h1 := depKey_ge h (xs.length - 1) (by omega)
    have h2 := btw_bounds (dep_key h (show xs.length - 1 < xs.length by omega))
    omega

def Sml (n : Int) : Prop := -1000000 ≤ n ∧ n ≤ 1000000

theorem sml_of {n lo hi : Int} (h : btw n lo hi = true) (h0 : -1000000 ≤ lo) (h1 : hi ≤ 1000000) : Sml n := by
  have := btw_bounds h
  exact ⟨by omega, by omega⟩

theorem sml_tag {c s q : Int} (h : tagOkB c s q = true) : Sml c ∧ Sml s ∧ Sml q := by
  unfold tagOkB at h
  simp only [Bool.and_eq_true] at h
  exact ⟨sml_of h.1 (by omega) (by omega), sml_of h.2.1 (by omega) (by omega), sml_of h.2.2 (by omega) (by omega)⟩

theorem sml_ns {x : Wr} (h : okR x = true) : ∀ n ∈ nsR x, Sml n := by
  obtain ⟨k, c, s, q, v, de, xs⟩ := x
  obtain ⟨o1, o2, o3, o4, -⟩ := ok_parts h
  obtain ⟨t1, t2, t3⟩ := sml_tag o2
  have hl := depR_len o4
  simp only at hl
  intro n hn
  unfold nsR headNs at hn
  rcases List.mem_append.1 hn with hn | hn
  · simp only [List.mem_cons, List.not_mem_nil, or_false] at hn
    rcases hn with rfl | rfl | rfl | rfl | rfl | rfl | rfl
    · exact sml_of o1 (by omega) (by omega)
    · exact t1
    · exact t2
    · exact t3
    · exact sml_of (val_btw o3) (by omega) (by omega)
    · cases de <;> exact ⟨by decide, by decide⟩
    · exact ⟨by omega, by omega⟩
  · obtain ⟨d, hd, hn⟩ := List.mem_flatMap.1 hn
    obtain ⟨i, hi, rfl⟩ := List.mem_iff_getElem.1 hd
    have e : xs.getD i dz = xs[i] := by simp [List.getD, hi]
    have h1 := dep_key o4 hi
    have h2 := depsOk_tag o4 hi
    rw [e] at h1 h2
    obtain ⟨u1, u2, u3⟩ := sml_tag h2
    unfold depNs at hn
    simp only [List.mem_cons, List.not_mem_nil, or_false] at hn
    rcases hn with rfl | rfl | rfl | rfl
    · exact sml_of h1 (by omega) (by omega)
    · exact u1
    · exact u2
    · exact u3

theorem rng_ns {x : Wr} (h : okR x = true) : ∀ n ∈ nsR x, Rng n := fun n hn => by
  have := sml_ns h n hn
  exact ⟨by have := this.1; omega, by have := this.2; omega⟩

theorem itoa_short {n : Int} (h : Sml n) : (Lib.itoa n).length ≤ 8 := by
  obtain ⟨h0, h1⟩ := h
  have hu : n.natAbs < 10 ^ (6 + 1) := by
    have : (10 : Nat) ^ (6 + 1) = 10000000 := by decide
    omega
  have h2 := (dec_facts 6 n.natAbs hu).2.2.2
  unfold Lib.itoa
  split
  · simp
    omega
  · have e : n.toNat = n.natAbs := by omega
    rw [e]
    omega

theorem nums_short : ∀ {ns : List Int}, (∀ n ∈ ns, Sml n) → (numsText ns).length ≤ 9 * ns.length
  | [], _ => by simp [numsText]
  | n :: r, h => by
    have h1 := itoa_short (h n (by simp))
    have h2 := nums_short (ns := r) fun m hm => h m (by simp [hm])
    have e : numsText (n :: r) = (32 :: Lib.itoa n) ++ numsText r := by simp [numsText]
    rw [e, List.length_append, List.length_cons, List.length_cons]
    omega

/-- A word that is no numeral: the text is no write's. -/
theorem read_word {bs : List UInt8} {W : List ByteArray} (hW : NoBlank W) (hg : glue W = bs ++ [32]) {j : Nat} {y : ByteArray} (hj : W[j + 1]? = some y) {n : Int} (hs : NumSays y n false) (x : Wr) : ¬ IsText bs x := fun hx => by
  have hr := rng_ns hx.1
  have e := words_are hx hr hW hg
  rw [e] at hj
  simp only [wordsOf, List.getElem?_cons_succ, List.getElem?_map, Option.map_eq_some_iff] at hj
  obtain ⟨m, hm, rfl⟩ := hj
  have hmr := hr m (List.mem_of_getElem? hm)
  have := hs.2.2.2 m hmr.1 hmr.2 (by simp [str])
  simp at this

/-- All words are numerals: they are those of the write. -/
theorem read_all {bs : List UInt8} {W : List ByteArray} (hW : NoBlank W) (hg : glue W = bs ++ [32]) {zs : List Int} (hz : W.drop 1 = zs.map fun n => str (Lib.itoa n)) (hr : ∀ n ∈ zs, Rng n) {x : Wr} (hx : IsText bs x) : zs = nsR x := by
  have hr' := rng_ns hx.1
  have e := words_are hx hr' hW hg
  rw [e] at hz
  simp only [wordsOf, List.drop_succ_cons, List.drop_zero] at hz
  exact (map_itoa_inj hr' hr hz).symm

/-- Too few numbers, or not so many as dependencies ask: the text is no write's. -/
theorem read_count {bs : List UInt8} {W : List ByteArray} (hW : NoBlank W) (hg : glue W = bs ++ [32]) {zs : List Int} (hz : W.drop 1 = zs.map fun n => str (Lib.itoa n)) (hr : ∀ n ∈ zs, Rng n) (hc : zs.length < 7 ∨ zs.length % 4 ≠ 3) (x : Wr) : ¬ IsText bs x := fun hx => by
  have := read_all hW hg hz hr hx
  have hl := ns_len x
  rw [← this] at hl
  omega

/-- The write that the numbers say has another text: the text is no write's. -/
theorem read_other {bs : List UInt8} {W : List ByteArray} (hW : NoBlank W) (hg : glue W = bs ++ [32]) {zs : List Int} (hz : W.drop 1 = zs.map fun n => str (Lib.itoa n)) (hr : ∀ n ∈ zs, Rng n) (ho : textR (parseW zs) ≠ bs) (x : Wr) : ¬ IsText bs x := fun hx => by
  have := read_all hW hg hz hr hx
  rw [this, parse_back] at ho
  exact ho hx.2

theorem read_yes {bs : List UInt8} {x : Wr} (h : textR x = bs) (h0 : bs ≠ []) : IsText bs x := by
  refine ⟨?_, h⟩
  cases ho : okR x
  · exfalso
    unfold textR writeText at h
    have ho' : writeOkB x.k x.c x.s x.q x.v x.de x.xs = false := ho
    rw [ho'] at h
    exact h0 (by simpa using h.symm)
  · rfl

theorem text_is_one {bs : List UInt8} {x y : Wr} (hx : IsText bs x) (hy : IsText bs y) : x = y := by
  have e := words_are (W := wordsOf (nsR y)) hx (rng_ns hx.1) (no_blank_words (rng_ns hy.1)) (by rw [text_glue hy.1, hy.2])
  have h2 := map_itoa_inj (rng_ns hy.1) (rng_ns hx.1) (by simpa [wordsOf] using e)
  rw [← parse_back x, ← parse_back y, h2]

/-- A text of more than 400 bytes is no write's. -/
theorem text_len {bs : List UInt8} {x : Wr} (hx : IsText bs x) : bs.length ≤ 400 := by
  have h1 := nums_short (sml_ns hx.1)
  have h2 := ns_len x
  have h3 : x.xs.length ≤ 6 := depR_len (ok_parts hx.1).2.2.2.1
  have h4 := text_glue hx.1
  rw [glue_words, hx.2] at h4
  have h5 := congrArg List.length h4
  simp at h5
  omega

end Go.Proofs.YtofejfmfbifphahDoor

/- The contract of spec.l01Words at the blank: the walk. -/
namespace Go.Proofs.YtofejfmfbifphahDoor
open Go.ChangeShapes Go.WideShapes Go.ChangeAt Go.RowKit Go.Joins

set_option maxRecDepth 100000 in
set_option maxHeartbeats 8000000 in
theorem words_any (s : ByteArray) (w : World) (hs : s.size ≤ 1048576) :
    Calls Tryd.prog 29 #[.string s, .int .u8 32] w fun e w' => ∃ g cp W, e = .returned (.slice (some ⟨g, 0, none⟩) W.length cp) ∧ W.length ≤ s.size + 1 ∧ NoBlank W ∧ glue W = s.data.toList ++ [32] ∧ StrRow w' w.heap.size g cp W ∧ Below w.heap.size w w' := by
  obtain ⟨i0, hi0, hx0⟩ := Option.map_eq_some_iff.1 infoString
  simp only [Prod.mk.injEq] at hx0
  have HI0 := Lib.hid hi0
  have HX0 := Lib.hid hx0
  clear hi0 hx0
  have hdl : s.data.toList.length = s.size := by simp
  have HDL := Lib.hid hdl
  clear hdl
  go_enter Tryd.func29, Tryd.ntmps29
  go_wp2
  go_loopw [5, 6, 7] (fun o f i wr => ∃ (k fr L g cp : Nat) (W : List ByteArray), k ≤ s.size + 1 ∧ i = .int .i64 k ∧ f = .int .i64 fr ∧ o = .slice (some ⟨g, 0, none⟩) L cp ∧ L ≤ k ∧ Hid (W.length = L) ∧ Hid (SplitTo s.data.toList k fr W) ∧ Hid (StrRow wr w.heap.size g cp W) ∧ Hid (Below w.heap.size w wr)) (fun _ _ i _ => s.size + 1 - (intOf i).toNat)
  case atStart => exact ⟨0, 0, 0, w.heap.size, 0, [], Nat.zero_le _, rfl, rfl, rfl, Nat.le_refl _, rfl, ⟨fun x hx => by simp at hx, .inl ⟨Nat.zero_le _, Nat.le_refl _, rfl, by simp⟩⟩, ⟨Nat.le_refl _, by simp, World.ownsRow_made w #[] 0 (Nat.le_refl _) (by simp [maxLen]) (by simp)⟩, (Below.refl _ _).alloc (Nat.le_refl _) _⟩
  case round =>
    obtain ⟨k, fr, L, g, cp, W, hk, rfl, rfl, rfl, hLk, HL, HS, HR, HB⟩ := hrel
    by_cases hk1 : k ≤ s.size
    · have hfr : fr ≤ k := split_from HS.out (by rw [HDL.out]; exact hk1)
      have j1 : (0 : Int) ≤ (fr : Int) := by omega
      have j2 : (fr : Int) ≤ (k : Int) := by omega
      have j3 : (k : Int) ≤ (s.size : Int) := by omega
      by_cases hk2 : k < s.size
      · have i1 : (0 : Int) ≤ (k : Int) := by omega
        have i2 : (k : Int) < (s.size : Int) := by omega
        have i3 : ¬ (k : Int) = (s.size : Int) := by omega
        have i4 : ((k : Int) == (s.size : Int)) = false := by simp; omega
        by_cases hb : s[k] = 32
        · have i5 : ((s[k].toNat : Int) == 32) = true := by
            rw [hb]
            rfl
          have HS8 := Lib.hid (split_word HS.out hk2 hb)
          clear HS hb
          have HBA : Hid (Below wr.heap.size wr (wr.alloc (.cells #[.string (s.extract fr k)] 9))) := (Below.refl _ _).alloc (Nat.le_refl _) _
          have HOW : Hid ((wr.alloc (.cells #[.string (s.extract fr k)] 9)).ownsRow w.heap.size 9 1 (.slice (some ⟨g, 0, none⟩) L cp) L (W.map Value.string)) := by
            have := (HR.out.below HBA.out).own
            rw [HL.out] at this
            exact this
          have hsz : w.heap.size ≤ wr.heap.size := HB.out.size
          go_wp2_with (at_builtin; refine wpList_append_lies _ (by rfl) _ _ _ (by rfl) w.heap.size 9 i0 (.string ⟨#[]⟩) 1 16 Tryd.underlying52 HI0.out HX0.out.1 HX0.out.2.1 HX0.out.2.2 (by rfl) (by omega) (.slice (some ⟨g, 0, none⟩) L cp) L (W.map Value.string) (by rfl) HOW.out ⟨wr.heap.size, 0, none⟩ 1 1 [.string (s.extract fr k)] (by rfl) (by rfl) (World.news_of_block (cs := #[.string (s.extract fr k)]) (t := 9) (fr := (0, 0)) (heap_alloc_new wr _)) (by simp [Value.oneCell']) (by omega) (by unfold maxLen; omega) (by omega) (by simp; omega) _ rfl ?_; intro g3 cp3 W5 hown hgrow hg3 _; refine Hid.out ?_)
          refine Lib.hid ?_
          have HL8 : Hid ((W ++ [s.extract fr k]).length = L + 1) := by
            rw [List.length_append, HL.out]
            exact Lib.hid rfl
          have HR8 : Hid (StrRow W5 w.heap.size g3 cp3 (W ++ [s.extract fr k])) := by
            refine ⟨(hown.lt g3 rfl).1, (hown.lt g3 rfl).2, ?_⟩
            rw [HL8.out, List.map_append]
            exact hown
          have hgw : w.heap.size ≤ g := HR.out.le
          have HB8 : Hid (Below w.heap.size w W5) := (HB.out.alloc hsz _).grown hgrow (by simp; omega) (fun j hj => by
            simp only [Value.ownBlock, Option.some.injEq] at hj
            omega)
          clear hown hgrow HBA HOW HL HR HB
          go_wp2
          exact ⟨⟨k + 1, k + 1, L + 1, g3, cp3, _, by omega, by go_num, by go_num, rfl, by omega, HL8, HS8, HR8, HB8⟩, by simp [intOf]; omega⟩
        · have i5 : ((s[k].toNat : Int) == 32) = false := by
            simp only [beq_eq_false_iff_ne]
            intro h
            exact hb (UInt8.toNat_inj.1 (by have : s[k].toNat = 32 := by omega
                                            rw [this]; rfl))
          have HS8 := Lib.hid (split_go HS.out hk2 hb)
          clear HS hb
          go_wp2
          exact ⟨⟨k + 1, fr, L, g, cp, W, by omega, by go_num, rfl, rfl, by omega, HL, HS8, HR, HB⟩, by simp [intOf]; omega⟩
      · have hke : k = s.size := by omega
        subst hke
        have HS8 := Lib.hid (split_last HS.out)
        clear HS hk1 hk2 j3
        have HBA : Hid (Below wr.heap.size wr (wr.alloc (.cells #[.string (s.extract fr s.size)] 9))) := (Below.refl _ _).alloc (Nat.le_refl _) _
        have HOW : Hid ((wr.alloc (.cells #[.string (s.extract fr s.size)] 9)).ownsRow w.heap.size 9 1 (.slice (some ⟨g, 0, none⟩) L cp) L (W.map Value.string)) := by
          have := (HR.out.below HBA.out).own
          rw [HL.out] at this
          exact this
        have hsz : w.heap.size ≤ wr.heap.size := HB.out.size
        go_wp2_with (at_builtin; refine wpList_append_lies _ (by rfl) _ _ _ (by rfl) w.heap.size 9 i0 (.string ⟨#[]⟩) 1 16 Tryd.underlying52 HI0.out HX0.out.1 HX0.out.2.1 HX0.out.2.2 (by rfl) (by omega) (.slice (some ⟨g, 0, none⟩) L cp) L (W.map Value.string) (by rfl) HOW.out ⟨wr.heap.size, 0, none⟩ 1 1 [.string (s.extract fr s.size)] (by rfl) (by rfl) (World.news_of_block (cs := #[.string (s.extract fr s.size)]) (t := 9) (fr := (0, 0)) (heap_alloc_new wr _)) (by simp [Value.oneCell']) (by omega) (by unfold maxLen; omega) (by omega) (by simp; omega) _ rfl ?_; intro g3 cp3 W5 hown hgrow hg3 _; refine Hid.out ?_)
        refine Lib.hid ?_
        have HL8 : Hid ((W ++ [s.extract fr s.size]).length = L + 1) := by
          rw [List.length_append, HL.out]
          exact Lib.hid rfl
        have HR8 : Hid (StrRow W5 w.heap.size g3 cp3 (W ++ [s.extract fr s.size])) := by
          refine ⟨(hown.lt g3 rfl).1, (hown.lt g3 rfl).2, ?_⟩
          rw [HL8.out, List.map_append]
          exact hown
        have hgw : w.heap.size ≤ g := HR.out.le
        have HB8 : Hid (Below w.heap.size w W5) := (HB.out.alloc hsz _).grown hgrow (by simp; omega) (fun j hj => by
          simp only [Value.ownBlock, Option.some.injEq] at hj
          omega)
        clear hown hgrow HBA HOW HL HR HB
        go_wp2
        exact ⟨⟨s.size + 1, s.size + 1, L + 1, g3, cp3, _, by omega, by go_num, by go_num, rfl, by omega, HL8, HS8, HR8, HB8⟩, by simp [intOf]⟩
    · have hke : k = s.size + 1 := by omega
      subst hke
      obtain ⟨hnb, hgl⟩ : NoBlank W ∧ glue W = s.data.toList ++ [32] := by
        obtain ⟨h1, ⟨h2, _⟩ | ⟨_, h3⟩⟩ := HS.out
        · have := HDL.out
          omega
        · exact ⟨h1, h3⟩
      have HNB := Lib.hid hnb
      have HGL := Lib.hid hgl
      have j4 : ¬ ((s.size + 1 : Nat) : Int) ≤ (s.size : Int) := by omega
      clear hnb hgl HS
      go_wp2
      go_ret
      exact ⟨g, cp, W, by rw [HL.out]; rfl, by rw [HL.out]; exact hLk, HNB.out, HGL.out, HR.out, HB.out⟩

end Go.Proofs.YtofejfmfbifphahDoor

/- The cursor of the drawn inputs: its place in memory, and the contracts of l01Open, pick, once. -/
namespace Go.Proofs.YtofejfmfbifphahDoor
open Go.ChangeShapes Go.WideShapes Go.ChangeAt Go.RowKit Go.Joins

/-- Nothing that was there has turned, but for the one block B. -/
structure Hole (B : Nat) (w w' : World) : Prop where
  os : w'.os = w.os
  tape : w'.tape = w.tape
  output : w'.output = w.output
  size : w.heap.size ≤ w'.heap.size
  block : ∀ k, k < w.heap.size → k ≠ B → w'.heap[k]? = w.heap[k]?

theorem Hole.refl (B : Nat) (w : World) : Hole B w w := ⟨rfl, rfl, rfl, Nat.le_refl _, fun _ _ _ => rfl⟩

theorem Hole.trans {B : Nat} {a b c : World} (h : Hole B a b) (k : Hole B b c) : Hole B a c :=
  ⟨k.os.trans h.os, k.tape.trans h.tape, k.output.trans h.output, Nat.le_trans h.size k.size, fun i hi hn => (k.block i (Nat.lt_of_lt_of_le hi h.size) hn).trans (h.block i hi hn)⟩

theorem Hole.of_below {B : Nat} {w w' : World} (h : Below w.heap.size w w') : Hole B w w' := ⟨h.os, h.tape, h.output, h.size, fun k hk _ => h.block k hk⟩

theorem Hole.drew {B : Nat} {w w' : World} (h : Hole B w w') : Hole B w w'.drew := ⟨h.os, h.tape, h.output, h.size, h.block⟩

theorem Hole.drewN {B : Nat} {w w' : World} (h : Hole B w w') (n : Nat) : Hole B w (w'.drewN n) := h.trans (Hole.of_below (below_drewN (Below.refl _ _) n))

theorem Hole.alloc {B : Nat} {w w' : World} (h : Hole B w w') (o : Obj) : Hole B w (w'.alloc o) := h.trans (Hole.of_below ((Below.refl _ _).alloc (Nat.le_refl _) o))

theorem Hole.set {B : Nat} {w w' : World} (h : Hole B w w') (o : Nat) (v : Value) : Hole B w (w'.setCell ⟨B, o, none⟩ v) :=
  h.trans ⟨rfl, rfl, rfl, by simp [World.setCell], fun k _ hn => Below.heap_setCell _ _ _ _ hn⟩

theorem Hole.cell {B : Nat} {w w' : World} (h : Hole B w w') {b o : Nat} (hb : b < w.heap.size) (hn : b ≠ B) : w'.cell? ⟨b, o, none⟩ = w.cell? ⟨b, o, none⟩ := World.cell?_of_block (w := w) (h.block b hb hn)

theorem Hole.frozen {B : Nat} {w w' : World} (h : Hole B w w') {b o : Nat} (hb : b < w.heap.size) (hn : b ≠ B) : w'.frozen? ⟨b, o, none⟩ = w.frozen? ⟨b, o, none⟩ := World.frozen?_of_block (w := w) (h.block b hb hn)

theorem Hole.below {B c : Nat} {w0 w w' : World} (h0 : Below c w0 w) (h : Hole B w w') (hB : c ≤ B) (hc : c ≤ w.heap.size) : Below c w0 w' :=
  h0.trans ⟨h.os, h.tape, h.output, h.size, fun k hk => h.block k (by omega) (by omega)⟩

structure CurAt (w : World) (B : Nat) (a : Option Addr) (len cap : Nat) (at_ seed : Int) : Prop where
  lt : B < w.heap.size
  c0 : w.cell? ⟨B, 0, none⟩ = some (.slice a len cap)
  c1 : w.cell? ⟨B, 1, none⟩ = some (.int .i64 at_)
  c2 : w.cell? ⟨B, 2, none⟩ = some (.int .i64 seed)
  fz : ∀ o, w.frozen? ⟨B, o, none⟩ = false
  p0 : 0 ≤ at_
  s0 : 0 ≤ seed
  s1 : seed ≤ 65520

/-- The code's bytes, in a block that is not the cursor's. -/
def CodeAt (w : World) (B : Nat) (a : Option Addr) (len : Nat) : Prop :=
  len = 0 ∨ ∃ b o, a = some ⟨b, o, none⟩ ∧ b < B ∧ ∀ i, i < len → ∃ z : Int, 0 ≤ z ∧ z ≤ 255 ∧ w.cell? ⟨b, o + i, none⟩ = some (.int .u8 z)

theorem CodeAt.hole {w w' : World} {B : Nat} {a : Option Addr} {len : Nat} (h : CodeAt w B a len) (hB : B < w.heap.size) (hh : Hole B w w') : CodeAt w' B a len := by
  rcases h with h | ⟨b, o, ha, hb, hz⟩
  · exact .inl h
  · refine .inr ⟨b, o, ha, hb, fun i hi => ?_⟩
    obtain ⟨z, z0, z1, hc⟩ := hz i hi
    exact ⟨z, z0, z1, (hh.cell (by omega) (by omega)).trans hc⟩

/-- The cursor stands at most N bytes on. -/
def Cur (w : World) (B : Nat) (a : Option Addr) (len cap : Nat) (N : Int) : Prop := ∃ at_ seed, CurAt w B a len cap at_ seed ∧ at_ ≤ N ∧ CodeAt w B a len ∧ len ≤ 1048576

theorem Cur.below {w w' : World} {B : Nat} {a : Option Addr} {len cap : Nat} {N : Int} (h : Cur w B a len cap N) (hb : Below w.heap.size w w') : Cur w' B a len cap N := by
  obtain ⟨at_, seed, hc, hN, hk, hl⟩ := h
  refine ⟨at_, seed, ⟨Nat.lt_of_lt_of_le hc.lt hb.size, held_cell hb hc.c0 hc.lt, held_cell hb hc.c1 hc.lt, held_cell hb hc.c2 hc.lt, fun o => (hb.frozen (p := ⟨B, o, none⟩) hc.lt).trans (hc.fz o), hc.p0, hc.s0, hc.s1⟩, hN, hk.hole hc.lt (Hole.of_below hb), hl⟩

theorem Cur.more {w : World} {B : Nat} {a : Option Addr} {len cap : Nat} {N M : Int} (h : Cur w B a len cap N) (hM : N ≤ M) : Cur w B a len cap M := by
  obtain ⟨at_, seed, hc, hN, hk⟩ := h
  exact ⟨at_, seed, hc, Int.le_trans hN hM, hk⟩

theorem Cur.lt {w : World} {B : Nat} {a : Option Addr} {len cap : Nat} {N : Int} (h : Cur w B a len cap N) : B < w.heap.size := by
  obtain ⟨_, _, hc, _⟩ := h
  exact hc.lt

theorem mod_lt {x n : Int} (hn : 2 ≤ n) : 0 ≤ x % n ∧ x % n < n := ⟨Int.emod_nonneg _ (by omega), Int.emod_lt_of_pos _ (by omega)⟩

theorem cell_set_same {w : World} {B o : Nat} {u v : Value} (h : w.cell? ⟨B, o, none⟩ = some u) : (w.setCell ⟨B, o, none⟩ v).cell? ⟨B, o, none⟩ = some v := World.cell?_setCell_same _ _ _ h

theorem cell_set_off {w : World} {B o o' : Nat} {u v : Value} (h : w.cell? ⟨B, o', none⟩ = some u) (hn : o ≠ o') : (w.setCell ⟨B, o, none⟩ v).cell? ⟨B, o', none⟩ = some u :=
  (World.cell?_setCell_other _ _ _ _ (fun e => hn (by injection e))).trans h

theorem cur_set1 {w : World} {B : Nat} {a : Option Addr} {len cap : Nat} {at_ seed p : Int} (h : CurAt w B a len cap at_ seed) (hp : 0 ≤ p) : CurAt (w.setCell ⟨B, 1, none⟩ (.int .i64 p)) B a len cap p seed :=
  ⟨by simpa [World.setCell] using h.lt, cell_set_off h.c0 (by omega), cell_set_same h.c1, cell_set_off h.c2 (by omega), fun o => by rw [World.frozen?_setCell]; exact h.fz o, hp, h.s0, h.s1⟩

theorem cur_set2 {w : World} {B : Nat} {a : Option Addr} {len cap : Nat} {at_ seed p : Int} (h : CurAt w B a len cap at_ seed) (hp : 0 ≤ p) (hq : p ≤ 65520) : CurAt (w.setCell ⟨B, 2, none⟩ (.int .i64 p)) B a len cap at_ p :=
  ⟨by simpa [World.setCell] using h.lt, cell_set_off h.c0 (by omega), cell_set_off h.c1 (by omega), cell_set_same h.c2, fun o => by rw [World.frozen?_setCell]; exact h.fz o, h.p0, hp, hq⟩

theorem cur_drewN {w : World} {B : Nat} {a : Option Addr} {len cap : Nat} {at_ seed : Int} (h : CurAt w B a len cap at_ seed) (n : Nat) : CurAt (w.drewN n) B a len cap at_ seed := by
  have hb : Below w.heap.size w (w.drewN n) := below_drewN (Below.refl _ _) n
  exact ⟨Nat.lt_of_lt_of_le h.lt hb.size, held_cell hb h.c0 h.lt, held_cell hb h.c1 h.lt, held_cell hb h.c2 h.lt, fun o => (hb.frozen (p := ⟨B, o, none⟩) h.lt).trans (h.fz o), h.p0, h.s0, h.s1⟩

theorem Hole.setNew {B R : Nat} {w w' : World} (h : Hole B w w') (hR : w.heap.size ≤ R) (o : Nat) (v : Value) : Hole B w (w'.setCell ⟨R, o, none⟩ v) :=
  ⟨h.os, h.tape, h.output, by simpa [World.setCell] using h.size, fun k hk hn => (Below.heap_setCell _ _ _ _ (by show k ≠ R; omega)).trans (h.block k hk hn)⟩

theorem Cur.setOther {w : World} {B R : Nat} {a : Option Addr} {len cap : Nat} {N : Int} (h : Cur w B a len cap N) (hR : B < R) (o : Nat) (v : Value) : Cur (w.setCell ⟨R, o, none⟩ v) B a len cap N := by
  obtain ⟨at_, seed, hc, hN, hk, hl⟩ := h
  have hne : ∀ b o', b < R → (Addr.mk R o none) ≠ ⟨b, o', none⟩ := fun b o' hb e => by
    have : R = b := by injection e
    omega
  refine ⟨at_, seed, ⟨by simpa [World.setCell] using hc.lt, (World.cell?_setCell_other _ _ _ _ (hne _ _ hR)).trans hc.c0, (World.cell?_setCell_other _ _ _ _ (hne _ _ hR)).trans hc.c1, (World.cell?_setCell_other _ _ _ _ (hne _ _ hR)).trans hc.c2, fun o => by rw [World.frozen?_setCell]; exact hc.fz o, hc.p0, hc.s0, hc.s1⟩, hN, ?_, hl⟩
  rcases hk with h0 | ⟨b, o', ha, hb, hz⟩
  · exact .inl h0
  · refine .inr ⟨b, o', ha, hb, fun i hi => ?_⟩
    obtain ⟨z, z0, z1, hcz⟩ := hz i hi
    exact ⟨z, z0, z1, (World.cell?_setCell_other _ _ _ _ (hne _ _ (by omega))).trans hcz⟩

/-- A tag in a block of its own. -/
structure TagBox (w : World) (b : Nat) (c s q : Int) : Prop where
  lt : b < w.heap.size
  c0 : w.cell? ⟨b, 0, none⟩ = some (.int .i64 c)
  c1 : w.cell? ⟨b, 1, none⟩ = some (.int .i64 s)
  c2 : w.cell? ⟨b, 2, none⟩ = some (.int .i64 q)
  fz : ∀ o, w.frozen? ⟨b, o, none⟩ = false

theorem TagBox.start (w : World) (c s q : Int) (t : Nat) : TagBox (w.alloc (.cells #[.int .i64 c, .int .i64 s, .int .i64 q] t)) w.heap.size c s q :=
  ⟨by simp, by simp [go_sem], by simp [go_sem], by simp [go_sem], fun o => by simp [go_sem]⟩

theorem TagBox.hole {w w' : World} {B b : Nat} {c s q : Int} (h : TagBox w b c s q) (hh : Hole B w w') (hn : b ≠ B) : TagBox w' b c s q :=
  ⟨Nat.lt_of_lt_of_le h.lt hh.size, (hh.cell h.lt hn).trans h.c0, (hh.cell h.lt hn).trans h.c1, (hh.cell h.lt hn).trans h.c2, fun o => (hh.frozen h.lt hn).trans (h.fz o)⟩

theorem ints_cell (w : World) (l : List Int) (t i : Nat) (hi : i < l.length) : (w.alloc (.cells (l.map (Value.int .i64)).toArray t)).cell? ⟨w.heap.size, i, none⟩ = some (.int .i64 (l.getD i 0)) := by
  simp [go_sem, List.getD, hi]

end Go.Proofs.YtofejfmfbifphahDoor
