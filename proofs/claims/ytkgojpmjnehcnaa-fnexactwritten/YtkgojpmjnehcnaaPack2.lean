import Derived.Test.YtkgojpmjnehcnaaPack1
import Derived.Lib.Hide
import Derived.Lib.RabinKarpLaws
import Derived.Maps.OwnSet
import Derived.DeepKeys4
import Derived.Deep.AppendLies
import Derived.Laws.OwnMore
/- Lists of writes in memory; the contracts of szWriteS, toWriteS, eqWriteS. -/
namespace Go.Proofs.Ytkgojpmjnehcnaa
open Go.ChangeShapes Go.WideShapes Go.ChangeAt Go.RowKit Go.Joins
attribute [local go_sem ↓] Go.wp_at_zero Go.wp_at_succ

structure Wr where
  k : Int
  c : Int
  s : Int
  q : Int
  v : Int
  de : Bool
  xs : List Dp

def wz : Wr := ⟨0, 0, 0, 0, 0, false, []⟩

/-- A write's cells from place o of block b on, its dependencies at a. -/
def WrAt (w : World) (b o : Nat) (x : Wr) (a : Option Addr) (cap : Nat) : Prop :=
  w.cell? ⟨b, o, none⟩ = some (.int .i64 x.k) ∧ w.cell? ⟨b, o + 1, none⟩ = some (.int .i64 x.c) ∧ w.cell? ⟨b, o + 2, none⟩ = some (.int .i64 x.s) ∧ w.cell? ⟨b, o + 3, none⟩ = some (.int .i64 x.q) ∧
  w.cell? ⟨b, o + 4, none⟩ = some (.int .i64 x.v) ∧ w.cell? ⟨b, o + 5, none⟩ = some (.bool x.de) ∧ w.cell? ⟨b, o + 6, none⟩ = some (.slice a x.xs.length cap)

theorem WrAt.of_block {w w' : World} {b o : Nat} {x : Wr} {a : Option Addr} {cap : Nat} (h : WrAt w b o x a cap) (hb : w'.heap[b]? = w.heap[b]?) : WrAt w' b o x a cap := by
  obtain ⟨h0, h1, h2, h3, h4, h5, h6⟩ := h
  have e : ∀ i, w'.cell? ⟨b, i, none⟩ = w.cell? ⟨b, i, none⟩ := fun i => World.cell?_of_block (a := ⟨b, i, none⟩) hb
  exact ⟨(e _).trans h0, (e _).trans h1, (e _).trans h2, (e _).trans h3, (e _).trans h4, (e _).trans h5, (e _).trans h6⟩

/-- What a slice of writes leads to, wherever its writes' dependencies lie. -/
def IsWs (w : World) (a : Option Addr) (ws : List Wr) : Prop :=
  ws = [] ∨ ∃ b o, a = some ⟨b, o, none⟩ ∧ b < w.heap.size ∧ ∀ i, i < ws.length → ∃ a' cap, WrAt w b (o + i * 7) (ws.getD i wz) a' cap ∧ (ws.getD i wz).xs.length ≤ maxLen ∧ IsDeps w a' (ws.getD i wz).xs

theorem IsWs.below {w w' : World} {a : Option Addr} {ws : List Wr} (h : IsWs w a ws) (hb : Below w.heap.size w w') : IsWs w' a ws := by
  rcases h with h | ⟨b, o, ha, hlt, hh⟩
  · exact .inl h
  · refine .inr ⟨b, o, ha, Nat.lt_of_lt_of_le hlt hb.size, fun i hi => ?_⟩
    obtain ⟨a', cap, h1, h2, h3⟩ := hh i hi
    exact ⟨a', cap, h1.of_block (hb.block _ hlt), h2, h3.below hb⟩

/-- A row of writes from block b's begin on, write number i's dependencies from block γ i's begin on. -/
def HoldsWs (w : World) (b : Nat) (ws : List Wr) (γ : Nat → Nat) : Prop :=
  b < w.heap.size ∧ ∀ i, i < ws.length → (∃ cap, WrAt w b (i * 7) (ws.getD i wz) (some ⟨γ i, 0, none⟩) cap) ∧ γ i < w.heap.size ∧ HoldsDeps w (γ i) 0 (ws.getD i wz).xs

theorem HoldsWs.below {w w' : World} {b : Nat} {ws : List Wr} {γ : Nat → Nat} (h : HoldsWs w b ws γ) (hb : Below w.heap.size w w') : HoldsWs w' b ws γ := by
  refine ⟨Nat.lt_of_lt_of_le h.1 hb.size, fun i hi => ?_⟩
  obtain ⟨⟨cap, h1⟩, h2, h3⟩ := h.2 i hi
  exact ⟨⟨cap, h1.of_block (hb.block _ h.1)⟩, Nat.lt_of_lt_of_le h2 hb.size, h3.below hb h2⟩

/-- How much a list of writes is: its length, and those of its writes' dependencies. -/
def bulk : List Wr → Nat
  | [] => 0
  | x :: r => x.xs.length + bulk r

theorem bulk_take (ws : List Wr) (k : Nat) (h : k < ws.length) : bulk (ws.take (k + 1)) = bulk (ws.take k) + (ws.getD k wz).xs.length := by
  induction ws generalizing k with
  | nil => simp at h
  | cons x r ih =>
    cases k with
    | zero => simp [bulk]
    | succ k =>
      have := ih k (by simpa using h)
      simp only [List.take_succ_cons, bulk, List.getD_cons_succ] at this ⊢
      omega

theorem bulk_one (ws : List Wr) (k : Nat) (h : k < ws.length) : (ws.getD k wz).xs.length ≤ bulk ws := by
  induction ws generalizing k with
  | nil => simp at h
  | cons x r ih =>
    cases k with
    | zero => simp [bulk]
    | succ k =>
      have := ih k (by simpa using h)
      simp only [bulk, List.getD_cons_succ]
      omega

theorem ws_at {w w' : World} {a : Option Addr} {ws : List Wr} {n : Nat} (h : IsWs w a ws) (hb : Below w.heap.size w w') (hn : ws.length = n) {k : Nat} (hk : k < n) :
    ∃ b o a' cap, a = some ⟨b, o, none⟩ ∧ WrAt w' b (o + k * 7) (ws.getD k wz) a' cap ∧ (ws.getD k wz).xs.length ≤ maxLen ∧ IsDeps w' a' (ws.getD k wz).xs := by
  rcases h.below hb with h | ⟨b, o, ha, _, hh⟩
  · subst h
    simp at hn
    omega
  · obtain ⟨a', cap, h1, h2, h3⟩ := hh k (by omega)
    exact ⟨b, o, a', cap, ha, h1, h2, h3⟩

set_option maxHeartbeats 1000000 in
theorem szWriteS_any (a : Option Addr) (len cap : Nat) (left : Int) (ws : List Wr) (w : World) (h0 : 0 ≤ left) (h1 : left ≤ 1048576) (hm : len ≤ maxLen) (hl : ws.length = len) (hi : IsWs w a ws) :
    Calls Try.prog 60 #[.slice a len cap, .int .i64 left] w fun e w' => ∃ r : Int, e = .returned (.int .i64 r) ∧ (r = -1 ∨ (0 ≤ r ∧ r = left - len - bulk ws)) ∧ Below w.heap.size w w' := by
  have HI : Hid (IsWs w a ws) := hi
  have HL : Hid (ws.length = len) := hl
  clear hi hl
  unfold maxLen at hm
  go_enter Try.func60, Try.ntmps60
  by_cases hbig : left < (len : Int)
  · go_wp2
    go_ret
    exact ⟨_, rfl, .inl rfl, Below.refl _ _⟩
  go_wp2
  go_loopw [1, 5] (fun l i wr => ∃ (k : Nat) (r : Int), k ≤ len ∧ i = .int .i64 k ∧ l = .int .i64 r ∧ 0 ≤ r ∧ r ≤ 1048576 ∧ Hid (r = left - len - bulk (ws.take k)) ∧ Hid (Below w.heap.size w wr)) (fun _ i _ => len - (intOf i).toNat)
  case atStart => exact ⟨0, left - len, by omega, rfl, rfl, by omega, by omega, by simp [Hid, bulk], Below.refl _ _⟩
  case round =>
    obtain ⟨k, r, hk, rfl, rfl, r0, r1, HR, HB⟩ := hrel
    by_cases hk' : k < len
    · obtain ⟨b, o, a', cp, rfl, hw, hmx, hd⟩ := ws_at HI.out HB.out HL.out hk'
      obtain ⟨e0, e1, e2, e3, e4, e5, e6⟩ := hw
      have HT := Lib.hid (bulk_take ws k (by rw [HL.out]; exact hk'))
      have i1 : (0 : Int) ≤ (k : Int) := by omega
      have i2 : (k : Int) < (len : Int) := by omega
      clear hd
      generalize ws.getD k wz = x at *
      by_cases hx : (x.xs.length : Int) ≤ r
      · go_wp2_with fail
        refine (szWrite_small _ _ _ _ _ _ _ _ _ _ _ r0 r1 hx).mono ?_
        rintro e w2 ⟨rfl, hb⟩
        have HB2 : Hid (Below w.heap.size w w2) := below_step HB.out HB.out.size hb
        clear hb
        go_wp2
        exact ⟨⟨k + 1, _, by omega, by go_num, rfl, by omega, by omega, by have := HT.out; have := HR.out; exact Lib.hid (by omega), HB2⟩, by simp [intOf]; omega⟩
      · go_wp2_with fail
        refine (szWrite_big _ _ _ _ _ _ _ _ _ _ _ r0 r1 (by omega) hmx).mono ?_
        rintro e w2 ⟨rfl, hb⟩
        have HB2 : Hid (Below w.heap.size w w2) := below_step HB.out HB.out.size hb
        clear hb
        go_wp2
        go_ret
        exact ⟨_, rfl, .inl rfl, HB2.out⟩
    · have hkk : k = len := by omega
      subst hkk
      go_wp2
      go_ret
      refine ⟨_, rfl, .inr ⟨r0, ?_⟩, HB.out⟩
      have := HR.out
      rw [show ws.take k = ws from List.take_of_length_le (by rw [HL.out]; exact Nat.le_refl _)] at this
      exact this

/-- Cell j of a row of writes. -/
def wrCell (ws : List Wr) (γ : Nat → Nat) (j : Nat) : Value :=
  if j % 7 = 0 then .int .i64 (ws.getD (j / 7) wz).k else if j % 7 = 1 then .int .i64 (ws.getD (j / 7) wz).c else if j % 7 = 2 then .int .i64 (ws.getD (j / 7) wz).s else if j % 7 = 3 then .int .i64 (ws.getD (j / 7) wz).q
  else if j % 7 = 4 then .int .i64 (ws.getD (j / 7) wz).v else if j % 7 = 5 then .bool (ws.getD (j / 7) wz).de else .slice (some ⟨γ (j / 7), 0, none⟩) (ws.getD (j / 7) wz).xs.length (ws.getD (j / 7) wz).xs.length

/-- Cell j of a row of zero writes. -/
def zeroCell (j : Nat) : Value := if j % 7 = 5 then .bool false else if j % 7 = 6 then .slice none 0 0 else .int .i64 0

def wrFill (ws : List Wr) (γ : Nat → Nat) (k j : Nat) : Value := if j < k * 7 then wrCell ws γ j else zeroCell j

def upd (γ : Nat → Nat) (k g : Nat) : Nat → Nat := fun i => if i = k then g else γ i

theorem upd_at (γ : Nat → Nat) (k g : Nat) : upd γ k g k = g := by simp [upd]

theorem upd_off (γ : Nat → Nat) {k i : Nat} (g : Nat) (h : i ≠ k) : upd γ k g i = γ i := by simp [upd, h]

theorem wrCell0 (ws : List Wr) (γ : Nat → Nat) (k : Nat) : wrCell ws γ (k * 7) = .int .i64 (ws.getD k wz).k := by
  unfold wrCell
  rw [if_pos (by omega), show k * 7 / 7 = k by omega]

theorem wrCell1 (ws : List Wr) (γ : Nat → Nat) (k : Nat) : wrCell ws γ (k * 7 + 1) = .int .i64 (ws.getD k wz).c := by
  unfold wrCell
  rw [if_neg (by omega), if_pos (by omega), show (k * 7 + 1) / 7 = k by omega]

theorem wrCell2 (ws : List Wr) (γ : Nat → Nat) (k : Nat) : wrCell ws γ (k * 7 + 2) = .int .i64 (ws.getD k wz).s := by
  unfold wrCell
  rw [if_neg (by omega), if_neg (by omega), if_pos (by omega), show (k * 7 + 2) / 7 = k by omega]

theorem wrCell3 (ws : List Wr) (γ : Nat → Nat) (k : Nat) : wrCell ws γ (k * 7 + 3) = .int .i64 (ws.getD k wz).q := by
  unfold wrCell
  rw [if_neg (by omega), if_neg (by omega), if_neg (by omega), if_pos (by omega), show (k * 7 + 3) / 7 = k by omega]

theorem wrCell4 (ws : List Wr) (γ : Nat → Nat) (k : Nat) : wrCell ws γ (k * 7 + 4) = .int .i64 (ws.getD k wz).v := by
  unfold wrCell
  rw [if_neg (by omega), if_neg (by omega), if_neg (by omega), if_neg (by omega), if_pos (by omega), show (k * 7 + 4) / 7 = k by omega]

theorem wrCell5 (ws : List Wr) (γ : Nat → Nat) (k : Nat) : wrCell ws γ (k * 7 + 5) = .bool (ws.getD k wz).de := by
  unfold wrCell
  rw [if_neg (by omega), if_neg (by omega), if_neg (by omega), if_neg (by omega), if_neg (by omega), if_pos (by omega), show (k * 7 + 5) / 7 = k by omega]

theorem wrCell6 (ws : List Wr) (γ : Nat → Nat) (k : Nat) : wrCell ws γ (k * 7 + 6) = .slice (some ⟨γ k, 0, none⟩) (ws.getD k wz).xs.length (ws.getD k wz).xs.length := by
  unfold wrCell
  rw [if_neg (by omega), if_neg (by omega), if_neg (by omega), if_neg (by omega), if_neg (by omega), if_neg (by omega), show (k * 7 + 6) / 7 = k by omega]

theorem wrCell_off (ws : List Wr) (γ : Nat → Nat) (k g j : Nat) (h : j < k * 7) : wrCell ws (upd γ k g) j = wrCell ws γ j := by
  unfold wrCell
  rw [upd_off γ g (show j / 7 ≠ k by omega)]

theorem wrFill_step (ws : List Wr) (γ : Nat → Nat) (k g j : Nat) :
    (if j = k * 7 + 6 then Value.slice (some ⟨g, 0, none⟩) (ws.getD k wz).xs.length (ws.getD k wz).xs.length else if j = k * 7 + 5 then Value.bool (ws.getD k wz).de else if j = k * 7 + 4 then Value.int .i64 (ws.getD k wz).v else if j = k * 7 + 3 then Value.int .i64 (ws.getD k wz).q else if j = k * 7 + 2 then Value.int .i64 (ws.getD k wz).s else if j = k * 7 + 1 then Value.int .i64 (ws.getD k wz).c else if j = k * 7 then Value.int .i64 (ws.getD k wz).k else wrFill ws γ k j) = wrFill ws (upd γ k g) (k + 1) j := by
  unfold wrFill
  by_cases h6 : j = k * 7 + 6
  · rw [if_pos h6, if_pos (by omega), h6, wrCell6, upd_at]
  rw [if_neg h6]
  by_cases h5 : j = k * 7 + 5
  · rw [if_pos h5, if_pos (by omega), h5, wrCell5]
  rw [if_neg h5]
  by_cases h4 : j = k * 7 + 4
  · rw [if_pos h4, if_pos (by omega), h4, wrCell4]
  rw [if_neg h4]
  by_cases h3 : j = k * 7 + 3
  · rw [if_pos h3, if_pos (by omega), h3, wrCell3]
  rw [if_neg h3]
  by_cases h2 : j = k * 7 + 2
  · rw [if_pos h2, if_pos (by omega), h2, wrCell2]
  rw [if_neg h2]
  by_cases h1 : j = k * 7 + 1
  · rw [if_pos h1, if_pos (by omega), h1, wrCell1]
  rw [if_neg h1]
  by_cases h0 : j = k * 7
  · rw [if_pos h0, if_pos (by omega), h0, wrCell0]
  rw [if_neg h0]
  by_cases hl : j < k * 7
  · rw [if_pos hl, if_pos (by omega), wrCell_off _ _ _ _ _ hl]
  · rw [if_neg hl, if_neg (by omega)]

theorem wrAt_of_row {w : World} {b t : Nat} {ws : List Wr} {γ : Nat → Nat} (h : w.rowIs b t (ws.length * 7) (wrFill ws γ ws.length)) {i : Nat} (hi : i < ws.length) : WrAt w b (i * 7) (ws.getD i wz) (some ⟨γ i, 0, none⟩) (ws.getD i wz).xs.length := by
  refine ⟨?_, ?_, ?_, ?_, ?_, ?_, ?_⟩
  · rw [h.cell (by omega), wrFill, if_pos (by omega), wrCell0]
  · rw [h.cell (by omega), wrFill, if_pos (by omega), wrCell1]
  · rw [h.cell (by omega), wrFill, if_pos (by omega), wrCell2]
  · rw [h.cell (by omega), wrFill, if_pos (by omega), wrCell3]
  · rw [h.cell (by omega), wrFill, if_pos (by omega), wrCell4]
  · rw [h.cell (by omega), wrFill, if_pos (by omega), wrCell5]
  · rw [h.cell (by omega), wrFill, if_pos (by omega), wrCell6]

theorem wrow_start (w : World) (t n : Nat) (ws : List Wr) (γ : Nat → Nat) : (w.alloc (.cells (madeCells #[.int .i64 0, .int .i64 0, .int .i64 0, .int .i64 0, .int .i64 0, .bool false, .slice none 0 0] (n * 7)) t)).rowIs w.heap.size t (n * 7) (wrFill ws γ 0) := by
  refine ⟨_, Go.Deep.blk_alloc_new _ _, size_madeCells _ _, fun i hi => ?_⟩
  have e : wrFill ws γ 0 i = zeroCell i := by unfold wrFill; rw [if_neg (by omega)]
  rw [e]
  have h7 : i % 7 = 0 ∨ i % 7 = 1 ∨ i % 7 = 2 ∨ i % 7 = 3 ∨ i % 7 = 4 ∨ i % 7 = 5 ∨ i % 7 = 6 := by omega
  rcases h7 with h | h | h | h | h | h | h <;> simp [madeCells, zeroCell, hi, h]

abbrev set7 (w : World) (g o : Nat) (x : Wr) (a : Option Addr) (len cap : Nat) : World :=
  ((((((w.setCell ⟨g, o, none⟩ (.int .i64 x.k)).setCell ⟨g, o + 1, none⟩ (.int .i64 x.c)).setCell ⟨g, o + 2, none⟩ (.int .i64 x.s)).setCell ⟨g, o + 3, none⟩ (.int .i64 x.q)).setCell ⟨g, o + 4, none⟩ (.int .i64 x.v)).setCell ⟨g, o + 5, none⟩ (.bool x.de)).setCell ⟨g, o + 6, none⟩ (.slice a len cap)

theorem wrow_step {w : World} {b t n : Nat} {ws : List Wr} {γ : Nat → Nat} {k : Nat} (g : Nat) (h : w.rowIs b t n (wrFill ws γ k)) :
    (set7 w b (k * 7) (ws.getD k wz) (some ⟨g, 0, none⟩) (ws.getD k wz).xs.length (ws.getD k wz).xs.length).rowIs b t n (wrFill ws (upd γ k g) (k + 1)) :=
  (((((((h.set _ _).set _ _).set _ _).set _ _).set _ _).set _ _).set _ _).congr (fun j _ => wrFill_step ws γ k g j)

theorem below_set7 {B : Nat} {a w : World} {g : Nat} (h : Below B a w) (hg : B ≤ g) (o : Nat) (x : Wr) (ad : Option Addr) (len cap : Nat) : Below B a (set7 w g o x ad len cap) :=
  ((((((h.setCell (p := ⟨g, o, none⟩) hg _).setCell (p := ⟨g, o + 1, none⟩) hg _).setCell (p := ⟨g, o + 2, none⟩) hg _).setCell (p := ⟨g, o + 3, none⟩) hg _).setCell (p := ⟨g, o + 4, none⟩) hg _).setCell (p := ⟨g, o + 5, none⟩) hg _).setCell (p := ⟨g, o + 6, none⟩) hg _

theorem HoldsDeps.set7 {w : World} {b o : Nat} {xs : List Dp} (h : HoldsDeps w b o xs) {g : Nat} (hne : g ≠ b) (o' : Nat) (x : Wr) (a : Option Addr) (len cap : Nat) : HoldsDeps (set7 w g o' x a len cap) b o xs :=
  ((((((h.set hne _).set hne _).set hne _).set hne _).set hne _).set hne _).set hne _

theorem infoWr : (Try.prog.info? 43).map (fun i => (i.zero, i.size, i.bytes)) = some (some (wrV 0 0 0 0 0 false none 0 0), 7, 72) := by kernel_rfl

theorem run_make_ws (n : Nat) (hn : n ≤ 1048576) (w : World) :
    (Instr.makeSlice 24 (.int .i64 (n : Int)) (.int .i64 (n : Int))).run Try.prog w = .ok (.slice (some ⟨w.heap.size, 0, none⟩) n n) (w.alloc (.cells (madeCells #[.int .i64 0, .int .i64 0, .int .i64 0, .int .i64 0, .int .i64 0, .bool false, .slice none 0 0] (n * 7)) 43)) := by
  obtain ⟨i, hi, hzz⟩ := Option.map_eq_some_iff.1 infoWr
  simp only [Prod.mk.injEq] at hzz
  obtain ⟨hz, hs, hb⟩ := hzz
  have hr := run_make (P := Try.prog) w 24 43 i _ Try.underlying24 hi hz .i64 .i64 n n (by omega) (Int.le_refl _) (by rw [hb]; omega) (by omega)
  simp only [Int.toNat_natCast, hs] at hr
  exact hr

/-- The blocks of the dependencies of the first k writes: each of its own, behind block B, holding what is asked. -/
def Rows7 (w : World) (B : Nat) (ws : List Wr) (γ : Nat → Nat) (k : Nat) : Prop :=
  (∀ i, i < k → B < γ i ∧ γ i < w.heap.size ∧ HoldsDeps w (γ i) 0 (ws.getD i wz).xs ∧ ∀ o, w.frozen? ⟨γ i, o, none⟩ = false) ∧ ∀ i j, i < k → j < k → γ i = γ j → i = j

theorem Rows7.below {w w' : World} {B : Nat} {ws : List Wr} {γ : Nat → Nat} {k : Nat} (h : Rows7 w B ws γ k) (hb : Below w.heap.size w w') : Rows7 w' B ws γ k :=
  ⟨fun i hi => ⟨(h.1 i hi).1, Nat.lt_of_lt_of_le (h.1 i hi).2.1 hb.size, (h.1 i hi).2.2.1.below hb (h.1 i hi).2.1, fun o => (hb.frozen (p := ⟨γ i, o, none⟩) (h.1 i hi).2.1).trans ((h.1 i hi).2.2.2 o)⟩, h.2⟩

theorem Rows7.step {w w' : World} {B : Nat} {ws : List Wr} {γ : Nat → Nat} {k g : Nat} (h : Rows7 w B ws γ k) (hb : Below w.heap.size w w') (hB : B < w.heap.size) (hg : w.heap.size ≤ g) (hg' : g < w'.heap.size) (hh : HoldsDeps w' g 0 (ws.getD k wz).xs) (hz : ∀ o, w'.frozen? ⟨g, o, none⟩ = false) (o : Nat) (x : Wr) (a : Option Addr) (len cap : Nat) :
    Rows7 (set7 w' B o x a len cap) B ws (upd γ k g) (k + 1) := by
  have h' := h.below hb
  refine ⟨fun i hi => ?_, fun i j hi hj he => ?_⟩
  · by_cases hik : i = k
    · subst hik
      rw [upd_at]
      exact ⟨by omega, by simpa using hg', hh.set7 (by omega) _ _ _ _ _, fun o' => by simpa using hz o'⟩
    · rw [upd_off γ g hik]
      obtain ⟨h1, h2, h3, h4⟩ := h'.1 i (by omega)
      exact ⟨h1, by simpa using h2, h3.set7 (by omega) _ _ _ _ _, fun o' => by simpa using h4 o'⟩
  · by_cases hik : i = k
    · by_cases hjk : j = k
      · omega
      · rw [hik, upd_at, upd_off γ g hjk] at he
        have := (h.1 j (by omega)).2.1
        omega
    · by_cases hjk : j = k
      · rw [hjk, upd_at, upd_off γ g hik] at he
        have := (h.1 i (by omega)).2.1
        omega
      · rw [upd_off γ g hik, upd_off γ g hjk] at he
        exact h.2 i j (by omega) (by omega) he

/-- Writes of one's own, from block number base on: each row in a block of its own, none of them shut. -/
structure OwnWs (w : World) (base b : Nat) (ws : List Wr) (γ : Nat → Nat) : Prop where
  holds : HoldsWs w b ws γ
  le : base ≤ b
  open_ : ∀ o, w.frozen? ⟨b, o, none⟩ = false
  deps : ∀ i, i < ws.length → base ≤ γ i ∧ γ i ≠ b ∧ ∀ o, w.frozen? ⟨γ i, o, none⟩ = false
  inj : ∀ i j, i < ws.length → j < ws.length → γ i = γ j → i = j

theorem OwnWs.below {w w' : World} {base b : Nat} {ws : List Wr} {γ : Nat → Nat} (h : OwnWs w base b ws γ) (hb : Below w.heap.size w w') : OwnWs w' base b ws γ where
  holds := h.holds.below hb
  le := h.le
  open_ := fun o => (hb.frozen (p := ⟨b, o, none⟩) h.holds.1).trans (h.open_ o)
  deps := fun i hi => ⟨(h.deps i hi).1, (h.deps i hi).2.1, fun o => (hb.frozen (p := ⟨γ i, o, none⟩) (h.holds.2 i hi).2.1).trans ((h.deps i hi).2.2 o)⟩
  inj := h.inj

set_option maxHeartbeats 2000000 in
theorem toWriteS_any (a : Option Addr) (len cap : Nat) (ws : List Wr) (w : World) (hn : len ≤ 1048576) (hl : ws.length = len) (hx : ∀ i, i < len → (ws.getD i wz).xs.length ≤ 1048576) (hi : IsWs w a ws) :
    Calls Try.prog 62 #[.slice a len cap] w fun e w' => ∃ γ, e = .returned (.slice (some ⟨w.heap.size, 0, none⟩) len len) ∧ OwnWs w' w.heap.size w.heap.size ws γ ∧ Below w.heap.size w w' := by
  have HI : Hid (IsWs w a ws) := hi
  have HL : Hid (ws.length = len) := hl
  have HX : Hid (∀ i, i < len → (ws.getD i wz).xs.length ≤ 1048576) := hx
  clear hi hl hx
  have hmk := run_make_ws len hn
  go_enter Try.func62, Try.ntmps62
  go_wp2
  clear hmk
  go_loopw [4] (fun i wr => ∃ (k : Nat) (γ : Nat → Nat), k ≤ len ∧ i = .int .i64 k ∧ Hid (wr.rowIs w.heap.size 43 (len * 7) (wrFill ws γ k)) ∧ Hid (Rows7 wr w.heap.size ws γ k) ∧ Hid (Below w.heap.size w wr)) (fun i _ => len - (intOf i).toNat)
  case atStart => exact ⟨0, fun _ => 0, Nat.zero_le _, rfl, wrow_start _ _ _ _ _, ⟨fun i hi => absurd hi (Nat.not_lt_zero i), fun i j hi => absurd hi (Nat.not_lt_zero i)⟩, (Below.refl _ _).alloc (Nat.le_refl _) _⟩
  case round =>
    obtain ⟨k, γ, hk, rfl, HR, HG, HB⟩ := hrel
    by_cases hk' : k < len
    · obtain ⟨b, o, a', cp, rfl, hw, hmx, hd⟩ := ws_at HI.out HB.out HL.out hk'
      obtain ⟨e0, e1, e2, e3, e4, e5, e6⟩ := hw
      have HD : Hid (IsDeps wr a' (ws.getD k wz).xs) := hd
      have hxl := HX.out k hk'
      have i1 : (0 : Int) ≤ (k : Int) := by omega
      have i2 : (k : Int) < (len : Int) := by omega
      clear hd hmx
      have HS : Hid (∀ (w2 : World) (g : Nat), w2.rowIs w.heap.size 43 (len * 7) (wrFill ws γ k) → (set7 w2 w.heap.size (k * 7) (ws.getD k wz) (some ⟨g, 0, none⟩) (ws.getD k wz).xs.length (ws.getD k wz).xs.length).rowIs w.heap.size 43 (len * 7) (wrFill ws (upd γ k g) (k + 1))) := fun w2 g h2 => wrow_step g h2
      have HG2 : Hid (∀ (w2 : World) (g : Nat), Below wr.heap.size wr w2 → wr.heap.size ≤ g → g < w2.heap.size → HoldsDeps w2 g 0 (ws.getD k wz).xs → (∀ o, w2.frozen? ⟨g, o, none⟩ = false) → Rows7 (set7 w2 w.heap.size (k * 7) (ws.getD k wz) (some ⟨g, 0, none⟩) (ws.getD k wz).xs.length (ws.getD k wz).xs.length) w.heap.size ws (upd γ k g) (k + 1)) := fun w2 g h2 h3 h4 h5 h6 => HG.out.step h2 HR.out.lt h3 h4 h5 h6 _ _ _ _ _
      generalize ws.getD k wz = x at *
      obtain ⟨xk, xc, xs', xq, xv, xd, xx⟩ := x
      simp only at e0 e1 e2 e3 e4 e5 e6 hxl HS HG2 HD
      go_wp2_with fail
      refine (toWrite_own _ _ _ _ _ _ _ _ _ xx _ hxl rfl HD.out).mono ?_
      rintro e w2 ⟨g, rfl, hg1, hg2, hg3, hg4, hb⟩
      have HR2 : Hid (w2.rowIs w.heap.size 43 (len * 7) (wrFill ws γ k)) := HR.out.of_block (hb.block _ HR.out.lt)
      have HB2 : Hid (Below w.heap.size w w2) := below_step HB.out HB.out.size hb
      have HG3 := Lib.hid (HG2.out w2 g hb hg1 hg2 hg3 hg4)
      have c0 := HR2.out.cell (i := k * 7) (by omega)
      have c1 := HR2.out.cell (i := k * 7 + 1) (by omega)
      have c2 := HR2.out.cell (i := k * 7 + 2) (by omega)
      have c3 := HR2.out.cell (i := k * 7 + 3) (by omega)
      have c4 := HR2.out.cell (i := k * 7 + 4) (by omega)
      have c5 := HR2.out.cell (i := k * 7 + 5) (by omega)
      have c6 := HR2.out.cell (i := k * 7 + 6) (by omega)
      have fz := HR2.out.frozen
      clear hb hg1 hg2 hg3 hg4 HG2
      go_wp2
      exact ⟨⟨k + 1, upd γ k g, by omega, by go_num, HS.out _ g HR2.out, HG3.out, below_set7 HB2.out (Nat.le_refl _) (k * 7) ⟨xk, xc, xs', xq, xv, xd, xx⟩ (some ⟨g, 0, none⟩) xx.length xx.length⟩, by simp [intOf]; omega⟩
    · have hkk : k = len := by omega
      subst hkk
      go_wp2
      go_ret
      have hr := HR.out
      have hz := hr.lt
      rw [← HL.out] at hr
      have HL' := HL.out
      refine ⟨γ, rfl, ⟨⟨hz, fun i hi => ⟨⟨_, wrAt_of_row (by rw [HL'] at hr ⊢; exact hr) hi⟩, (HG.out.1 i (by omega)).2.1, (HG.out.1 i (by omega)).2.2.1⟩⟩, Nat.le_refl _, hr.frozen, fun i hi => ⟨?_, ?_, (HG.out.1 i (by omega)).2.2.2⟩, fun i j hi hj => HG.out.2 i j (by omega) (by omega)⟩, HB.out⟩
      · have := (HG.out.1 i (by omega)).1
        omega
      · have := (HG.out.1 i (by omega)).1
        omega

end Go.Proofs.Ytkgojpmjnehcnaa

/- Contracts of eqWriteS and of the specification's MapOk. -/
namespace Go.Proofs.Ytkgojpmjnehcnaa
open Go.ChangeShapes Go.WideShapes Go.ChangeAt Go.RowKit Go.Joins
attribute [local go_sem ↓] Go.wp_at_zero Go.wp_at_succ

abbrev wrOf (x : Wr) (a : Option Addr) (cap : Nat) : Value := wrV x.k x.c x.s x.q x.v x.de a x.xs.length cap

abbrev okW (x : Wr) : Bool := writeOkB x.k x.c x.s x.q x.v x.de x.xs

/-- Each write's dependencies are not too many. -/
def Few (ws : List Wr) : Prop := ∀ i, i < ws.length → (ws.getD i wz).xs.length ≤ 1048576

theorem few_of_bulk {ws : List Wr} (h : bulk ws ≤ 1048576) : Few ws := fun i hi => Nat.le_trans (bulk_one ws i hi) h

/-- One write of a row, in this world and in each later one. -/
theorem HoldsWs.get {w w' : World} {b : Nat} {ws : List Wr} {γ : Nat → Nat} (h : HoldsWs w b ws γ) (hb : Below w.heap.size w w') {i n : Nat} (hn : ws.length = n) (hi : i < n) :
    ∃ cap, b < w'.heap.size ∧ WrAt w' b (i * 7) (ws.getD i wz) (some ⟨γ i, 0, none⟩) cap ∧ γ i < w'.heap.size ∧ HoldsDeps w' (γ i) 0 (ws.getD i wz).xs := by
  obtain ⟨⟨cap, h1⟩, h2, h3⟩ := (h.below hb).2 i (by omega)
  exact ⟨cap, (h.below hb).1, h1, h2, h3⟩

/-- One write of a slice that is not empty, in this world and in each later one. -/
theorem IsWs.at {w w' : World} {a : Option Addr} {ws : List Wr} (h : IsWs w a ws) (hb : Below w.heap.size w w') {k n : Nat} (hn : ws.length = n) (hk : k < n) :
    ∃ b o a' cap, a = some ⟨b, o, none⟩ ∧ b < w'.heap.size ∧ WrAt w' b (o + k * 7) (ws.getD k wz) a' cap ∧ IsDeps w' a' (ws.getD k wz).xs := by
  rcases h.below hb with h | ⟨b, o, ha, hlt, hh⟩
  · subst h
    simp at hn
    omega
  · obtain ⟨a', cap, h1, _, h3⟩ := hh k (by omega)
    exact ⟨b, o, a', cap, ha, hlt, h1, h3⟩

/-- One write of a slice, in every later world. -/
theorem IsWs.later {w : World} {a : Option Addr} {ws : List Wr} (h : IsWs w a ws) {k n : Nat} (hn : ws.length = n) (hk : k < n) :
    ∃ b o a' cap, a = some ⟨b, o, none⟩ ∧ ∀ w', Below w.heap.size w w' → b < w'.heap.size ∧ WrAt w' b (o + k * 7) (ws.getD k wz) a' cap ∧ IsDeps w' a' (ws.getD k wz).xs := by
  rcases h with h | ⟨b, o, ha, hlt, hh⟩
  · subst h
    simp at hn
    omega
  · obtain ⟨a', cap, h1, _, h3⟩ := hh k (by omega)
    exact ⟨b, o, a', cap, ha, fun w' hb => ⟨Nat.lt_of_lt_of_le hlt hb.size, h1.of_block (hb.block _ hlt), h3.below hb⟩⟩

theorem IsWs.keyAt {w w' : World} {b o : Nat} {ws : List Wr} (h : IsWs w (some ⟨b, o, none⟩) ws) (hb : Below w.heap.size w w') {k n : Nat} (hn : ws.length = n) (hk : k < n) : w'.cell? ⟨b, o + k * 7, none⟩ = some (.int .i64 (ws.getD k wz).k) := by
  obtain ⟨b', o', _, _, he, _, ⟨h0, _⟩, _⟩ := h.at hb hn hk
  injection he with he
  injection he with e1 e2
  subst e1 e2
  exact h0

theorem HoldsWs.isWs {w : World} {b : Nat} {ws : List Wr} {γ : Nat → Nat} (h : HoldsWs w b ws γ) (hx : Few ws) : IsWs w (some ⟨b, 0, none⟩) ws := by
  refine .inr ⟨b, 0, rfl, h.1, fun i hi => ?_⟩
  obtain ⟨⟨cap, h1⟩, h2, h3⟩ := h.2 i hi
  exact ⟨_, cap, by rw [Nat.zero_add]; exact h1, by have := hx i hi; unfold maxLen; omega, .inr ⟨_, _, rfl, h2, h3⟩⟩

set_option maxHeartbeats 2000000 in
theorem eqWriteS_gen (a a' : Option Addr) (n cap cap' : Nat) (ws : List Wr) (w : World) (hn : ws.length = n) (hm : n ≤ 1048576) (hx : Few ws) (hh : IsWs w a ws) (hh' : IsWs w a' ws) :
    Calls Try.prog 12 #[.slice a n cap, .slice a' n cap'] w fun e w' => e = .returned (.bool true) ∧ Below w.heap.size w w' := by
  have HH : Hid (IsWs w a ws) := hh
  have HH' : Hid (IsWs w a' ws) := hh'
  have HN : Hid (ws.length = n) := hn
  have HX : Hid (Few ws) := hx
  clear hh hh' hn hx
  go_enter Try.func12, Try.ntmps12
  go_wp2
  go_loopw [5] (fun i wr => ∃ k : Nat, k ≤ n ∧ i = .int .i64 k ∧ Hid (Below w.heap.size w wr)) (fun i _ => n - (intOf i).toNat)
  case atStart => exact ⟨0, Nat.zero_le _, rfl, Below.refl _ _⟩
  case round =>
    obtain ⟨k, hk, rfl, HB⟩ := hrel
    by_cases hk' : k < n
    · obtain ⟨b, o, ad, cp, rfl, hz, ⟨e0, e1, e2, e3, e4, e5, e6⟩, hd⟩ := HH.out.at HB.out HN.out hk'
      obtain ⟨b', o', ad', cp', rfl, hz', ⟨f0, f1, f2, f3, f4, f5, f6⟩, hd'⟩ := HH'.out.at HB.out HN.out hk'
      have i1 : (0 : Int) ≤ (k : Int) := by omega
      have i2 : (k : Int) < (n : Int) := by omega
      have HC : Hid (∀ p : Aft wr.heap.size wr, Calls Try.prog 21 #[wrOf (ws.getD k wz) ad cp, wrOf (ws.getD k wz) ad' cp'] p.now fun e w' => e = .returned (.bool true) ∧ Below p.now.heap.size p.now w') := fun p =>
        eqWrite_gen _ _ _ _ _ _ _ _ _ _ _ (ws.getD k wz).xs _ (HX.out k (by rw [HN.out]; exact hk')) rfl (hd.below p.below) (hd'.below p.below)
      clear hd hd' HH HH'
      generalize ws.getD k wz = x at *
      obtain ⟨xk, xc, xs', xq, xv, xd, xx⟩ := x
      simp only at e0 e1 e2 e3 e4 e5 e6 f0 f1 f2 f3 f4 f5 f6 HC
      go_wp2_with fail
      have ge0 := aft_cell hz e0
      have ge1 := aft_cell hz e1
      have ge2 := aft_cell hz e2
      have ge3 := aft_cell hz e3
      have ge4 := aft_cell hz e4
      have ge5 := aft_cell hz e5
      have ge6 := aft_cell hz e6
      have gf0 := aft_cell hz' f0
      have gf1 := aft_cell hz' f1
      have gf2 := aft_cell hz' f2
      have gf3 := aft_cell hz' f3
      have gf4 := aft_cell hz' f4
      have gf5 := aft_cell hz' f5
      have gf6 := aft_cell hz' f6
      have ne := aft_some wr
      refine wp_region_aft (by kernel_rfl) (by kernel_rfl) ?_
      repeat (first | go_big_quiet_step (first | (go_at_call 21; exact aft_of (HC.out _))))
      refine wpQuiet_nil ?_
      intro wq hq
      go_wp2
      exact ⟨⟨k + 1, by omega, by go_num, below_step HB.out HB.out.size hq⟩, by simp [intOf]; omega⟩
    · go_wp2
      go_ret
      exact ⟨rfl, HB.out⟩

theorem eqWriteS_same (b b' n cap cap' : Nat) (ws : List Wr) (γ γ' : Nat → Nat) (w : World) (hn : ws.length = n) (hm : n ≤ 1048576) (hx : Few ws) (hh : HoldsWs w b ws γ) (hh' : HoldsWs w b' ws γ') :
    Calls Try.prog 12 #[.slice (some ⟨b, 0, none⟩) n cap, .slice (some ⟨b', 0, none⟩) n cap'] w fun e w' => e = .returned (.bool true) ∧ Below w.heap.size w w' :=
  eqWriteS_gen _ _ n cap cap' ws w hn hm hx (hh.isWs hx) (hh'.isWs hx)

def wrGood (ws : List Wr) (i : Nat) : Bool := okW (ws.getD i wz) && decide (i = 0 ∨ (ws.getD (i - 1) wz).k < (ws.getD i wz).k)

def mapOkB (ws : List Wr) : Bool := (List.range ws.length).all (wrGood ws)

theorem mapOk_true {ws : List Wr} (h : ∀ i, i < ws.length → wrGood ws i = true) : mapOkB ws = true := by
  unfold mapOkB
  rw [List.all_eq_true]
  intro i hi
  exact h i (List.mem_range.1 hi)

theorem mapOk_false {ws : List Wr} {i : Nat} (hi : i < ws.length) (h : wrGood ws i = false) : mapOkB ws = false := by
  unfold mapOkB
  rw [List.all_eq_false]
  exact ⟨i, List.mem_range.2 hi, by simp [h]⟩

theorem good_next {ws : List Wr} {k : Nat} (h : ∀ j, j < k → wrGood ws j = true) (hk : wrGood ws k = true) : ∀ j, j < k + 1 → wrGood ws j = true := fun j hj => by
  by_cases h' : j < k
  · exact h j h'
  · have : j = k := by omega
    rw [this]
    exact hk

end Go.Proofs.Ytkgojpmjnehcnaa

/- Masks of keys: the contracts of impl's keyMask: has and wants, for every number. -/
namespace Go.Proofs.Ytkgojpmjnehcnaa
open Go.ChangeShapes Go.WideShapes Go.ChangeAt Go.RowKit Go.Joins
attribute [local go_sem ↓] Go.wp_at_zero Go.wp_at_succ

/-- Is a key's bit set in a mask? None is in one below 0, and none below 0 is. -/
def bitG (mask : Int) (k : Int) : Bool := decide (0 ≤ mask) && (decide (0 ≤ k) && decide (mask / 2 ^ k.toNat % 2 = 1))

theorem bitG_neg {mask k : Int} (h : ¬ 0 ≤ mask) : bitG mask k = false := by
  unfold bitG
  rw [decide_eq_false h, Bool.false_and]

theorem bitG_key {mask k : Int} (h : ¬ 0 ≤ k) : bitG mask k = false := by
  unfold bitG
  rw [decide_eq_false h, Bool.false_and, Bool.and_false]

theorem bitG_pos {mask : Int} {k : Nat} (h : 0 ≤ mask) : bitG mask (k : Int) = decide (mask / 2 ^ k % 2 = 1) := by
  unfold bitG
  rw [decide_eq_true h, decide_eq_true (Int.natCast_nonneg k)]
  rfl

theorem shift_min {mask : Int} {k : Nat} (h0 : 0 ≤ mask) (h1 : mask ≤ 9223372036854775807) : mask / 2 ^ min k 64 = mask / 2 ^ k := by
  by_cases hk : k ≤ 64
  · rw [Nat.min_eq_left hk]
  · rw [Nat.min_eq_right (by omega)]
    have e1 : ((2 ^ k : Nat) : Int) = (2 : Int) ^ k := by push_cast; rfl
    have e2 : 2 ^ 64 ≤ 2 ^ k := Nat.pow_le_pow_right (by omega) (by omega)
    have e3 : (2 : Nat) ^ 64 = 18446744073709551616 := by decide
    rw [← e1, Int.ediv_eq_zero_of_lt h0 (by omega), Int.ediv_eq_zero_of_lt h0 (by rw [e3] at e2; omega)]

set_option maxRecDepth 100000 in
set_option maxHeartbeats 2000000 in
theorem has_any (mask key : Int) (w : World) (h1 : mask ≤ 9223372036854775807) :
    Calls Try.prog 72 #[.int .i64 mask, .int .i64 key] w fun e w' => e = .returned (.bool (bitG mask key)) ∧ w' = w := by
  by_cases h0 : 0 ≤ mask
  rotate_left
  · rw [bitG_neg h0]
    have hd : decide (0 ≤ mask) = false := decide_eq_false h0
    go_enter Try.func72, Try.ntmps72
    go_wp2
    go_ret
    exact ⟨rfl, rfl⟩
  by_cases hk : 0 ≤ key
  rotate_left
  · rw [bitG_key hk]
    have hd : decide (0 ≤ key) = false := decide_eq_false hk
    go_enter Try.func72, Try.ntmps72
    go_wp2
    go_ret
    exact ⟨rfl, rfl⟩
  obtain ⟨k, rfl⟩ : ∃ k : Nat, key = (k : Int) := ⟨key.toNat, by omega⟩
  have hp : (0 : Int) < 2 ^ k := Int.pow_pos (by omega)
  have hd0 : 0 ≤ mask / 2 ^ k := Int.ediv_nonneg h0 (by omega)
  have hd1 : mask / 2 ^ k ≤ mask := Int.ediv_le_self _ h0
  have hand : bits BinOp.and IntKind.i64 (mask / 2 ^ k) 1 = mask / 2 ^ k % 2 := by
    have := and_one (mask / 2 ^ k).toNat (by omega)
    rw [Int.toNat_of_nonneg hd0] at this
    rw [this]
    omega
  rw [bitG_pos h0]
  have hmn := shift_min (k := k) h0 h1
  generalize mask / 2 ^ k = z at *
  go_enter Try.func72, Try.ntmps72
  go_wp2
  go_ret
  exact ⟨rfl, rfl⟩

set_option maxRecDepth 100000 in
set_option maxHeartbeats 2000000 in
theorem wants_gen (mask : Int) (x : Wr) (a : Option Addr) (cp : Nat) (w : World) (h1 : mask ≤ 9223372036854775807) :
    Calls Try.prog 53 #[.int .i64 mask, wrOf x a cp] w fun e w' => e = .returned (.bool (bitG mask x.k)) ∧ Below w.heap.size w w' := by
  obtain ⟨xk, xc, xs', xq, xv, xd, xx⟩ := x
  simp only
  have HB : Hid (Below w.heap.size w (w.alloc (.cells #[.int .i64 xk, .int .i64 xc, .int .i64 xs', .int .i64 xq, .int .i64 xv, .bool xd, .slice a xx.length cp] 43))) := (Below.refl _ _).alloc (Nat.le_refl _) _
  unfold wrOf
  go_enter Try.func53, Try.ntmps53
  go_wp2_with fail
  refine (has_any mask xk _ h1).mono ?_
  rintro e w1 ⟨rfl, rfl⟩
  go_wp2
  go_ret
  exact ⟨rfl, HB.out⟩

end Go.Proofs.Ytkgojpmjnehcnaa

/- The bounds of numbers, of dependencies and of writes. -/
namespace Go.Proofs.Ytkgojpmjnehcnaa
open Go.ChangeShapes Go.WideShapes Go.ChangeAt Go.RowKit Go.Joins

/-- A number that an int can be. -/
def R64 (n : Int) : Prop := -9223372036854775808 ≤ n ∧ n ≤ 9223372036854775807

theorem r64_wf {n : Int} (h : R64 n) : (Lit.int .i64 n).wf = true := by
  simp only [Lit.wf, Bool.and_eq_true, decide_eq_true_eq]
  exact h

theorem wf_r64 {n : Int} (h : (Lit.int .i64 n).wf = true) : R64 n := by
  simp only [Lit.wf, Bool.and_eq_true, decide_eq_true_eq] at h
  exact h

def DpR (d : Dp) : Prop := R64 d.k ∧ R64 d.c ∧ R64 d.s ∧ R64 d.q

def WrR (x : Wr) : Prop := R64 x.k ∧ R64 x.c ∧ R64 x.s ∧ R64 x.q ∧ R64 x.v ∧ ∀ j, j < x.xs.length → DpR (x.xs.getD j dz)

def WsR (ws : List Wr) : Prop := ∀ j, j < ws.length → WrR (ws.getD j wz)

end Go.Proofs.Ytkgojpmjnehcnaa

/- What is as late as a tag, and the last tag of each key of a site: plain facts. -/
namespace Go.Proofs.Ytkgojpmjnehcnaa
open Go.ChangeShapes Go.WideShapes Go.ChangeAt Go.RowKit Go.Joins

/-- A tag. -/
structure Tg where
  c : Int
  s : Int
  q : Int

def tcmpT (a b : Tg) : Int := tcmp a.c a.s a.q b.c b.s b.q

def tgOf (x : Wr) : Tg := ⟨x.c, x.s, x.q⟩

theorem tcmpT_self (a : Tg) : tcmpT a a = 0 := tcmp_self _ _ _

theorem tcmpT_neg (a b : Tg) : tcmpT b a = -tcmpT a b := tcmp_neg _ _ _ _ _ _

theorem tcmpT_on {a b c : Tg} (h1 : tcmpT a b ≤ 0) (h2 : tcmpT b c ≤ 0) : tcmpT a c ≤ 0 := by
  have h := (tcmp_three a.c a.s a.q b.c b.s b.q c.c c.s c.q).on h1 h2
  unfold tcmpT
  omega

/-- Is a key there, as late as a tag? -/
def lateB (ws : List Wr) (k : Int) (t : Tg) : Bool := ws.any fun x => decide (x.k = k) && decide (0 ≤ tcmpT (tgOf x) t)

theorem lateB_iff (ws : List Wr) (k : Int) (t : Tg) : lateB ws k t = true ↔ ∃ x ∈ ws, x.k = k ∧ tcmpT t (tgOf x) ≤ 0 := by
  unfold lateB
  rw [List.any_eq_true]
  constructor
  · rintro ⟨x, hx, h⟩
    simp only [Bool.and_eq_true, decide_eq_true_eq] at h
    refine ⟨x, hx, h.1, ?_⟩
    rw [tcmpT_neg]
    omega
  · rintro ⟨x, hx, h1, h2⟩
    refine ⟨x, hx, ?_⟩
    rw [tcmpT_neg] at h2
    simp only [Bool.and_eq_true, decide_eq_true_eq]
    exact ⟨h1, by omega⟩

/-- f has of each key of each site the last tag of the writes of xs. -/
def LatestOf (f : Int → Int → Option Tg) (xs : List (Int × Wr)) : Prop :=
  ∀ s k, (f s k = none → ∀ p ∈ xs, ¬ (p.1 = s ∧ p.2.k = k)) ∧ ∀ t, f s k = some t → (∃ p ∈ xs, p.1 = s ∧ p.2.k = k ∧ tgOf p.2 = t) ∧ ∀ p ∈ xs, p.1 = s → p.2.k = k → tcmpT (tgOf p.2) t ≤ 0

theorem latest_nil : LatestOf (fun _ _ => none) [] := fun _ _ => ⟨fun _ p hp => by simp at hp, fun t h => by cases h⟩

/-- Is nothing there as late as t? -/
def lacksT (f : Int → Int → Option Tg) (s k : Int) (t : Tg) : Bool := match f s k with
  | none => true
  | some l => decide (tcmpT l t < 0)

theorem lacksT_none {f : Int → Int → Option Tg} {s k : Int} (h : f s k = none) (t : Tg) : lacksT f s k t = true := by
  unfold lacksT
  rw [h]

theorem lacksT_some {f : Int → Int → Option Tg} {s k : Int} {l : Tg} (h : f s k = some l) (t : Tg) : lacksT f s k t = decide (tcmpT l t < 0) := by
  unfold lacksT
  rw [h]

theorem lacks_iff {f : Int → Int → Option Tg} {xs : List (Int × Wr)} (h : LatestOf f xs) (s k : Int) (t : Tg) : lacksT f s k t = false ↔ ∃ p ∈ xs, p.1 = s ∧ p.2.k = k ∧ tcmpT t (tgOf p.2) ≤ 0 := by
  cases hf : f s k with
  | none =>
    rw [lacksT_none hf]
    constructor
    · intro h; cases h
    · rintro ⟨p, hp, h1, h2, _⟩
      exact absurd ⟨h1, h2⟩ ((h s k).1 hf p hp)
  | some l =>
    rw [lacksT_some hf]
    obtain ⟨⟨p, hp, p1, p2, p3⟩, hall⟩ := (h s k).2 l hf
    rw [decide_eq_false_iff_not]
    constructor
    · intro hn
      refine ⟨p, hp, p1, p2, ?_⟩
      rw [p3, tcmpT_neg]
      omega
    · rintro ⟨q, hq, q1, q2, q3⟩ hlt
      have h1 := hall q hq q1 q2
      have h2 := tcmpT_on q3 h1
      rw [tcmpT_neg] at h2
      omega

/-- The map behind one more. -/
def putT (f : Int → Int → Option Tg) (s k : Int) (t : Tg) : Int → Int → Option Tg := fun s' k' => if s' = s ∧ k' = k then some t else f s' k'

def addT (f : Int → Int → Option Tg) (s : Int) (x : Wr) : Int → Int → Option Tg := if lacksT f s x.k (tgOf x) = true then putT f s x.k (tgOf x) else f

theorem latest_add {f : Int → Int → Option Tg} {xs : List (Int × Wr)} (h : LatestOf f xs) (s : Int) (x : Wr) : LatestOf (addT f s x) (xs ++ [(s, x)]) := by
  unfold addT
  intro s' k'
  by_cases hl : lacksT f s x.k (tgOf x) = true
  · rw [if_pos hl]
    unfold putT
    by_cases he : s' = s ∧ k' = x.k
    · obtain ⟨rfl, rfl⟩ := he
      rw [if_pos ⟨rfl, rfl⟩]
      refine ⟨fun h => (by cases h), fun t ht => ?_⟩
      obtain rfl : tgOf x = t := by simpa using ht
      refine ⟨⟨(s', x), by simp, rfl, rfl, rfl⟩, fun p hp p1 p2 => ?_⟩
      rcases List.mem_append.1 hp with hp | hp
      · have h1 : ¬ (∃ p ∈ xs, p.1 = s' ∧ p.2.k = x.k ∧ tcmpT (tgOf x) (tgOf p.2) ≤ 0) := fun e => by
          rw [(lacks_iff h _ _ _).2 e] at hl
          cases hl
        have h2 : ¬ tcmpT (tgOf x) (tgOf p.2) ≤ 0 := fun e => h1 ⟨p, hp, p1, p2, e⟩
        rw [tcmpT_neg]
        omega
      · obtain rfl : p = (s', x) := by simpa using hp
        show tcmpT (tgOf x) (tgOf x) ≤ 0
        rw [tcmpT_self]
        omega
    · rw [if_neg he]
      refine ⟨fun hn p hp => ?_, fun t ht => ?_⟩
      · rcases List.mem_append.1 hp with hp | hp
        · exact (h s' k').1 hn p hp
        · obtain rfl : p = (s, x) := by simpa using hp
          exact fun e => he ⟨e.1.symm, e.2.symm⟩
      · obtain ⟨⟨p, hp, p1⟩, hall⟩ := (h s' k').2 t ht
        refine ⟨⟨p, List.mem_append.2 (.inl hp), p1⟩, fun p hp p1 p2 => ?_⟩
        rcases List.mem_append.1 hp with hp | hp
        · exact hall p hp p1 p2
        · obtain rfl : p = (s, x) := by simpa using hp
          exact absurd ⟨p1.symm, p2.symm⟩ he
  · rw [if_neg hl]
    have hl' : lacksT f s x.k (tgOf x) = false := by simpa using hl
    obtain ⟨r, hr, r1, r2, r3⟩ := (lacks_iff h _ _ _).1 hl'
    refine ⟨fun hn p hp => ?_, fun t ht => ?_⟩
    · rcases List.mem_append.1 hp with hp | hp
      · exact (h s' k').1 hn p hp
      · obtain rfl : p = (s, x) := by simpa using hp
        rintro ⟨e1, e2⟩
        exact (h s' k').1 hn r hr ⟨r1.trans e1, r2.trans e2⟩
    · obtain ⟨⟨p, hp, p1⟩, hall⟩ := (h s' k').2 t ht
      refine ⟨⟨p, List.mem_append.2 (.inl hp), p1⟩, fun p hp p1 p2 => ?_⟩
      rcases List.mem_append.1 hp with hp | hp
      · exact hall p hp p1 p2
      · obtain rfl : p = (s, x) := by simpa using hp
        have p1' : s = s' := p1
        have p2' : x.k = k' := p2
        exact tcmpT_on r3 (hall r hr (r1.trans p1') (r2.trans p2'))

/-- All writes of one event added. -/
def addAll (f : Int → Int → Option Tg) (s : Int) (ws : List Wr) : Int → Int → Option Tg := ws.foldl (fun f x => addT f s x) f

theorem addAll_take (f : Int → Int → Option Tg) (s : Int) (ws : List Wr) {k : Nat} (h : k < ws.length) : addAll f s (ws.take (k + 1)) = addT (addAll f s (ws.take k)) s (ws.getD k wz) := by
  unfold addAll
  have e : ws.take (k + 1) = ws.take k ++ [ws.getD k wz] := by
    rw [List.take_add_one, List.getElem?_eq_getElem h]
    simp [List.getD, h]
  rw [e, List.foldl_append]
  rfl

theorem latest_all (s : Int) : ∀ (ws : List Wr) {f : Int → Int → Option Tg} {xs : List (Int × Wr)}, LatestOf f xs → LatestOf (addAll f s ws) (xs ++ ws.map fun x => (s, x))
  | [], f, xs, h => by simpa [addAll] using h
  | x :: r, f, xs, h => by
    have h1 := latest_all s r (latest_add h s x)
    simpa [addAll] using h1

/-- Is something asked for that is there, and later than what the event has? -/
def pastB (f : Int → Int → Option Tg) (s m : Int) (ws : List Wr) : Bool := (List.range 64).any fun k => match f s (k : Int) with
  | none => false
  | some t => bitG m (k : Int) && lacksT (addAll (fun _ _ => none) s ws) s (k : Int) t

theorem bitG_small {m k : Int} (h1 : m ≤ 9223372036854775807) (h : bitG m k = true) : 0 ≤ k ∧ k < 63 := by
  by_cases h0 : 0 ≤ m
  · by_cases hk : 0 ≤ k
    · refine ⟨hk, ?_⟩
      obtain ⟨n, rfl⟩ : ∃ n : Nat, k = (n : Int) := ⟨k.toNat, by omega⟩
      rw [bitG_pos h0] at h
      by_cases hn : n < 63
      · omega
      · have e1 : (2 : Nat) ^ 63 ≤ 2 ^ n := Nat.pow_le_pow_right (by omega) (by omega)
        have e2 : (2 : Nat) ^ 63 = 9223372036854775808 := by decide
        have e3 : ((2 ^ n : Nat) : Int) = 2 ^ n := by simp
        have e4 : m / 2 ^ n = 0 := Int.ediv_eq_zero_of_lt h0 (by rw [← e3]; omega)
        rw [e4] at h
        simp at h
    · rw [bitG_key hk] at h
      cases h
  · rw [bitG_neg h0] at h
    cases h

theorem past_iff {f : Int → Int → Option Tg} {xs : List (Int × Wr)} (h : LatestOf f xs) (s m : Int) (ws : List Wr) (hm : m ≤ 9223372036854775807) : pastB f s m ws = true ↔ ∃ p ∈ xs, p.1 = s ∧ bitG m p.2.k = true ∧ lateB ws p.2.k (tgOf p.2) = false := by
  have hw : LatestOf (addAll (fun _ _ => none) s ws) (ws.map fun x => (s, x)) := by simpa using latest_all s ws latest_nil
  have hk : ∀ k t, lacksT (addAll (fun _ _ => none) s ws) s k t = !lateB ws k t := fun k t => by
    cases hb : lateB ws k t with
    | true =>
      obtain ⟨x, hx, x1, x2⟩ := (lateB_iff ws k t).1 hb
      exact (lacks_iff hw s k t).2 ⟨(s, x), List.mem_map.2 ⟨x, hx, rfl⟩, rfl, x1, x2⟩
    | false =>
      cases hl : lacksT (addAll (fun _ _ => none) s ws) s k t with
      | true => rfl
      | false =>
        obtain ⟨p, hp, _, p2, p3⟩ := (lacks_iff hw s k t).1 hl
        obtain ⟨x, hx, rfl⟩ := List.mem_map.1 hp
        rw [(lateB_iff ws k t).2 ⟨x, hx, p2, p3⟩] at hb
        cases hb
  unfold pastB
  rw [List.any_eq_true]
  constructor
  · rintro ⟨k, _, h1⟩
    cases hf : f s (k : Int) with
    | none =>
      rw [hf] at h1
      cases h1
    | some t =>
      rw [hf] at h1
      simp only [Bool.and_eq_true] at h1
      rw [hk] at h1
      obtain ⟨⟨p, hp, p1, p2, p3⟩, _⟩ := (h s (k : Int)).2 t hf
      refine ⟨p, hp, p1, ?_, ?_⟩
      · rw [p2]; exact h1.1
      · rw [p2, p3]; simpa using h1.2
  · rintro ⟨p, hp, p1, p2, p3⟩
    obtain ⟨k0, k1⟩ := bitG_small hm p2
    obtain ⟨n, hn⟩ : ∃ n : Nat, p.2.k = (n : Int) := ⟨p.2.k.toNat, by omega⟩
    rw [hn] at p2 p3
    refine ⟨n, List.mem_range.2 (by omega), ?_⟩
    cases hf : f s (n : Int) with
    | none => exact absurd ⟨p1, hn⟩ ((h s (n : Int)).1 hf p hp)
    | some t =>
      have hle := ((h s (n : Int)).2 t hf).2 p hp p1 hn
      simp only [Bool.and_eq_true]
      refine ⟨p2, ?_⟩
      rw [hk]
      cases hb : lateB ws (n : Int) t with
      | false => rfl
      | true =>
        obtain ⟨x, hx, x1, x2⟩ := (lateB_iff ws (n : Int) t).1 hb
        rw [(lateB_iff ws (n : Int) (tgOf p.2)).2 ⟨x, hx, x1, tcmpT_on hle x2⟩] at p3
        cases p3

end Go.Proofs.Ytkgojpmjnehcnaa

/- Maps whose keys are structs of numbers, told as functions from keys to values. -/
namespace Go.Proofs.Ytkgojpmjnehcnaa
open Go.ChangeShapes Go.WideShapes Go.ChangeAt Go.RowKit Go.Joins Go.Maps

/-- An element is told by itself. -/
def asItself (v : Value) : Option (DataW Value × List MemPlace) := some (.held v, [])

/-- How the keys of a type are told: their values, the literals that they are held by, which of them there can be. -/
structure KeyG (κ : Type) (kt : TypeId) where
  v : κ → Value
  l : κ → Lit
  ok : κ → Prop
  law : Keyed Try.prog kt
  key : ∀ k, ok k → keyOf Try.prog kt (v k) = some (l k)
  inj : ∀ k k', v k = v k' → k = k'

set_option maxRecDepth 100000 in
theorem KeyG.lit {κ : Type} {kt : TypeId} (K : KeyG κ kt) {k : κ} (h : K.ok k) : WideAt.IsKeyLit (K.l k) := K.law.key (K.key k h)

set_option maxRecDepth 100000 in
theorem KeyG.linj {κ : Type} {kt : TypeId} (K : KeyG κ kt) {k k' : κ} (h : K.ok k) (h' : K.ok k') (e : K.l k = K.l k') : k = k' := by
  have h1 := K.key k h
  rw [e] at h1
  exact K.inj _ _ (K.law.inj h1 (K.key k' h'))

/-- Block b is a map that holds f. -/
def MapIs {κ : Type} {kt : TypeId} (K : KeyG κ kt) (w : World) (b n : Nat) (f : κ → Option Value) : Prop :=
  ∃ D : DataW Value, w.ownsMap Try.prog kt asItself b n D ∧ ∀ k, K.ok k → (f k = none → Maps.has D (K.l k) = false) ∧ ∀ v, f k = some v → Maps.has D (K.l k) = true ∧ ∀ z, D.atKey (K.l k) z = .held v

set_option maxRecDepth 100000 in
theorem mapIs_made {κ : Type} {kt : TypeId} (K : KeyG κ kt) (w : World) : MapIs K (w.alloc (.map #[] 0)) w.heap.size 0 (fun _ => none) :=
  ⟨.map [], World.ownsMap_made w _ _ _, fun _ _ => ⟨fun _ => rfl, fun v h => by cases h⟩⟩

set_option maxRecDepth 100000 in
theorem MapIs.lt {κ : Type} {kt : TypeId} {K : KeyG κ kt} {w : World} {b n : Nat} {f : κ → Option Value} (h : MapIs K w b n f) : b < w.heap.size := by
  obtain ⟨D, h1, _⟩ := h
  exact h1.lt

set_option maxRecDepth 100000 in
theorem MapIs.of_block {κ : Type} {kt : TypeId} {K : KeyG κ kt} {w w' : World} {b n : Nat} {f : κ → Option Value} (h : MapIs K w b n f) (hb : w'.heap[b]? = w.heap[b]?) : MapIs K w' b n f := by
  obtain ⟨D, ⟨es, clock, h1, h2⟩, h3⟩ := h
  exact ⟨D, ⟨es, clock, hb.trans h1, h2⟩, h3⟩

set_option maxRecDepth 100000 in
theorem MapIs.below {κ : Type} {kt : TypeId} {K : KeyG κ kt} {w w' : World} {b n : Nat} {f : κ → Option Value} (h : MapIs K w b n f) (hb : Below w.heap.size w w') : MapIs K w' b n f := h.of_block (hb.block b h.lt)

set_option maxRecDepth 100000 in
theorem MapIs.congr {κ : Type} {kt : TypeId} {K : KeyG κ kt} {w : World} {b n : Nat} {f g : κ → Option Value} (h : MapIs K w b n f) (e : ∀ k, K.ok k → g k = f k) : MapIs K w b n g := by
  obtain ⟨D, h1, h2⟩ := h
  exact ⟨D, h1, fun k hk => by rw [e k hk]; exact h2 k hk⟩

/-- What a look-up with two answers gives. -/
def lookAns (z : Value) : Option Value → Value
  | none => .tuple #[z, .bool false]
  | some v => .tuple #[v, .bool true]

set_option maxRecDepth 100000 in
theorem MapIs.look {κ : Type} {kt : TypeId} {K : KeyG κ kt} {w : World} {b n : Nat} {f : κ → Option Value} (h : MapIs K w b n f) {t e : TypeId} (ht : Try.prog.underlying t = some (.map kt e)) {z : Value} (hz : (zeroValue e).run Try.prog w = .ok z w) {k : κ} (hk : K.ok k) :
    (Instr.lookup t (.map (some b)) (K.v k) true).run Try.prog w = .ok (lookAns z (f k)) w := by
  obtain ⟨D, h1, h2⟩ := h
  obtain ⟨v, ps, hrun, hv⟩ := h1.look_ok K.law ht hz (zd := .held z) (zp := []) rfl (K.key k hk)
  rw [hrun]
  have e : (DataW.held v : DataW Value) = D.atKey (K.l k) (.held z) := by
    simp only [asItself, Option.some.injEq, Prod.mk.injEq] at hv
    exact hv.1
  cases hf : f k with
  | none =>
    rw [(h2 k hk).1 hf]
    rw [atKey_of_not_has ((h2 k hk).1 hf)] at e
    injection e with e
    rw [e]
    rfl
  | some u =>
    obtain ⟨h3, h4⟩ := (h2 k hk).2 u hf
    rw [h3]
    rw [h4] at e
    injection e with e
    rw [e]
    rfl

set_option maxRecDepth 100000 in
/-- A look-up with one answer. -/
theorem MapIs.look1 {κ : Type} {kt : TypeId} {K : KeyG κ kt} {w : World} {b n : Nat} {f : κ → Option Value} (h : MapIs K w b n f) {t e : TypeId} (ht : Try.prog.underlying t = some (.map kt e)) {z : Value} (hz : (zeroValue e).run Try.prog w = .ok z w) {k : κ} (hk : K.ok k) :
    (Instr.lookup t (.map (some b)) (K.v k) false).run Try.prog w = .ok ((f k).getD z) w := by
  obtain ⟨D, h1, h2⟩ := h
  obtain ⟨v, ps, hrun, hv⟩ := h1.lookup K.law ht hz (zd := .held z) (zp := []) rfl (K.key k hk)
  rw [hrun]
  have e : (DataW.held v : DataW Value) = D.atKey (K.l k) (.held z) := by
    simp only [asItself, Option.some.injEq, Prod.mk.injEq] at hv
    exact hv.1
  cases hf : f k with
  | none =>
    rw [atKey_of_not_has ((h2 k hk).1 hf)] at e
    injection e with e
    rw [e]
    rfl
  | some u =>
    obtain ⟨h3, h4⟩ := (h2 k hk).2 u hf
    rw [h4] at e
    injection e with e
    rw [e]
    rfl

set_option maxRecDepth 100000 in
theorem wpList_lookG {κ : Type} {kt : TypeId} {K : KeyG κ kt} {w : World} {ops : Array Oper} {rest : List Oper} {o : Oper} {a : Act} {Q : Exit → Act → World → Prop} (hg : o.guard = none) (m x : Operand) (t e : TypeId) (hop : o.op = Op.lookup t m x true) (ht : Try.prog.underlying t = some (.map kt e)) {z : Value} (hz : (zeroValue e).run Try.prog w = .ok z w)
    {b n : Nat} {f : κ → Option Value} (h : MapIs K w b n f) (k : κ) (hk : K.ok k) (hm : a.eval m = .map (some b)) (hx : a.eval x = K.v k)
    (hK : wpList Try.prog ops Q rest (a.put o.dst (lookAns z (f k))) w) : wpList Try.prog ops Q (o :: rest) a w := by
  refine wpList_plain hg fun K' hK' => ?_
  unfold Oper.wp
  simp [execOp, hop, hm, hx, h.look ht hz hk, Result.andThen]
  exact hK' _ _ hK

set_option maxRecDepth 100000 in
theorem wpList_lookG1 {κ : Type} {kt : TypeId} {K : KeyG κ kt} {w : World} {ops : Array Oper} {rest : List Oper} {o : Oper} {a : Act} {Q : Exit → Act → World → Prop} (hg : o.guard = none) (m x : Operand) (t e : TypeId) (hop : o.op = Op.lookup t m x false) (ht : Try.prog.underlying t = some (.map kt e)) {z : Value} (hz : (zeroValue e).run Try.prog w = .ok z w)
    {b n : Nat} {f : κ → Option Value} (h : MapIs K w b n f) (k : κ) (hk : K.ok k) (hm : a.eval m = .map (some b)) (hx : a.eval x = K.v k)
    (hK : wpList Try.prog ops Q rest (a.put o.dst ((f k).getD z)) w) : wpList Try.prog ops Q (o :: rest) a w := by
  refine wpList_plain hg fun K' hK' => ?_
  unfold Oper.wp
  simp [execOp, hop, hm, hx, h.look1 ht hz hk, Result.andThen]
  exact hK' _ _ hK

theorem MapIs.mono {κ : Type} {kt : TypeId} {K : KeyG κ kt} {w : World} {b n n' : Nat} {f : κ → Option Value} (h : MapIs K w b n f) (hn : n ≤ n') : MapIs K w b n' f := by
  obtain ⟨E, h3, h4⟩ := h
  exact ⟨E, h3.mono hn, h4⟩

set_option maxRecDepth 100000 in
/-- A store: the map then holds whatever is v at the key and as it was elsewhere. -/
theorem wpList_putG {κ : Type} {kt : TypeId} {K : KeyG κ kt} {w : World} {ops : Array Oper} {rest : List Oper} {o : Oper} {a : Act} {Q : Exit → Act → World → Prop} (hg : o.guard = none) (m x u : Operand) (t e : TypeId) (hop : o.op = Op.mapUpdate t m x u) (ht : Try.prog.underlying t = some (.map kt e))
    {b n : Nat} {f : κ → Option Value} (h : MapIs K w b n f) (hn : n < maxLen) (k : κ) (hk : K.ok k) (v : Value) (hm : a.eval m = .map (some b)) (hx : a.eval x = K.v k) (hu : a.eval u = v)
    (hK : ∀ w', (∀ g : κ → Option Value, g k = some v → (∀ j, j ≠ k → g j = f j) → MapIs K w' b (n + 1) g) → w.mapTurned w' b → wpList Try.prog ops Q rest (a.put o.dst undef) w') : wpList Try.prog ops Q (o :: rest) a w := by
  obtain ⟨D, h1, h2⟩ := h
  refine wpList_mapUpdate_in w hg m x u _ hop _ _ K.law ht asItself b n D hm h1 hn _ v (K.l k) hx hu (K.key k hk) (.held v) [] rfl fun w' h3 h4 => hK w' (fun g g1 g2 => ⟨_, h3, fun j hj => ?_⟩) h4
  by_cases e : j = k
  · subst e
    refine ⟨fun h => (by rw [g1] at h; cases h), fun v' h => ?_⟩
    · rw [g1] at h
      have : v = v' := by simpa using h
      subst this
      exact ⟨has_put_same h1.isMap (K.lit hj) _, fun z => atKey_put_same h1.isMap (K.lit hj) _ _⟩
  · have hne : K.l j ≠ K.l k := fun e' => e (K.linj hj hk e')
    rw [g2 j e]
    exact ⟨fun h => by rw [has_put_other hne]; exact (h2 j hj).1 h, fun v' h => by
      rw [has_put_other hne]
      exact ⟨((h2 j hj).2 v' h).1, fun z => by rw [atKey_put_other hne]; exact ((h2 j hj).2 v' h).2 z⟩⟩

set_option maxRecDepth 100000 in
/-- A key struck out. -/
theorem wpList_delG {κ : Type} {kt : TypeId} {K : KeyG κ kt} {w : World} {ops : Array Oper} {rest : List Oper} {o : Oper} {a : Act} {Q : Exit → Act → World → Prop} (hg : o.guard = none) (m x : Operand) (t e : TypeId) (hop : o.op = Op.call { callee := Callee.builtin Builtin.delete, args := #[m, x], argTypes := #[t, kt] }) (ht : Try.prog.underlying t = some (.map kt e))
    {b n : Nat} {f : κ → Option Value} (h : MapIs K w b n f) (k : κ) (hk : K.ok k) (hm : a.eval m = .map (some b)) (hx : a.eval x = K.v k)
    (hK : ∀ w', (∀ g : κ → Option Value, g k = none → (∀ j, j ≠ k → g j = f j) → MapIs K w' b n g) → w.mapTurned w' b → wpList Try.prog ops Q rest (a.put o.dst (.tuple #[])) w') : wpList Try.prog ops Q (o :: rest) a w := by
  obtain ⟨D, h1, h2⟩ := h
  refine wpList_delete_own w hg m x t kt hop e K.law ht asItself b n D hm h1 _ (K.l k) hx (K.key k hk) fun w' h3 h4 => hK w' (fun g g1 g2 => ⟨_, h3, fun j hj => ?_⟩) h4
  by_cases e : j = k
  · subst e
    exact ⟨fun _ => has_del_same, fun v' h => (by rw [g1] at h; cases h)⟩
  · have hne : K.l j ≠ K.l k := fun e' => e (K.linj hj hk e')
    rw [g2 j e]
    exact ⟨fun h => by rw [has_del_other hne]; exact (h2 j hj).1 h, fun v' h => by
      rw [has_del_other hne]
      exact ⟨((h2 j hj).2 v' h).1, fun z => by rw [atKey_del_other hne]; exact ((h2 j hj).2 v' h).2 z⟩⟩

end Go.Proofs.Ytkgojpmjnehcnaa

/- The keys of two maps: a key as a site has it, and what a dependency says. -/
namespace Go.Proofs.Ytkgojpmjnehcnaa
open Go.ChangeShapes Go.WideShapes Go.ChangeAt Go.RowKit Go.Joins Go.Maps

structure SK where
  s : Int
  k : Int

abbrev skV (x : SK) : Value := .agg #[.int .i64 x.s, .int .i64 x.k]

def skL (x : SK) : Lit := .string (keyBytes [.int .i64 x.s, .int .i64 x.k])

set_option maxRecDepth 100000 in
theorem sk_row : (87 : TypeId) < Try.prog.types.size := of_decide_eq_true (by kernel_rfl)

set_option maxRecDepth 100000 in
theorem sk_cells : Try.prog.cellsOf 87 = 2 := by kernel_rfl

set_option maxRecDepth 100000 in
theorem int_cells1 : Try.prog.cellsOf 3 = 1 := by kernel_rfl

set_option maxRecDepth 100000 in
theorem sk_wide : (match Try.prog.underlying 87 with | some (.array _ _) | some (.struct _) => true | _ => false) = true := by rw [Try.underlying87]

set_option maxRecDepth 100000 in
theorem sk_law : Keyed Try.prog 87 := Keyed.of_law (deep_law_laid laidOut (m := 2) (by omega) sk_row (by kernel_rfl) sk_wide)

set_option maxRecDepth 100000 in
theorem sk_type : Try.prog.keyType 87 = true := by kernel_rfl

set_option maxRecDepth 100000 in
theorem sk_key (x : SK) (h : R64 x.s ∧ R64 x.k) : keyOf Try.prog 87 (skV x) = some (skL x) := by
  have hf : (skV x).formed Try.prog 87 = true := by simp [Value.formed, Try.underlying87, sk_cells]
  obtain ⟨m, hm⟩ : ∃ m, Try.prog.types.size = m + 1 := ⟨Try.prog.types.size - 1, (Nat.sub_add_cancel (Nat.lt_of_le_of_lt (Nat.zero_le _) sk_row)).symm⟩
  unfold keyOf
  rw [Try.underlying87]
  simp only [sk_type, hf, Bool.and_self, if_true]
  rw [hm]
  simp [Program.keyLits, Try.underlying87, Try.underlying3, sk_cells, int_cells1, Value.cells, r64_wf h.1, r64_wf h.2, skL, List.range]

def keyS : KeyG SK 87 where
  v := fun x => skV x
  l := skL
  ok := fun x => R64 x.s ∧ R64 x.k
  law := sk_law
  key := sk_key
  inj := fun x y h => by
    cases x
    cases y
    simp at h
    simp [h]

end Go.Proofs.Ytkgojpmjnehcnaa

/- The contract of the specification's l02Copy. -/
namespace Go.Proofs.Ytkgojpmjnehcnaa
open Go.ChangeShapes Go.WideShapes Go.ChangeAt Go.RowKit Go.Joins
attribute [local go_sem ↓] Go.wp_at_zero Go.wp_at_succ

def depVals (xs : List Dp) : List Value := (List.range (xs.length * 4)).map fun j => .int .i64 (depCell xs j)

theorem depVals_len (xs : List Dp) : (depVals xs).length = xs.length * 4 := by simp [depVals]

theorem holds_cells {w : World} {b o : Nat} {xs : List Dp} (h : HoldsDeps w b o xs) {j : Nat} (hj : j < xs.length * 4) : w.cell? ⟨b, o + j, none⟩ = some (.int .i64 (depCell xs j)) := by
  obtain ⟨h0, h1, h2, h3⟩ := h (j / 4) (by omega)
  have h4 : j % 4 = 0 ∨ j % 4 = 1 ∨ j % 4 = 2 ∨ j % 4 = 3 := by omega
  rcases h4 with e | e | e | e
  · rw [show j = j / 4 * 4 by omega, depCell0]
    exact h0
  · rw [show j = j / 4 * 4 + 1 by omega, depCell1, ← Nat.add_assoc]
    exact h1
  · rw [show j = j / 4 * 4 + 2 by omega, depCell2, ← Nat.add_assoc]
    exact h2
  · rw [show j = j / 4 * 4 + 3 by omega, depCell3, ← Nat.add_assoc]
    exact h3

theorem holds_of_cells {w : World} {b : Nat} {xs : List Dp} (h : ∀ j, j < xs.length * 4 → w.cell? ⟨b, j, none⟩ = some (.int .i64 (depCell xs j))) : HoldsDeps w b 0 xs := by
  intro i hi
  rw [Nat.zero_add]
  refine ⟨?_, ?_, ?_, ?_⟩
  · rw [h _ (by omega), depCell0]
  · rw [h _ (by omega), depCell1]
  · rw [h _ (by omega), depCell2]
  · rw [h _ (by omega), depCell3]

theorem depVals_cells {w : World} {b o : Nat} {xs : List Dp} (h : HoldsDeps w b o xs) : ∀ j u, (depVals xs)[j]? = some u → w.cell? ((⟨b, o, none⟩ : Addr).add j) = some u := by
  intro j u hu
  have hj : j < xs.length * 4 := by
    have := (List.getElem?_eq_some_iff.1 hu).1
    rwa [depVals_len] at this
  have e : (⟨b, o, none⟩ : Addr).add j = ⟨b, o + j, none⟩ := by
    unfold Addr.add
    split
    · rename_i h
      rw [h]
      rfl
    · rfl
  rw [e, holds_cells h hj, ← hu]
  simp [depVals, hj]

theorem depVals_one (xs : List Dp) : ∀ u ∈ depVals xs, u.oneCell' = true := by
  intro u hu
  simp only [depVals, List.mem_map] at hu
  obtain ⟨j, _, rfl⟩ := hu
  rfl

theorem depVals_holds {w : World} {base g n cap : Nat} {xs : List Dp} {t : Nat} (hl : xs.length = n) (h : w.ownsRow base t 4 (.slice (some ⟨g, 0, none⟩) n cap) n (depVals xs)) : HoldsDeps w g 0 xs := by
  subst hl
  refine holds_of_cells fun j hj => ?_
  rw [h.cellAt j hj]
  simp [depVals, hj]

theorem run_append_zero {P : Program} (w : World) (t ty e : TypeId) (i : TypeInfo) (ht : P.underlying t = some (.slice e)) (hi : P.info? e = some i) (b : Option Addr) (n c : Nat) (hle : n ≤ c) (a : Option Addr) (cap : Nat) :
    (Builtin.append_ #[t, t] ty #[.slice b n c, .slice a 0 cap]).run P w = .ok (.slice b n c) w := by
  cases a <;> cases b <;> simp [Builtin.append_, run_underlying ht, sizeOf, typeInfo, hi, Builtin.lenOf, Builtin.firstCells, hle, storeCells, loadCells, loadCellsFrom]

/-- Nothing is appended. -/
theorem wpList_append_zero {P : Program} {w : World} {ops : Array Oper} {rest : List Oper} {o : Oper} {a : Act} {Q : Exit → Act → World → Prop} (hgd : o.guard = none) (s x : Operand) (t : TypeId)
    (ho : o.op = .call { callee := .builtin .append, args := #[s, x], argTypes := #[t, t] }) (e : TypeId) (i : TypeInfo) (ht : P.underlying t = some (.slice e)) (hi : P.info? e = some i)
    (b : Option Addr) (n c : Nat) (hle : n ≤ c) (hs : a.eval s = .slice b n c) (ad : Option Addr) (cap : Nat) (hx : a.eval x = .slice ad 0 cap)
    (h : wpList P ops Q rest (a.put o.dst (.slice b n c)) w) : wpList P ops Q (o :: rest) a w := by
  refine wpList_plain hgd fun K hK => ?_
  have hrun := run_append_zero (P := P) w t o.type e i ht hi b n c hle ad cap
  unfold Oper.wp
  simp [execOp, ho, resolve, invoke, builtin, hs, hx, hrun, Result.andThen]
  exact hK _ _ h

/-- What a block holds that is not the one that was written. -/
theorem kept_block {W w1 : World} {b r t : Nat} {vs : Array Value} (hg : W.grownBy w1 (some r)) (hr : b ≠ r) (h : W.heap[b]? = some (.cells vs t (0, 0))) : (∀ j v, vs[j]? = some v → w1.cell? ⟨b, j, none⟩ = some v) ∧ ∀ j, w1.frozen? ⟨b, j, none⟩ = false := by
  have hb : b < W.heap.size := (Array.getElem?_eq_some_iff.1 h).1
  have e := hg.block b hb (by simpa using hr)
  rw [h] at e
  exact ⟨fun j v hv => by rw [cell_of_row w1 b j vs t (0, 0) e]; exact hv, fun j => frozen_of_row w1 b j vs t e⟩

theorem heap_two (w : World) (o1 o2 o3 : Obj) : (((w.alloc o1).alloc o2).alloc o3).heap[w.heap.size]? = some o1 ∧ (((w.alloc o1).alloc o2).alloc o3).heap[w.heap.size + 1]? = some o2 := by
  constructor
  · rw [Below.heap_alloc _ _ _ (by simp; omega), Below.heap_alloc _ _ _ (by simp)]
    exact heap_alloc_new w o1
  · rw [Below.heap_alloc _ _ _ (by simp)]
    have := heap_alloc_new (w.alloc o1) o2
    simpa using this

set_option maxHeartbeats 2000000 in
theorem copy_some (x : Wr) (b o cap : Nat) (w : World) (hn : x.xs.length ≤ 1048576) (hp : 0 < x.xs.length) (hlt : b < w.heap.size) (hh : HoldsDeps w b o x.xs) :
    Calls Try.prog 34 #[wrOf x (some ⟨b, o, none⟩) cap] w fun e w' => ∃ g cp, e = .returned (wrOf x (some ⟨g, 0, none⟩) cp) ∧ w.heap.size ≤ g ∧ g < w'.heap.size ∧ HoldsDeps w' g 0 x.xs ∧ Below w.heap.size w w' := by
  obtain ⟨xk, xc, xs', xq, xv, xd, xx⟩ := x
  simp only at hn hp hh ⊢
  have HH : Hid (HoldsDeps w b o xx) := hh
  clear hh
  obtain ⟨i0, hi0, hx0⟩ := Option.map_eq_some_iff.1 infoDep
  simp only [Prod.mk.injEq] at hx0
  have HI0 := Lib.hid hi0
  have HX0 := Lib.hid hx0
  clear hi0 hx0
  go_enter Try.func34, Try.ntmps34
  have HB0 : Hid (Below w.heap.size w (((w.alloc (.cells #[.int .i64 xk, .int .i64 xc, .int .i64 xs', .int .i64 xq, .int .i64 xv, .bool xd, .slice (some ⟨b, o, none⟩) xx.length cap] 43)).alloc (.cells #[.int .i64 0, .int .i64 0, .int .i64 0, .int .i64 0, .int .i64 0, .bool false, .slice none 0 0] 43)).alloc (.cells #[] 71))) :=
    (((Below.refl _ _).alloc (Nat.le_refl _) _).alloc (by simp) _).alloc (by simp; omega) _
  have HO0 : Hid ((((w.alloc (.cells #[.int .i64 xk, .int .i64 xc, .int .i64 xs', .int .i64 xq, .int .i64 xv, .bool xd, .slice (some ⟨b, o, none⟩) xx.length cap] 43)).alloc (.cells #[.int .i64 0, .int .i64 0, .int .i64 0, .int .i64 0, .int .i64 0, .bool false, .slice none 0 0] 43)).alloc (.cells #[] 71)).ownsRow (w.heap.size + 1 + 1) 71 4 (.slice (some ⟨w.heap.size + 1 + 1, 0, none⟩) 0 0) 0 []) := by
    have := World.ownsRow_made (base := w.heap.size + 1 + 1) (e := 71) (size := 4) ((w.alloc (.cells #[.int .i64 xk, .int .i64 xc, .int .i64 xs', .int .i64 xq, .int .i64 xv, .bool xd, .slice (some ⟨b, o, none⟩) xx.length cap] 43)).alloc (.cells #[.int .i64 0, .int .i64 0, .int .i64 0, .int .i64 0, .int .i64 0, .bool false, .slice none 0 0] 43)) #[] 0 (by simp) (by simp [maxLen]) (by simp)
    exact Lib.hid (by simpa using this)
  go_wp2_with (at_builtin; refine wpList_append_lies _ (by rfl) _ _ _ (by rfl) (w.heap.size + 1 + 1) 71 i0 (depV 0 0 0 0) 4 32 Try.underlying41 HI0.out HX0.out.1 HX0.out.2.1 HX0.out.2.2 (by rfl) (by omega) (.slice (some ⟨w.heap.size + 1 + 1, 0, none⟩) 0 0) 0 [] (by rfl) HO0.out ⟨b, o, none⟩ xx.length cap (depVals xx) (by rfl) (depVals_len xx) (depVals_cells (HH.out.below HB0.out hlt)) (depVals_one xx) hp (by unfold maxLen; omega) (by omega) (by simp) _ rfl ?_; intro g cp w5 hown hgrow _ hg5; refine Hid.out ?_)
  refine Lib.hid ?_
  rw [Nat.zero_add] at hown
  obtain ⟨hg4, -⟩ := (fun h => (hown.lt g h) : _ → _ ∧ _) rfl
  have HD5 : Hid (HoldsDeps w5 g 0 xx) := depVals_holds rfl hown
  have HB5 : Hid (Below w.heap.size w w5) := HB0.out.grown hgrow HB0.out.size fun k hk => by simp only [Value.ownBlock, Option.some.injEq] at hk; omega
  obtain ⟨hb0, hf0⟩ := kept_block (r := w.heap.size + 1 + 1) hgrow (by omega) (heap_two w _ _ _).1
  obtain ⟨hb1, hf1⟩ := kept_block (r := w.heap.size + 1 + 1) hgrow (by omega) (heap_two w _ _ _).2
  have b0 := hb0 0 _ rfl
  have b1 := hb0 1 _ rfl
  have b2 := hb0 2 _ rfl
  have b3 := hb0 3 _ rfl
  have b4 := hb0 4 _ rfl
  have b5 := hb0 5 _ rfl
  have b6 := hb0 6 _ rfl
  have z0 := hb1 0 _ rfl
  have z1 := hb1 1 _ rfl
  have z2 := hb1 2 _ rfl
  have z3 := hb1 3 _ rfl
  have z4 := hb1 4 _ rfl
  have z5 := hb1 5 _ rfl
  have z6 := hb1 6 _ rfl
  clear hb0 hb1
  have hz5 : w.heap.size + 1 + 1 < w5.heap.size := by have := hgrow.size; simp at this; omega
  clear hown hgrow HB0 HO0
  go_wp2
  refine bodyPost_ret (v := wrV xk xc xs' xq xv xd (some ⟨g, 0, none⟩) xx.length cp) (by simp [results, Try.results34, go_sem, z0, z1, z2, z3, z4, z5, z6]) rfl ⟨g, cp, rfl, by omega, by simpa using hg5, ?_, ?_⟩
  · exact (((((((HD5.out.set (by simp; omega) _).set (by simp; omega) _).set (by simp; omega) _).set (by simp; omega) _).set (by simp; omega) _).set (by simp; omega) _).set (by simp; omega) _).set (by simp; omega) _
  · exact (((((((HB5.out.setCell (by simp) _).setCell (by simp) _).setCell (by simp) _).setCell (by simp) _).setCell (by simp) _).setCell (by simp) _).setCell (by simp) _).setCell (by simp) _

set_option maxHeartbeats 2000000 in
theorem copy_none (x : Wr) (a : Option Addr) (cap : Nat) (w : World) (hx : x.xs = []) :
    Calls Try.prog 34 #[wrOf x a cap] w fun e w' => ∃ g cp, e = .returned (wrOf x (some ⟨g, 0, none⟩) cp) ∧ w.heap.size ≤ g ∧ g < w'.heap.size ∧ HoldsDeps w' g 0 x.xs ∧ Below w.heap.size w w' := by
  obtain ⟨xk, xc, xs', xq, xv, xd, xx⟩ := x
  simp only at hx
  subst hx
  obtain ⟨i0, hi0, -⟩ := Option.map_eq_some_iff.1 infoDep
  have HI0 := Lib.hid hi0
  clear hi0
  go_enter Try.func34, Try.ntmps34
  go_wp2_with (at_builtin; refine wpList_append_zero (by rfl) _ _ _ (by rfl) 71 i0 Try.underlying41 HI0.out (some ⟨w.heap.size + 1 + 1, 0, none⟩) 0 0 (by omega) (by rfl) a cap (by rfl) ?_)
  exact bodyPost_ret (v := wrV xk xc xs' xq xv xd (some ⟨w.heap.size + 1 + 1, 0, none⟩) 0 0) (by simp [results, Try.results34, go_sem]) rfl ⟨w.heap.size + 1 + 1, 0, rfl, by omega, by simp, fun i hi => absurd hi (Nat.not_lt_zero i), (((Below.refl _ _).alloc (Nat.le_refl _) _).alloc (by simp) _).alloc (by simp; omega) _⟩

theorem copy_any (x : Wr) (a : Option Addr) (cap : Nat) (w : World) (hn : x.xs.length ≤ 1048576) (h : IsDeps w a x.xs) :
    Calls Try.prog 34 #[wrOf x a cap] w fun e w' => ∃ g cp, e = .returned (wrOf x (some ⟨g, 0, none⟩) cp) ∧ w.heap.size ≤ g ∧ g < w'.heap.size ∧ HoldsDeps w' g 0 x.xs ∧ Below w.heap.size w w' := by
  rcases h with h | ⟨b, o, rfl, hlt, hh⟩
  · exact copy_none x a cap w h
  · by_cases hp : 0 < x.xs.length
    · exact copy_some x b o cap w hn hp hlt hh
    · exact copy_none x _ cap w (List.length_eq_zero_iff.1 (by omega))

end Go.Proofs.Ytkgojpmjnehcnaa
