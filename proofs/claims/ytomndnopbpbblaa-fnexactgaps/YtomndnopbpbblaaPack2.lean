import Derived.Test.YtomndnopbpbblaaPack1
import Derived.Lib.Hide
import Derived.Deep.AppendLies
import Derived.Laws.OwnMore
import Derived.Deep.DrawnRows
/- Lists of writes in memory; the contracts of szWriteS, toWriteS, eqWriteS. -/
namespace Go.Proofs.Ytomndnopbpbblaa
open Go.ChangeShapes Go.WideShapes Go.ChangeAt Go.RowKit Go.Joins
attribute [local go_sem ↓] Go.wp_at_zero Go.wp_at_succ

structure Wr where
  k : Int
  c : Int
  s : Int
  q : Int
  v : Int
  de : Bool
  xs : List Dp

def wz : Wr := ⟨0, 0, 0, 0, 0, false, []⟩

/-- A write's cells from place o of block b on, its dependencies at a. -/
def WrAt (w : World) (b o : Nat) (x : Wr) (a : Option Addr) (cap : Nat) : Prop :=
  w.cell? ⟨b, o, none⟩ = some (.int .i64 x.k) ∧ w.cell? ⟨b, o + 1, none⟩ = some (.int .i64 x.c) ∧ w.cell? ⟨b, o + 2, none⟩ = some (.int .i64 x.s) ∧ w.cell? ⟨b, o + 3, none⟩ = some (.int .i64 x.q) ∧
  w.cell? ⟨b, o + 4, none⟩ = some (.int .i64 x.v) ∧ w.cell? ⟨b, o + 5, none⟩ = some (.bool x.de) ∧ w.cell? ⟨b, o + 6, none⟩ = some (.slice a x.xs.length cap)

theorem WrAt.of_block {w w' : World} {b o : Nat} {x : Wr} {a : Option Addr} {cap : Nat} (h : WrAt w b o x a cap) (hb : w'.heap[b]? = w.heap[b]?) : WrAt w' b o x a cap := by
  obtain ⟨h0, h1, h2, h3, h4, h5, h6⟩ := h
  have e : ∀ i, w'.cell? ⟨b, i, none⟩ = w.cell? ⟨b, i, none⟩ := fun i => World.cell?_of_block (a := ⟨b, i, none⟩) hb
  exact ⟨(e _).trans h0, (e _).trans h1, (e _).trans h2, (e _).trans h3, (e _).trans h4, (e _).trans h5, (e _).trans h6⟩

/-- What a slice of writes leads to, wherever its writes' dependencies lie. -/
def IsWs (w : World) (a : Option Addr) (ws : List Wr) : Prop :=
  ws = [] ∨ ∃ b o, a = some ⟨b, o, none⟩ ∧ b < w.heap.size ∧ ∀ i, i < ws.length → ∃ a' cap, WrAt w b (o + i * 7) (ws.getD i wz) a' cap ∧ (ws.getD i wz).xs.length ≤ maxLen ∧ IsDeps w a' (ws.getD i wz).xs

theorem IsWs.below {w w' : World} {a : Option Addr} {ws : List Wr} (h : IsWs w a ws) (hb : Below w.heap.size w w') : IsWs w' a ws := by
  rcases h with h | ⟨b, o, ha, hlt, hh⟩
  · exact .inl h
  · refine .inr ⟨b, o, ha, Nat.lt_of_lt_of_le hlt hb.size, fun i hi => ?_⟩
    obtain ⟨a', cap, h1, h2, h3⟩ := hh i hi
    exact ⟨a', cap, h1.of_block (hb.block _ hlt), h2, h3.below hb⟩

/-- A row of writes from block b's begin on, write number i's dependencies from block γ i's begin on. -/
def HoldsWs (w : World) (b : Nat) (ws : List Wr) (γ : Nat → Nat) : Prop :=
  b < w.heap.size ∧ ∀ i, i < ws.length → (∃ cap, WrAt w b (i * 7) (ws.getD i wz) (some ⟨γ i, 0, none⟩) cap) ∧ γ i < w.heap.size ∧ HoldsDeps w (γ i) 0 (ws.getD i wz).xs

theorem HoldsWs.below {w w' : World} {b : Nat} {ws : List Wr} {γ : Nat → Nat} (h : HoldsWs w b ws γ) (hb : Below w.heap.size w w') : HoldsWs w' b ws γ := by
  refine ⟨Nat.lt_of_lt_of_le h.1 hb.size, fun i hi => ?_⟩
  obtain ⟨⟨cap, h1⟩, h2, h3⟩ := h.2 i hi
  exact ⟨⟨cap, h1.of_block (hb.block _ h.1)⟩, Nat.lt_of_lt_of_le h2 hb.size, h3.below hb h2⟩

/-- How much a list of writes is: its length, and those of its writes' dependencies. -/
def bulk : List Wr → Nat
  | [] => 0
  | x :: r => x.xs.length + bulk r

theorem bulk_take (ws : List Wr) (k : Nat) (h : k < ws.length) : bulk (ws.take (k + 1)) = bulk (ws.take k) + (ws.getD k wz).xs.length := by
  induction ws generalizing k with
  | nil => simp at h
  | cons x r ih =>
    cases k with
    | zero => simp [bulk]
    | succ k =>
      have := ih k (by simpa using h)
      simp only [List.take_succ_cons, bulk, List.getD_cons_succ] at this ⊢
      omega

theorem bulk_one (ws : List Wr) (k : Nat) (h : k < ws.length) : (ws.getD k wz).xs.length ≤ bulk ws := by
  induction ws generalizing k with
  | nil => simp at h
  | cons x r ih =>
    cases k with
    | zero => simp [bulk]
    | succ k =>
      have := ih k (by simpa using h)
      simp only [bulk, List.getD_cons_succ]
      omega

theorem ws_at {w w' : World} {a : Option Addr} {ws : List Wr} {n : Nat} (h : IsWs w a ws) (hb : Below w.heap.size w w') (hn : ws.length = n) {k : Nat} (hk : k < n) :
    ∃ b o a' cap, a = some ⟨b, o, none⟩ ∧ WrAt w' b (o + k * 7) (ws.getD k wz) a' cap ∧ (ws.getD k wz).xs.length ≤ maxLen ∧ IsDeps w' a' (ws.getD k wz).xs := by
  rcases h.below hb with h | ⟨b, o, ha, _, hh⟩
  · subst h
    simp at hn
    omega
  · obtain ⟨a', cap, h1, h2, h3⟩ := hh k (by omega)
    exact ⟨b, o, a', cap, ha, h1, h2, h3⟩

set_option maxHeartbeats 1000000 in
theorem szWriteS_any (a : Option Addr) (len cap : Nat) (left : Int) (ws : List Wr) (w : World) (h0 : 0 ≤ left) (h1 : left ≤ 1048576) (hm : len ≤ maxLen) (hl : ws.length = len) (hi : IsWs w a ws) :
    Calls Try.prog 41 #[.slice a len cap, .int .i64 left] w fun e w' => ∃ r : Int, e = .returned (.int .i64 r) ∧ (r = -1 ∨ (0 ≤ r ∧ r = left - len - bulk ws)) ∧ Below w.heap.size w w' := by
  have HI : Hid (IsWs w a ws) := hi
  have HL : Hid (ws.length = len) := hl
  clear hi hl
  unfold maxLen at hm
  go_enter Try.func41, Try.ntmps41
  by_cases hbig : left < (len : Int)
  · go_wp2
    go_ret
    exact ⟨_, rfl, .inl rfl, Below.refl _ _⟩
  go_wp2
  go_loopw [1, 5] (fun l i wr => ∃ (k : Nat) (r : Int), k ≤ len ∧ i = .int .i64 k ∧ l = .int .i64 r ∧ 0 ≤ r ∧ r ≤ 1048576 ∧ Hid (r = left - len - bulk (ws.take k)) ∧ Hid (Below w.heap.size w wr)) (fun _ i _ => len - (intOf i).toNat)
  case atStart => exact ⟨0, left - len, by omega, rfl, rfl, by omega, by omega, by simp [Hid, bulk], Below.refl _ _⟩
  case round =>
    obtain ⟨k, r, hk, rfl, rfl, r0, r1, HR, HB⟩ := hrel
    by_cases hk' : k < len
    · obtain ⟨b, o, a', cp, rfl, hw, hmx, hd⟩ := ws_at HI.out HB.out HL.out hk'
      obtain ⟨e0, e1, e2, e3, e4, e5, e6⟩ := hw
      have HT := Lib.hid (bulk_take ws k (by rw [HL.out]; exact hk'))
      have i1 : (0 : Int) ≤ (k : Int) := by omega
      have i2 : (k : Int) < (len : Int) := by omega
      clear hd
      generalize ws.getD k wz = x at *
      by_cases hx : (x.xs.length : Int) ≤ r
      · go_wp2_with fail
        refine (szWrite_small _ _ _ _ _ _ _ _ _ _ _ r0 r1 hx).mono ?_
        rintro e w2 ⟨rfl, hb⟩
        have HB2 : Hid (Below w.heap.size w w2) := below_step HB.out HB.out.size hb
        clear hb
        go_wp2
        exact ⟨⟨k + 1, _, by omega, by go_num, rfl, by omega, by omega, by have := HT.out; have := HR.out; exact Lib.hid (by omega), HB2⟩, by simp [intOf]; omega⟩
      · go_wp2_with fail
        refine (szWrite_big _ _ _ _ _ _ _ _ _ _ _ r0 r1 (by omega) hmx).mono ?_
        rintro e w2 ⟨rfl, hb⟩
        have HB2 : Hid (Below w.heap.size w w2) := below_step HB.out HB.out.size hb
        clear hb
        go_wp2
        go_ret
        exact ⟨_, rfl, .inl rfl, HB2.out⟩
    · have hkk : k = len := by omega
      subst hkk
      go_wp2
      go_ret
      refine ⟨_, rfl, .inr ⟨r0, ?_⟩, HB.out⟩
      have := HR.out
      rw [show ws.take k = ws from List.take_of_length_le (by rw [HL.out]; exact Nat.le_refl _)] at this
      exact this

/-- Cell j of a row of writes. -/
def wrCell (ws : List Wr) (γ : Nat → Nat) (j : Nat) : Value :=
  if j % 7 = 0 then .int .i64 (ws.getD (j / 7) wz).k else if j % 7 = 1 then .int .i64 (ws.getD (j / 7) wz).c else if j % 7 = 2 then .int .i64 (ws.getD (j / 7) wz).s else if j % 7 = 3 then .int .i64 (ws.getD (j / 7) wz).q
  else if j % 7 = 4 then .int .i64 (ws.getD (j / 7) wz).v else if j % 7 = 5 then .bool (ws.getD (j / 7) wz).de else .slice (some ⟨γ (j / 7), 0, none⟩) (ws.getD (j / 7) wz).xs.length (ws.getD (j / 7) wz).xs.length

/-- Cell j of a row of zero writes. -/
def zeroCell (j : Nat) : Value := if j % 7 = 5 then .bool false else if j % 7 = 6 then .slice none 0 0 else .int .i64 0

def wrFill (ws : List Wr) (γ : Nat → Nat) (k j : Nat) : Value := if j < k * 7 then wrCell ws γ j else zeroCell j

def upd (γ : Nat → Nat) (k g : Nat) : Nat → Nat := fun i => if i = k then g else γ i

theorem upd_at (γ : Nat → Nat) (k g : Nat) : upd γ k g k = g := by simp [upd]

theorem upd_off (γ : Nat → Nat) {k i : Nat} (g : Nat) (h : i ≠ k) : upd γ k g i = γ i := by simp [upd, h]

theorem wrCell0 (ws : List Wr) (γ : Nat → Nat) (k : Nat) : wrCell ws γ (k * 7) = .int .i64 (ws.getD k wz).k := by
  unfold wrCell
  rw [if_pos (by omega), show k * 7 / 7 = k by omega]

theorem wrCell1 (ws : List Wr) (γ : Nat → Nat) (k : Nat) : wrCell ws γ (k * 7 + 1) = .int .i64 (ws.getD k wz).c := by
  unfold wrCell
  rw [if_neg (by omega), if_pos (by omega), show (k * 7 + 1) / 7 = k by omega]

theorem wrCell2 (ws : List Wr) (γ : Nat → Nat) (k : Nat) : wrCell ws γ (k * 7 + 2) = .int .i64 (ws.getD k wz).s := by
  unfold wrCell
  rw [if_neg (by omega), if_neg (by omega), if_pos (by omega), show (k * 7 + 2) / 7 = k by omega]

theorem wrCell3 (ws : List Wr) (γ : Nat → Nat) (k : Nat) : wrCell ws γ (k * 7 + 3) = .int .i64 (ws.getD k wz).q := by
  unfold wrCell
  rw [if_neg (by omega), if_neg (by omega), if_neg (by omega), if_pos (by omega), show (k * 7 + 3) / 7 = k by omega]

theorem wrCell4 (ws : List Wr) (γ : Nat → Nat) (k : Nat) : wrCell ws γ (k * 7 + 4) = .int .i64 (ws.getD k wz).v := by
  unfold wrCell
  rw [if_neg (by omega), if_neg (by omega), if_neg (by omega), if_neg (by omega), if_pos (by omega), show (k * 7 + 4) / 7 = k by omega]

theorem wrCell5 (ws : List Wr) (γ : Nat → Nat) (k : Nat) : wrCell ws γ (k * 7 + 5) = .bool (ws.getD k wz).de := by
  unfold wrCell
  rw [if_neg (by omega), if_neg (by omega), if_neg (by omega), if_neg (by omega), if_neg (by omega), if_pos (by omega), show (k * 7 + 5) / 7 = k by omega]

theorem wrCell6 (ws : List Wr) (γ : Nat → Nat) (k : Nat) : wrCell ws γ (k * 7 + 6) = .slice (some ⟨γ k, 0, none⟩) (ws.getD k wz).xs.length (ws.getD k wz).xs.length := by
  unfold wrCell
  rw [if_neg (by omega), if_neg (by omega), if_neg (by omega), if_neg (by omega), if_neg (by omega), if_neg (by omega), show (k * 7 + 6) / 7 = k by omega]

theorem wrCell_off (ws : List Wr) (γ : Nat → Nat) (k g j : Nat) (h : j < k * 7) : wrCell ws (upd γ k g) j = wrCell ws γ j := by
  unfold wrCell
  rw [upd_off γ g (show j / 7 ≠ k by omega)]

theorem wrFill_step (ws : List Wr) (γ : Nat → Nat) (k g j : Nat) :
    (if j = k * 7 + 6 then Value.slice (some ⟨g, 0, none⟩) (ws.getD k wz).xs.length (ws.getD k wz).xs.length else if j = k * 7 + 5 then Value.bool (ws.getD k wz).de else if j = k * 7 + 4 then Value.int .i64 (ws.getD k wz).v else if j = k * 7 + 3 then Value.int .i64 (ws.getD k wz).q else if j = k * 7 + 2 then Value.int .i64 (ws.getD k wz).s else if j = k * 7 + 1 then Value.int .i64 (ws.getD k wz).c else if j = k * 7 then Value.int .i64 (ws.getD k wz).k else wrFill ws γ k j) = wrFill ws (upd γ k g) (k + 1) j := by
  unfold wrFill
  by_cases h6 : j = k * 7 + 6
  · rw [if_pos h6, if_pos (by omega), h6, wrCell6, upd_at]
  rw [if_neg h6]
  by_cases h5 : j = k * 7 + 5
  · rw [if_pos h5, if_pos (by omega), h5, wrCell5]
  rw [if_neg h5]
  by_cases h4 : j = k * 7 + 4
  · rw [if_pos h4, if_pos (by omega), h4, wrCell4]
  rw [if_neg h4]
  by_cases h3 : j = k * 7 + 3
  · rw [if_pos h3, if_pos (by omega), h3, wrCell3]
  rw [if_neg h3]
  by_cases h2 : j = k * 7 + 2
  · rw [if_pos h2, if_pos (by omega), h2, wrCell2]
  rw [if_neg h2]
  by_cases h1 : j = k * 7 + 1
  · rw [if_pos h1, if_pos (by omega), h1, wrCell1]
  rw [if_neg h1]
  by_cases h0 : j = k * 7
  · rw [if_pos h0, if_pos (by omega), h0, wrCell0]
  rw [if_neg h0]
  by_cases hl : j < k * 7
  · rw [if_pos hl, if_pos (by omega), wrCell_off _ _ _ _ _ hl]
  · rw [if_neg hl, if_neg (by omega)]

theorem wrAt_of_row {w : World} {b t : Nat} {ws : List Wr} {γ : Nat → Nat} (h : w.rowIs b t (ws.length * 7) (wrFill ws γ ws.length)) {i : Nat} (hi : i < ws.length) : WrAt w b (i * 7) (ws.getD i wz) (some ⟨γ i, 0, none⟩) (ws.getD i wz).xs.length := by
  refine ⟨?_, ?_, ?_, ?_, ?_, ?_, ?_⟩
  · rw [h.cell (by omega), wrFill, if_pos (by omega), wrCell0]
  · rw [h.cell (by omega), wrFill, if_pos (by omega), wrCell1]
  · rw [h.cell (by omega), wrFill, if_pos (by omega), wrCell2]
  · rw [h.cell (by omega), wrFill, if_pos (by omega), wrCell3]
  · rw [h.cell (by omega), wrFill, if_pos (by omega), wrCell4]
  · rw [h.cell (by omega), wrFill, if_pos (by omega), wrCell5]
  · rw [h.cell (by omega), wrFill, if_pos (by omega), wrCell6]

theorem wrow_start (w : World) (t n : Nat) (ws : List Wr) (γ : Nat → Nat) : (w.alloc (.cells (madeCells #[.int .i64 0, .int .i64 0, .int .i64 0, .int .i64 0, .int .i64 0, .bool false, .slice none 0 0] (n * 7)) t)).rowIs w.heap.size t (n * 7) (wrFill ws γ 0) := by
  refine ⟨_, Go.Deep.blk_alloc_new _ _, size_madeCells _ _, fun i hi => ?_⟩
  have e : wrFill ws γ 0 i = zeroCell i := by unfold wrFill; rw [if_neg (by omega)]
  rw [e]
  have h7 : i % 7 = 0 ∨ i % 7 = 1 ∨ i % 7 = 2 ∨ i % 7 = 3 ∨ i % 7 = 4 ∨ i % 7 = 5 ∨ i % 7 = 6 := by omega
  rcases h7 with h | h | h | h | h | h | h <;> simp [madeCells, zeroCell, hi, h]

abbrev set7 (w : World) (g o : Nat) (x : Wr) (a : Option Addr) (len cap : Nat) : World :=
  ((((((w.setCell ⟨g, o, none⟩ (.int .i64 x.k)).setCell ⟨g, o + 1, none⟩ (.int .i64 x.c)).setCell ⟨g, o + 2, none⟩ (.int .i64 x.s)).setCell ⟨g, o + 3, none⟩ (.int .i64 x.q)).setCell ⟨g, o + 4, none⟩ (.int .i64 x.v)).setCell ⟨g, o + 5, none⟩ (.bool x.de)).setCell ⟨g, o + 6, none⟩ (.slice a len cap)

theorem wrow_step {w : World} {b t n : Nat} {ws : List Wr} {γ : Nat → Nat} {k : Nat} (g : Nat) (h : w.rowIs b t n (wrFill ws γ k)) :
    (set7 w b (k * 7) (ws.getD k wz) (some ⟨g, 0, none⟩) (ws.getD k wz).xs.length (ws.getD k wz).xs.length).rowIs b t n (wrFill ws (upd γ k g) (k + 1)) :=
  (((((((h.set _ _).set _ _).set _ _).set _ _).set _ _).set _ _).set _ _).congr (fun j _ => wrFill_step ws γ k g j)

theorem below_set7 {B : Nat} {a w : World} {g : Nat} (h : Below B a w) (hg : B ≤ g) (o : Nat) (x : Wr) (ad : Option Addr) (len cap : Nat) : Below B a (set7 w g o x ad len cap) :=
  ((((((h.setCell (p := ⟨g, o, none⟩) hg _).setCell (p := ⟨g, o + 1, none⟩) hg _).setCell (p := ⟨g, o + 2, none⟩) hg _).setCell (p := ⟨g, o + 3, none⟩) hg _).setCell (p := ⟨g, o + 4, none⟩) hg _).setCell (p := ⟨g, o + 5, none⟩) hg _).setCell (p := ⟨g, o + 6, none⟩) hg _

theorem HoldsDeps.set7 {w : World} {b o : Nat} {xs : List Dp} (h : HoldsDeps w b o xs) {g : Nat} (hne : g ≠ b) (o' : Nat) (x : Wr) (a : Option Addr) (len cap : Nat) : HoldsDeps (set7 w g o' x a len cap) b o xs :=
  ((((((h.set hne _).set hne _).set hne _).set hne _).set hne _).set hne _).set hne _

theorem infoWr : (Try.prog.info? 37).map (fun i => (i.zero, i.size, i.bytes)) = some (some (wrV 0 0 0 0 0 false none 0 0), 7, 72) := by kernel_rfl

theorem run_make_ws (n : Nat) (hn : n ≤ 1048576) (w : World) :
    (Instr.makeSlice 30 (.int .i64 (n : Int)) (.int .i64 (n : Int))).run Try.prog w = .ok (.slice (some ⟨w.heap.size, 0, none⟩) n n) (w.alloc (.cells (madeCells #[.int .i64 0, .int .i64 0, .int .i64 0, .int .i64 0, .int .i64 0, .bool false, .slice none 0 0] (n * 7)) 37)) := by
  obtain ⟨i, hi, hzz⟩ := Option.map_eq_some_iff.1 infoWr
  simp only [Prod.mk.injEq] at hzz
  obtain ⟨hz, hs, hb⟩ := hzz
  have hr := run_make (P := Try.prog) w 30 37 i _ Try.underlying30 hi hz .i64 .i64 n n (by omega) (Int.le_refl _) (by rw [hb]; omega) (by omega)
  simp only [Int.toNat_natCast, hs] at hr
  exact hr

/-- The blocks of the dependencies of the first k writes: each of its own, behind block B, holding what is asked. -/
def Rows7 (w : World) (B : Nat) (ws : List Wr) (γ : Nat → Nat) (k : Nat) : Prop :=
  (∀ i, i < k → B < γ i ∧ γ i < w.heap.size ∧ HoldsDeps w (γ i) 0 (ws.getD i wz).xs ∧ ∀ o, w.frozen? ⟨γ i, o, none⟩ = false) ∧ ∀ i j, i < k → j < k → γ i = γ j → i = j

theorem Rows7.below {w w' : World} {B : Nat} {ws : List Wr} {γ : Nat → Nat} {k : Nat} (h : Rows7 w B ws γ k) (hb : Below w.heap.size w w') : Rows7 w' B ws γ k :=
  ⟨fun i hi => ⟨(h.1 i hi).1, Nat.lt_of_lt_of_le (h.1 i hi).2.1 hb.size, (h.1 i hi).2.2.1.below hb (h.1 i hi).2.1, fun o => (hb.frozen (p := ⟨γ i, o, none⟩) (h.1 i hi).2.1).trans ((h.1 i hi).2.2.2 o)⟩, h.2⟩

theorem Rows7.step {w w' : World} {B : Nat} {ws : List Wr} {γ : Nat → Nat} {k g : Nat} (h : Rows7 w B ws γ k) (hb : Below w.heap.size w w') (hB : B < w.heap.size) (hg : w.heap.size ≤ g) (hg' : g < w'.heap.size) (hh : HoldsDeps w' g 0 (ws.getD k wz).xs) (hz : ∀ o, w'.frozen? ⟨g, o, none⟩ = false) (o : Nat) (x : Wr) (a : Option Addr) (len cap : Nat) :
    Rows7 (set7 w' B o x a len cap) B ws (upd γ k g) (k + 1) := by
  have h' := h.below hb
  refine ⟨fun i hi => ?_, fun i j hi hj he => ?_⟩
  · by_cases hik : i = k
    · subst hik
      rw [upd_at]
      exact ⟨by omega, by simpa using hg', hh.set7 (by omega) _ _ _ _ _, fun o' => by simpa using hz o'⟩
    · rw [upd_off γ g hik]
      obtain ⟨h1, h2, h3, h4⟩ := h'.1 i (by omega)
      exact ⟨h1, by simpa using h2, h3.set7 (by omega) _ _ _ _ _, fun o' => by simpa using h4 o'⟩
  · by_cases hik : i = k
    · by_cases hjk : j = k
      · omega
      · rw [hik, upd_at, upd_off γ g hjk] at he
        have := (h.1 j (by omega)).2.1
        omega
    · by_cases hjk : j = k
      · rw [hjk, upd_at, upd_off γ g hik] at he
        have := (h.1 i (by omega)).2.1
        omega
      · rw [upd_off γ g hik, upd_off γ g hjk] at he
        exact h.2 i j (by omega) (by omega) he

/-- Writes of one's own, from block number base on: each row in a block of its own, none of them shut. -/
structure OwnWs (w : World) (base b : Nat) (ws : List Wr) (γ : Nat → Nat) : Prop where
  holds : HoldsWs w b ws γ
  le : base ≤ b
  open_ : ∀ o, w.frozen? ⟨b, o, none⟩ = false
  deps : ∀ i, i < ws.length → base ≤ γ i ∧ γ i ≠ b ∧ ∀ o, w.frozen? ⟨γ i, o, none⟩ = false
  inj : ∀ i j, i < ws.length → j < ws.length → γ i = γ j → i = j

theorem OwnWs.below {w w' : World} {base b : Nat} {ws : List Wr} {γ : Nat → Nat} (h : OwnWs w base b ws γ) (hb : Below w.heap.size w w') : OwnWs w' base b ws γ where
  holds := h.holds.below hb
  le := h.le
  open_ := fun o => (hb.frozen (p := ⟨b, o, none⟩) h.holds.1).trans (h.open_ o)
  deps := fun i hi => ⟨(h.deps i hi).1, (h.deps i hi).2.1, fun o => (hb.frozen (p := ⟨γ i, o, none⟩) (h.holds.2 i hi).2.1).trans ((h.deps i hi).2.2 o)⟩
  inj := h.inj

set_option maxHeartbeats 2000000 in
theorem toWriteS_any (a : Option Addr) (len cap : Nat) (ws : List Wr) (w : World) (hn : len ≤ 1048576) (hl : ws.length = len) (hx : ∀ i, i < len → (ws.getD i wz).xs.length ≤ 1048576) (hi : IsWs w a ws) :
    Calls Try.prog 43 #[.slice a len cap] w fun e w' => ∃ γ, e = .returned (.slice (some ⟨w.heap.size, 0, none⟩) len len) ∧ OwnWs w' w.heap.size w.heap.size ws γ ∧ Below w.heap.size w w' := by
  have HI : Hid (IsWs w a ws) := hi
  have HL : Hid (ws.length = len) := hl
  have HX : Hid (∀ i, i < len → (ws.getD i wz).xs.length ≤ 1048576) := hx
  clear hi hl hx
  have hmk := run_make_ws len hn
  go_enter Try.func43, Try.ntmps43
  go_wp2
  clear hmk
  go_loopw [4] (fun i wr => ∃ (k : Nat) (γ : Nat → Nat), k ≤ len ∧ i = .int .i64 k ∧ Hid (wr.rowIs w.heap.size 37 (len * 7) (wrFill ws γ k)) ∧ Hid (Rows7 wr w.heap.size ws γ k) ∧ Hid (Below w.heap.size w wr)) (fun i _ => len - (intOf i).toNat)
  case atStart => exact ⟨0, fun _ => 0, Nat.zero_le _, rfl, wrow_start _ _ _ _ _, ⟨fun i hi => absurd hi (Nat.not_lt_zero i), fun i j hi => absurd hi (Nat.not_lt_zero i)⟩, (Below.refl _ _).alloc (Nat.le_refl _) _⟩
  case round =>
    obtain ⟨k, γ, hk, rfl, HR, HG, HB⟩ := hrel
    by_cases hk' : k < len
    · obtain ⟨b, o, a', cp, rfl, hw, hmx, hd⟩ := ws_at HI.out HB.out HL.out hk'
      obtain ⟨e0, e1, e2, e3, e4, e5, e6⟩ := hw
      have HD : Hid (IsDeps wr a' (ws.getD k wz).xs) := hd
      have hxl := HX.out k hk'
      have i1 : (0 : Int) ≤ (k : Int) := by omega
      have i2 : (k : Int) < (len : Int) := by omega
      clear hd hmx
      have HS : Hid (∀ (w2 : World) (g : Nat), w2.rowIs w.heap.size 37 (len * 7) (wrFill ws γ k) → (set7 w2 w.heap.size (k * 7) (ws.getD k wz) (some ⟨g, 0, none⟩) (ws.getD k wz).xs.length (ws.getD k wz).xs.length).rowIs w.heap.size 37 (len * 7) (wrFill ws (upd γ k g) (k + 1))) := fun w2 g h2 => wrow_step g h2
      have HG2 : Hid (∀ (w2 : World) (g : Nat), Below wr.heap.size wr w2 → wr.heap.size ≤ g → g < w2.heap.size → HoldsDeps w2 g 0 (ws.getD k wz).xs → (∀ o, w2.frozen? ⟨g, o, none⟩ = false) → Rows7 (set7 w2 w.heap.size (k * 7) (ws.getD k wz) (some ⟨g, 0, none⟩) (ws.getD k wz).xs.length (ws.getD k wz).xs.length) w.heap.size ws (upd γ k g) (k + 1)) := fun w2 g h2 h3 h4 h5 h6 => HG.out.step h2 HR.out.lt h3 h4 h5 h6 _ _ _ _ _
      generalize ws.getD k wz = x at *
      obtain ⟨xk, xc, xs', xq, xv, xd, xx⟩ := x
      simp only at e0 e1 e2 e3 e4 e5 e6 hxl HS HG2 HD
      go_wp2_with fail
      refine (toWrite_own _ _ _ _ _ _ _ _ _ xx _ hxl rfl HD.out).mono ?_
      rintro e w2 ⟨g, rfl, hg1, hg2, hg3, hg4, hb⟩
      have HR2 : Hid (w2.rowIs w.heap.size 37 (len * 7) (wrFill ws γ k)) := HR.out.of_block (hb.block _ HR.out.lt)
      have HB2 : Hid (Below w.heap.size w w2) := below_step HB.out HB.out.size hb
      have HG3 := Lib.hid (HG2.out w2 g hb hg1 hg2 hg3 hg4)
      have c0 := HR2.out.cell (i := k * 7) (by omega)
      have c1 := HR2.out.cell (i := k * 7 + 1) (by omega)
      have c2 := HR2.out.cell (i := k * 7 + 2) (by omega)
      have c3 := HR2.out.cell (i := k * 7 + 3) (by omega)
      have c4 := HR2.out.cell (i := k * 7 + 4) (by omega)
      have c5 := HR2.out.cell (i := k * 7 + 5) (by omega)
      have c6 := HR2.out.cell (i := k * 7 + 6) (by omega)
      have fz := HR2.out.frozen
      clear hb hg1 hg2 hg3 hg4 HG2
      go_wp2
      exact ⟨⟨k + 1, upd γ k g, by omega, by go_num, HS.out _ g HR2.out, HG3.out, below_set7 HB2.out (Nat.le_refl _) (k * 7) ⟨xk, xc, xs', xq, xv, xd, xx⟩ (some ⟨g, 0, none⟩) xx.length xx.length⟩, by simp [intOf]; omega⟩
    · have hkk : k = len := by omega
      subst hkk
      go_wp2
      go_ret
      have hr := HR.out
      have hz := hr.lt
      rw [← HL.out] at hr
      have HL' := HL.out
      refine ⟨γ, rfl, ⟨⟨hz, fun i hi => ⟨⟨_, wrAt_of_row (by rw [HL'] at hr ⊢; exact hr) hi⟩, (HG.out.1 i (by omega)).2.1, (HG.out.1 i (by omega)).2.2.1⟩⟩, Nat.le_refl _, hr.frozen, fun i hi => ⟨?_, ?_, (HG.out.1 i (by omega)).2.2.2⟩, fun i j hi hj => HG.out.2 i j (by omega) (by omega)⟩, HB.out⟩
      · have := (HG.out.1 i (by omega)).1
        omega
      · have := (HG.out.1 i (by omega)).1
        omega

end Go.Proofs.Ytomndnopbpbblaa

/- Contracts of eqWriteS and of the specification's MapOk. -/
namespace Go.Proofs.Ytomndnopbpbblaa
open Go.ChangeShapes Go.WideShapes Go.ChangeAt Go.RowKit Go.Joins
attribute [local go_sem ↓] Go.wp_at_zero Go.wp_at_succ

abbrev wrOf (x : Wr) (a : Option Addr) (cap : Nat) : Value := wrV x.k x.c x.s x.q x.v x.de a x.xs.length cap

abbrev okW (x : Wr) : Bool := writeOkB x.k x.c x.s x.q x.v x.de x.xs

/-- Each write's dependencies are not too many. -/
def Few (ws : List Wr) : Prop := ∀ i, i < ws.length → (ws.getD i wz).xs.length ≤ 1048576

theorem few_of_bulk {ws : List Wr} (h : bulk ws ≤ 1048576) : Few ws := fun i hi => Nat.le_trans (bulk_one ws i hi) h

/-- One write of a row, in this world and in each later one. -/
theorem HoldsWs.get {w w' : World} {b : Nat} {ws : List Wr} {γ : Nat → Nat} (h : HoldsWs w b ws γ) (hb : Below w.heap.size w w') {i n : Nat} (hn : ws.length = n) (hi : i < n) :
    ∃ cap, b < w'.heap.size ∧ WrAt w' b (i * 7) (ws.getD i wz) (some ⟨γ i, 0, none⟩) cap ∧ γ i < w'.heap.size ∧ HoldsDeps w' (γ i) 0 (ws.getD i wz).xs := by
  obtain ⟨⟨cap, h1⟩, h2, h3⟩ := (h.below hb).2 i (by omega)
  exact ⟨cap, (h.below hb).1, h1, h2, h3⟩

/-- One write of a slice that is not empty, in this world and in each later one. -/
theorem IsWs.at {w w' : World} {a : Option Addr} {ws : List Wr} (h : IsWs w a ws) (hb : Below w.heap.size w w') {k n : Nat} (hn : ws.length = n) (hk : k < n) :
    ∃ b o a' cap, a = some ⟨b, o, none⟩ ∧ b < w'.heap.size ∧ WrAt w' b (o + k * 7) (ws.getD k wz) a' cap ∧ IsDeps w' a' (ws.getD k wz).xs := by
  rcases h.below hb with h | ⟨b, o, ha, hlt, hh⟩
  · subst h
    simp at hn
    omega
  · obtain ⟨a', cap, h1, _, h3⟩ := hh k (by omega)
    exact ⟨b, o, a', cap, ha, hlt, h1, h3⟩

/-- One write of a slice, in every later world. -/
theorem IsWs.later {w : World} {a : Option Addr} {ws : List Wr} (h : IsWs w a ws) {k n : Nat} (hn : ws.length = n) (hk : k < n) :
    ∃ b o a' cap, a = some ⟨b, o, none⟩ ∧ ∀ w', Below w.heap.size w w' → b < w'.heap.size ∧ WrAt w' b (o + k * 7) (ws.getD k wz) a' cap ∧ IsDeps w' a' (ws.getD k wz).xs := by
  rcases h with h | ⟨b, o, ha, hlt, hh⟩
  · subst h
    simp at hn
    omega
  · obtain ⟨a', cap, h1, _, h3⟩ := hh k (by omega)
    exact ⟨b, o, a', cap, ha, fun w' hb => ⟨Nat.lt_of_lt_of_le hlt hb.size, h1.of_block (hb.block _ hlt), h3.below hb⟩⟩

theorem IsWs.keyAt {w w' : World} {b o : Nat} {ws : List Wr} (h : IsWs w (some ⟨b, o, none⟩) ws) (hb : Below w.heap.size w w') {k n : Nat} (hn : ws.length = n) (hk : k < n) : w'.cell? ⟨b, o + k * 7, none⟩ = some (.int .i64 (ws.getD k wz).k) := by
  obtain ⟨b', o', _, _, he, _, ⟨h0, _⟩, _⟩ := h.at hb hn hk
  injection he with he
  injection he with e1 e2
  subst e1 e2
  exact h0

theorem HoldsWs.isWs {w : World} {b : Nat} {ws : List Wr} {γ : Nat → Nat} (h : HoldsWs w b ws γ) (hx : Few ws) : IsWs w (some ⟨b, 0, none⟩) ws := by
  refine .inr ⟨b, 0, rfl, h.1, fun i hi => ?_⟩
  obtain ⟨⟨cap, h1⟩, h2, h3⟩ := h.2 i hi
  exact ⟨_, cap, by rw [Nat.zero_add]; exact h1, by have := hx i hi; unfold maxLen; omega, .inr ⟨_, _, rfl, h2, h3⟩⟩

set_option maxHeartbeats 2000000 in
theorem eqWriteS_gen (a a' : Option Addr) (n cap cap' : Nat) (ws : List Wr) (w : World) (hn : ws.length = n) (hm : n ≤ 1048576) (hx : Few ws) (hh : IsWs w a ws) (hh' : IsWs w a' ws) :
    Calls Try.prog 11 #[.slice a n cap, .slice a' n cap'] w fun e w' => e = .returned (.bool true) ∧ Below w.heap.size w w' := by
  have HH : Hid (IsWs w a ws) := hh
  have HH' : Hid (IsWs w a' ws) := hh'
  have HN : Hid (ws.length = n) := hn
  have HX : Hid (Few ws) := hx
  clear hh hh' hn hx
  go_enter Try.func11, Try.ntmps11
  go_wp2
  go_loopw [5] (fun i wr => ∃ k : Nat, k ≤ n ∧ i = .int .i64 k ∧ Hid (Below w.heap.size w wr)) (fun i _ => n - (intOf i).toNat)
  case atStart => exact ⟨0, Nat.zero_le _, rfl, Below.refl _ _⟩
  case round =>
    obtain ⟨k, hk, rfl, HB⟩ := hrel
    by_cases hk' : k < n
    · obtain ⟨b, o, ad, cp, rfl, hz, ⟨e0, e1, e2, e3, e4, e5, e6⟩, hd⟩ := HH.out.at HB.out HN.out hk'
      obtain ⟨b', o', ad', cp', rfl, hz', ⟨f0, f1, f2, f3, f4, f5, f6⟩, hd'⟩ := HH'.out.at HB.out HN.out hk'
      have i1 : (0 : Int) ≤ (k : Int) := by omega
      have i2 : (k : Int) < (n : Int) := by omega
      have HC : Hid (∀ p : Aft wr.heap.size wr, Calls Try.prog 13 #[wrOf (ws.getD k wz) ad cp, wrOf (ws.getD k wz) ad' cp'] p.now fun e w' => e = .returned (.bool true) ∧ Below p.now.heap.size p.now w') := fun p =>
        eqWrite_gen _ _ _ _ _ _ _ _ _ _ _ (ws.getD k wz).xs _ (HX.out k (by rw [HN.out]; exact hk')) rfl (hd.below p.below) (hd'.below p.below)
      clear hd hd' HH HH'
      generalize ws.getD k wz = x at *
      obtain ⟨xk, xc, xs', xq, xv, xd, xx⟩ := x
      simp only at e0 e1 e2 e3 e4 e5 e6 f0 f1 f2 f3 f4 f5 f6 HC
      go_wp2_with fail
      have ge0 := aft_cell hz e0
      have ge1 := aft_cell hz e1
      have ge2 := aft_cell hz e2
      have ge3 := aft_cell hz e3
      have ge4 := aft_cell hz e4
      have ge5 := aft_cell hz e5
      have ge6 := aft_cell hz e6
      have gf0 := aft_cell hz' f0
      have gf1 := aft_cell hz' f1
      have gf2 := aft_cell hz' f2
      have gf3 := aft_cell hz' f3
      have gf4 := aft_cell hz' f4
      have gf5 := aft_cell hz' f5
      have gf6 := aft_cell hz' f6
      have ne := aft_some wr
      refine wp_region_aft (by kernel_rfl) (by kernel_rfl) ?_
      repeat (first | go_big_quiet_step (first | (go_at_call 13; exact aft_of (HC.out _))))
      refine wpQuiet_nil ?_
      intro wq hq
      go_wp2
      exact ⟨⟨k + 1, by omega, by go_num, below_step HB.out HB.out.size hq⟩, by simp [intOf]; omega⟩
    · go_wp2
      go_ret
      exact ⟨rfl, HB.out⟩

theorem eqWriteS_same (b b' n cap cap' : Nat) (ws : List Wr) (γ γ' : Nat → Nat) (w : World) (hn : ws.length = n) (hm : n ≤ 1048576) (hx : Few ws) (hh : HoldsWs w b ws γ) (hh' : HoldsWs w b' ws γ') :
    Calls Try.prog 11 #[.slice (some ⟨b, 0, none⟩) n cap, .slice (some ⟨b', 0, none⟩) n cap'] w fun e w' => e = .returned (.bool true) ∧ Below w.heap.size w w' :=
  eqWriteS_gen _ _ n cap cap' ws w hn hm hx (hh.isWs hx) (hh'.isWs hx)

def wrGood (ws : List Wr) (i : Nat) : Bool := okW (ws.getD i wz) && decide (i = 0 ∨ (ws.getD (i - 1) wz).k < (ws.getD i wz).k)

def mapOkB (ws : List Wr) : Bool := (List.range ws.length).all (wrGood ws)

theorem mapOk_true {ws : List Wr} (h : ∀ i, i < ws.length → wrGood ws i = true) : mapOkB ws = true := by
  unfold mapOkB
  rw [List.all_eq_true]
  intro i hi
  exact h i (List.mem_range.1 hi)

theorem mapOk_false {ws : List Wr} {i : Nat} (hi : i < ws.length) (h : wrGood ws i = false) : mapOkB ws = false := by
  unfold mapOkB
  rw [List.all_eq_false]
  exact ⟨i, List.mem_range.2 hi, by simp [h]⟩

theorem good_next {ws : List Wr} {k : Nat} (h : ∀ j, j < k → wrGood ws j = true) (hk : wrGood ws k = true) : ∀ j, j < k + 1 → wrGood ws j = true := fun j hj => by
  by_cases h' : j < k
  · exact h j h'
  · have : j = k := by omega
    rw [this]
    exact hk

end Go.Proofs.Ytomndnopbpbblaa

/- The contract of the specification's l02Copy. -/
namespace Go.Proofs.Ytomndnopbpbblaa
open Go.ChangeShapes Go.WideShapes Go.ChangeAt Go.RowKit Go.Joins
attribute [local go_sem ↓] Go.wp_at_zero Go.wp_at_succ

def depVals (xs : List Dp) : List Value := (List.range (xs.length * 4)).map fun j => .int .i64 (depCell xs j)

theorem depVals_len (xs : List Dp) : (depVals xs).length = xs.length * 4 := by simp [depVals]

theorem holds_cells {w : World} {b o : Nat} {xs : List Dp} (h : HoldsDeps w b o xs) {j : Nat} (hj : j < xs.length * 4) : w.cell? ⟨b, o + j, none⟩ = some (.int .i64 (depCell xs j)) := by
  obtain ⟨h0, h1, h2, h3⟩ := h (j / 4) (by omega)
  have h4 : j % 4 = 0 ∨ j % 4 = 1 ∨ j % 4 = 2 ∨ j % 4 = 3 := by omega
  rcases h4 with e | e | e | e
  · rw [show j = j / 4 * 4 by omega, depCell0]
    exact h0
  · rw [show j = j / 4 * 4 + 1 by omega, depCell1, ← Nat.add_assoc]
    exact h1
  · rw [show j = j / 4 * 4 + 2 by omega, depCell2, ← Nat.add_assoc]
    exact h2
  · rw [show j = j / 4 * 4 + 3 by omega, depCell3, ← Nat.add_assoc]
    exact h3

theorem holds_of_cells {w : World} {b : Nat} {xs : List Dp} (h : ∀ j, j < xs.length * 4 → w.cell? ⟨b, j, none⟩ = some (.int .i64 (depCell xs j))) : HoldsDeps w b 0 xs := by
  intro i hi
  rw [Nat.zero_add]
  refine ⟨?_, ?_, ?_, ?_⟩
  · rw [h _ (by omega), depCell0]
  · rw [h _ (by omega), depCell1]
  · rw [h _ (by omega), depCell2]
  · rw [h _ (by omega), depCell3]

theorem depVals_cells {w : World} {b o : Nat} {xs : List Dp} (h : HoldsDeps w b o xs) : ∀ j u, (depVals xs)[j]? = some u → w.cell? ((⟨b, o, none⟩ : Addr).add j) = some u := by
  intro j u hu
  have hj : j < xs.length * 4 := by
    have := (List.getElem?_eq_some_iff.1 hu).1
    rwa [depVals_len] at this
  have e : (⟨b, o, none⟩ : Addr).add j = ⟨b, o + j, none⟩ := by
    unfold Addr.add
    split
    · rename_i h
      rw [h]
      rfl
    · rfl
  rw [e, holds_cells h hj, ← hu]
  simp [depVals, hj]

theorem depVals_one (xs : List Dp) : ∀ u ∈ depVals xs, u.oneCell' = true := by
  intro u hu
  simp only [depVals, List.mem_map] at hu
  obtain ⟨j, _, rfl⟩ := hu
  rfl

theorem depVals_holds {w : World} {base g n cap : Nat} {xs : List Dp} {t : Nat} (hl : xs.length = n) (h : w.ownsRow base t 4 (.slice (some ⟨g, 0, none⟩) n cap) n (depVals xs)) : HoldsDeps w g 0 xs := by
  subst hl
  refine holds_of_cells fun j hj => ?_
  rw [h.cellAt j hj]
  simp [depVals, hj]

theorem run_append_zero {P : Program} (w : World) (t ty e : TypeId) (i : TypeInfo) (ht : P.underlying t = some (.slice e)) (hi : P.info? e = some i) (b : Option Addr) (n c : Nat) (hle : n ≤ c) (a : Option Addr) (cap : Nat) :
    (Builtin.append_ #[t, t] ty #[.slice b n c, .slice a 0 cap]).run P w = .ok (.slice b n c) w := by
  cases a <;> cases b <;> simp [Builtin.append_, run_underlying ht, sizeOf, typeInfo, hi, Builtin.lenOf, Builtin.firstCells, hle, storeCells, loadCells, loadCellsFrom]

/-- Nothing is appended. -/
theorem wpList_append_zero {P : Program} {w : World} {ops : Array Oper} {rest : List Oper} {o : Oper} {a : Act} {Q : Exit → Act → World → Prop} (hgd : o.guard = none) (s x : Operand) (t : TypeId)
    (ho : o.op = .call { callee := .builtin .append, args := #[s, x], argTypes := #[t, t] }) (e : TypeId) (i : TypeInfo) (ht : P.underlying t = some (.slice e)) (hi : P.info? e = some i)
    (b : Option Addr) (n c : Nat) (hle : n ≤ c) (hs : a.eval s = .slice b n c) (ad : Option Addr) (cap : Nat) (hx : a.eval x = .slice ad 0 cap)
    (h : wpList P ops Q rest (a.put o.dst (.slice b n c)) w) : wpList P ops Q (o :: rest) a w := by
  refine wpList_plain hgd fun K hK => ?_
  have hrun := run_append_zero (P := P) w t o.type e i ht hi b n c hle ad cap
  unfold Oper.wp
  simp [execOp, ho, resolve, invoke, builtin, hs, hx, hrun, Result.andThen]
  exact hK _ _ h

/-- What a block holds that is not the one that was written. -/
theorem kept_block {W w1 : World} {b r t : Nat} {vs : Array Value} (hg : W.grownBy w1 (some r)) (hr : b ≠ r) (h : W.heap[b]? = some (.cells vs t (0, 0))) : (∀ j v, vs[j]? = some v → w1.cell? ⟨b, j, none⟩ = some v) ∧ ∀ j, w1.frozen? ⟨b, j, none⟩ = false := by
  have hb : b < W.heap.size := (Array.getElem?_eq_some_iff.1 h).1
  have e := hg.block b hb (by simpa using hr)
  rw [h] at e
  exact ⟨fun j v hv => by rw [cell_of_row w1 b j vs t (0, 0) e]; exact hv, fun j => frozen_of_row w1 b j vs t e⟩

theorem heap_two (w : World) (o1 o2 o3 : Obj) : (((w.alloc o1).alloc o2).alloc o3).heap[w.heap.size]? = some o1 ∧ (((w.alloc o1).alloc o2).alloc o3).heap[w.heap.size + 1]? = some o2 := by
  constructor
  · rw [Below.heap_alloc _ _ _ (by simp; omega), Below.heap_alloc _ _ _ (by simp)]
    exact heap_alloc_new w o1
  · rw [Below.heap_alloc _ _ _ (by simp)]
    have := heap_alloc_new (w.alloc o1) o2
    simpa using this

set_option maxHeartbeats 2000000 in
theorem copy_some (x : Wr) (b o cap : Nat) (w : World) (hn : x.xs.length ≤ 1048576) (hp : 0 < x.xs.length) (hlt : b < w.heap.size) (hh : HoldsDeps w b o x.xs) :
    Calls Try.prog 24 #[wrOf x (some ⟨b, o, none⟩) cap] w fun e w' => ∃ g cp, e = .returned (wrOf x (some ⟨g, 0, none⟩) cp) ∧ w.heap.size ≤ g ∧ g < w'.heap.size ∧ HoldsDeps w' g 0 x.xs ∧ Below w.heap.size w w' := by
  obtain ⟨xk, xc, xs', xq, xv, xd, xx⟩ := x
  simp only at hn hp hh ⊢
  have HH : Hid (HoldsDeps w b o xx) := hh
  clear hh
  obtain ⟨i0, hi0, hx0⟩ := Option.map_eq_some_iff.1 infoDep
  simp only [Prod.mk.injEq] at hx0
  have HI0 := Lib.hid hi0
  have HX0 := Lib.hid hx0
  clear hi0 hx0
  go_enter Try.func24, Try.ntmps24
  have HB0 : Hid (Below w.heap.size w (((w.alloc (.cells #[.int .i64 xk, .int .i64 xc, .int .i64 xs', .int .i64 xq, .int .i64 xv, .bool xd, .slice (some ⟨b, o, none⟩) xx.length cap] 37)).alloc (.cells #[.int .i64 0, .int .i64 0, .int .i64 0, .int .i64 0, .int .i64 0, .bool false, .slice none 0 0] 37)).alloc (.cells #[] 55))) :=
    (((Below.refl _ _).alloc (Nat.le_refl _) _).alloc (by simp) _).alloc (by simp; omega) _
  have HO0 : Hid ((((w.alloc (.cells #[.int .i64 xk, .int .i64 xc, .int .i64 xs', .int .i64 xq, .int .i64 xv, .bool xd, .slice (some ⟨b, o, none⟩) xx.length cap] 37)).alloc (.cells #[.int .i64 0, .int .i64 0, .int .i64 0, .int .i64 0, .int .i64 0, .bool false, .slice none 0 0] 37)).alloc (.cells #[] 55)).ownsRow (w.heap.size + 1 + 1) 55 4 (.slice (some ⟨w.heap.size + 1 + 1, 0, none⟩) 0 0) 0 []) := by
    have := World.ownsRow_made (base := w.heap.size + 1 + 1) (e := 55) (size := 4) ((w.alloc (.cells #[.int .i64 xk, .int .i64 xc, .int .i64 xs', .int .i64 xq, .int .i64 xv, .bool xd, .slice (some ⟨b, o, none⟩) xx.length cap] 37)).alloc (.cells #[.int .i64 0, .int .i64 0, .int .i64 0, .int .i64 0, .int .i64 0, .bool false, .slice none 0 0] 37)) #[] 0 (by simp) (by simp [maxLen]) (by simp)
    exact Lib.hid (by simpa using this)
  go_wp2_with (at_builtin; refine wpList_append_lies _ (by rfl) _ _ _ (by rfl) (w.heap.size + 1 + 1) 55 i0 (depV 0 0 0 0) 4 32 Try.underlying35 HI0.out HX0.out.1 HX0.out.2.1 HX0.out.2.2 (by rfl) (by omega) (.slice (some ⟨w.heap.size + 1 + 1, 0, none⟩) 0 0) 0 [] (by rfl) HO0.out ⟨b, o, none⟩ xx.length cap (depVals xx) (by rfl) (depVals_len xx) (depVals_cells (HH.out.below HB0.out hlt)) (depVals_one xx) hp (by unfold maxLen; omega) (by omega) (by simp) _ rfl ?_; intro g cp w5 hown hgrow _ hg5; refine Hid.out ?_)
  refine Lib.hid ?_
  rw [Nat.zero_add] at hown
  obtain ⟨hg4, -⟩ := (fun h => (hown.lt g h) : _ → _ ∧ _) rfl
  have HD5 : Hid (HoldsDeps w5 g 0 xx) := depVals_holds rfl hown
  have HB5 : Hid (Below w.heap.size w w5) := HB0.out.grown hgrow HB0.out.size fun k hk => by simp only [Value.ownBlock, Option.some.injEq] at hk; omega
  obtain ⟨hb0, hf0⟩ := kept_block (r := w.heap.size + 1 + 1) hgrow (by omega) (heap_two w _ _ _).1
  obtain ⟨hb1, hf1⟩ := kept_block (r := w.heap.size + 1 + 1) hgrow (by omega) (heap_two w _ _ _).2
  have b0 := hb0 0 _ rfl
  have b1 := hb0 1 _ rfl
  have b2 := hb0 2 _ rfl
  have b3 := hb0 3 _ rfl
  have b4 := hb0 4 _ rfl
  have b5 := hb0 5 _ rfl
  have b6 := hb0 6 _ rfl
  have z0 := hb1 0 _ rfl
  have z1 := hb1 1 _ rfl
  have z2 := hb1 2 _ rfl
  have z3 := hb1 3 _ rfl
  have z4 := hb1 4 _ rfl
  have z5 := hb1 5 _ rfl
  have z6 := hb1 6 _ rfl
  clear hb0 hb1
  have hz5 : w.heap.size + 1 + 1 < w5.heap.size := by have := hgrow.size; simp at this; omega
  clear hown hgrow HB0 HO0
  go_wp2
  refine bodyPost_ret (v := wrV xk xc xs' xq xv xd (some ⟨g, 0, none⟩) xx.length cp) (by simp [results, Try.results24, go_sem, z0, z1, z2, z3, z4, z5, z6]) rfl ⟨g, cp, rfl, by omega, by simpa using hg5, ?_, ?_⟩
  · exact (((((((HD5.out.set (by simp; omega) _).set (by simp; omega) _).set (by simp; omega) _).set (by simp; omega) _).set (by simp; omega) _).set (by simp; omega) _).set (by simp; omega) _).set (by simp; omega) _
  · exact (((((((HB5.out.setCell (by simp) _).setCell (by simp) _).setCell (by simp) _).setCell (by simp) _).setCell (by simp) _).setCell (by simp) _).setCell (by simp) _).setCell (by simp) _

set_option maxHeartbeats 2000000 in
theorem copy_none (x : Wr) (a : Option Addr) (cap : Nat) (w : World) (hx : x.xs = []) :
    Calls Try.prog 24 #[wrOf x a cap] w fun e w' => ∃ g cp, e = .returned (wrOf x (some ⟨g, 0, none⟩) cp) ∧ w.heap.size ≤ g ∧ g < w'.heap.size ∧ HoldsDeps w' g 0 x.xs ∧ Below w.heap.size w w' := by
  obtain ⟨xk, xc, xs', xq, xv, xd, xx⟩ := x
  simp only at hx
  subst hx
  obtain ⟨i0, hi0, -⟩ := Option.map_eq_some_iff.1 infoDep
  have HI0 := Lib.hid hi0
  clear hi0
  go_enter Try.func24, Try.ntmps24
  go_wp2_with (at_builtin; refine wpList_append_zero (by rfl) _ _ _ (by rfl) 55 i0 Try.underlying35 HI0.out (some ⟨w.heap.size + 1 + 1, 0, none⟩) 0 0 (by omega) (by rfl) a cap (by rfl) ?_)
  exact bodyPost_ret (v := wrV xk xc xs' xq xv xd (some ⟨w.heap.size + 1 + 1, 0, none⟩) 0 0) (by simp [results, Try.results24, go_sem]) rfl ⟨w.heap.size + 1 + 1, 0, rfl, by omega, by simp, fun i hi => absurd hi (Nat.not_lt_zero i), (((Below.refl _ _).alloc (Nat.le_refl _) _).alloc (by simp) _).alloc (by simp; omega) _⟩

theorem copy_any (x : Wr) (a : Option Addr) (cap : Nat) (w : World) (hn : x.xs.length ≤ 1048576) (h : IsDeps w a x.xs) :
    Calls Try.prog 24 #[wrOf x a cap] w fun e w' => ∃ g cp, e = .returned (wrOf x (some ⟨g, 0, none⟩) cp) ∧ w.heap.size ≤ g ∧ g < w'.heap.size ∧ HoldsDeps w' g 0 x.xs ∧ Below w.heap.size w w' := by
  rcases h with h | ⟨b, o, rfl, hlt, hh⟩
  · exact copy_none x a cap w h
  · by_cases hp : 0 < x.xs.length
    · exact copy_some x b o cap w hn hp hlt hh
    · exact copy_none x _ cap w (List.length_eq_zero_iff.1 (by omega))

end Go.Proofs.Ytomndnopbpbblaa

/- The contracts of the specification's MapAt and MapHas. -/
namespace Go.Proofs.Ytomndnopbpbblaa
open Go.ChangeShapes Go.WideShapes Go.ChangeAt Go.RowKit Go.Joins
attribute [local go_sem ↓] Go.wp_at_zero Go.wp_at_succ

/-- Number i is the first write of this key. -/
def FirstAt (ws : List Wr) (key : Int) (i : Nat) : Prop := i < ws.length ∧ (ws.getD i wz).k = key ∧ ∀ j, j < i → (ws.getD j wz).k ≠ key
/-- There is none of this key. -/
def NoneAt (ws : List Wr) (key : Int) : Prop := ∀ j, j < ws.length → (ws.getD j wz).k ≠ key

theorem FirstAt.same {ws : List Wr} {key : Int} {i j : Nat} (h : FirstAt ws key i) (h' : FirstAt ws key j) : i = j := by
  by_cases h1 : i < j
  · exact absurd h.2.1 (h'.2.2 i h1)
  · by_cases h2 : j < i
    · exact absurd h'.2.1 (h.2.2 j h2)
    · omega

theorem FirstAt.no {ws : List Wr} {key : Int} {i : Nat} (h : FirstAt ws key i) (h' : NoneAt ws key) : False := h' i h.1 h.2.1

/-- What a look at a map tells: a write of one's own, or nothing. -/
def Told (ws : List Wr) (key : Int) (w w' : World) (v : Value) : Prop :=
  (∃ i g cp, FirstAt ws key i ∧ v = .tuple #[wrOf (ws.getD i wz) (some ⟨g, 0, none⟩) cp, .bool true] ∧ w.heap.size ≤ g ∧ g < w'.heap.size ∧ HoldsDeps w' g 0 (ws.getD i wz).xs) ∨
  (NoneAt ws key ∧ v = .tuple #[wrV 0 0 0 0 0 false none 0 0, .bool false])

def findW (ws : List Wr) (key : Int) : Option Wr := ws.find? fun x => x.k == key

theorem find_first : ∀ {ws : List Wr} {key : Int} {i : Nat}, FirstAt ws key i → findW ws key = some (ws.getD i wz)
  | [], _, _, h => by simp [FirstAt] at h
  | x :: r, key, 0, h => by
    have hk : x.k = key := h.2.1
    simp [findW, hk]
  | x :: r, key, i + 1, h => by
    have hk : x.k ≠ key := h.2.2 0 (by omega)
    have : FirstAt r key i := ⟨by simpa using h.1, h.2.1, fun j hj => h.2.2 (j + 1) (by omega)⟩
    have := find_first this
    simp only [findW, List.find?_cons, beq_eq_false_iff_ne.2 hk] at this ⊢
    exact this

theorem find_none {ws : List Wr} {key : Int} (h : NoneAt ws key) : findW ws key = none := by
  induction ws with
  | nil => rfl
  | cons x r ih =>
    have hk : x.k ≠ key := h 0 (by simp)
    have := ih fun j hj => h (j + 1) (by simpa using hj)
    simp only [findW, List.find?_cons, beq_eq_false_iff_ne.2 hk] at this ⊢
    exact this

def hasB (ws : List Wr) (key c s q : Int) : Bool := match findW ws key with | some x => decide (0 ≤ tcmp x.c x.s x.q c s q) | none => false

end Go.Proofs.Ytomndnopbpbblaa

/- The contract of impl.WriteOk. -/
namespace Go.Proofs.Ytomndnopbpbblaa
open Go.ChangeShapes Go.WideShapes Go.ChangeAt Go.RowKit Go.Joins

end Go.Proofs.Ytomndnopbpbblaa

/- The contract of impl.TagCmp. -/
namespace Go.Proofs.Ytomndnopbpbblaa
open Go.ChangeShapes Go.WideShapes Go.ChangeAt Go.RowKit
attribute [local go_sem ↓] Go.wp_at_zero Go.wp_at_succ

set_option maxHeartbeats 400000 in
theorem implTagCmp_eq (c s q : Int) (w : World) :
    Calls Try.prog 52 #[tagV c s q, tagV c s q] w fun e w' => e = .returned (.int .i64 0) ∧ Below w.heap.size w w' := by
  go_enter Try.func52, Try.ntmps52
  go_wp2_with fail
  go_ret
  exact ⟨rfl, ((Below.refl _ _).alloc (Nat.le_refl _) _).alloc (by simp) _⟩

theorem three_cells (W : World) (x y z : Int) (t b : Nat) (hb : W.heap.size = b) : ∀ i, i < [x, y, z].length → (W.alloc (Obj.cells #[.int .i64 x, .int .i64 y, .int .i64 z] t)).drew.cell? ⟨b, i, none⟩ = some (.int .i64 ([x, y, z].getD i 0)) := by
  subst hb
  intro i hi
  match i, hi with
  | 0, _ => simp [go_sem]
  | 1, _ => simp [go_sem]
  | 2, _ => simp [go_sem]

set_option maxHeartbeats 1000000 in
theorem implTagCmp_ne1 (c s q c' s' q' : Int) (w : World) (h : ¬ c = c') :
    Calls Try.prog 52 #[tagV c s q, tagV c' s' q'] w fun e w' => e = .returned (.int .i64 (orI [sgn c c', sgn s s', sgn q q'])) ∧ Below w.heap.size w w' := by
  go_enter Try.func52, Try.ntmps52
  go_wp2_with fail
  go_region_held3 (fun w' => w'.cell? ⟨w.heap.size, 0, none⟩ = some (.int .i64 c) ∧ w'.cell? ⟨w.heap.size, 1, none⟩ = some (.int .i64 s) ∧ w'.cell? ⟨w.heap.size, 2, none⟩ = some (.int .i64 q) ∧ w'.cell? ⟨w.heap.size + 1, 0, none⟩ = some (.int .i64 c') ∧ w'.cell? ⟨w.heap.size + 1, 1, none⟩ = some (.int .i64 s') ∧ w'.cell? ⟨w.heap.size + 1, 2, none⟩ = some (.int .i64 q')) (go_keep)
    (first | (go_at_call 59; refine (compare_any _ _ _).mono ?_; rintro e w' ⟨rfl, rfl⟩) | (go_at_call 58; refine (or_any _ [sgn c c', sgn s s', sgn q q'] _ _ (by simp) (by exact three_cells _ _ _ _ _ _ (by simp))).mono ?_; rintro e w' ⟨rfl, rfl⟩))
  all_goals
    go_wp2
    go_ret
    exact ⟨rfl, ((((Below.refl _ _).alloc (Nat.le_refl _) _).alloc (by simp) _).alloc (by simp; omega) _).drew⟩

set_option maxHeartbeats 1000000 in
theorem implTagCmp_ne2 (c s q s' q' : Int) (w : World) (h : ¬ s = s') :
    Calls Try.prog 52 #[tagV c s q, tagV c s' q'] w fun e w' => e = .returned (.int .i64 (orI [sgn c c, sgn s s', sgn q q'])) ∧ Below w.heap.size w w' := by
  go_enter Try.func52, Try.ntmps52
  go_wp2_with fail
  go_region_held3 (fun w' => w'.cell? ⟨w.heap.size, 0, none⟩ = some (.int .i64 c) ∧ w'.cell? ⟨w.heap.size, 1, none⟩ = some (.int .i64 s) ∧ w'.cell? ⟨w.heap.size, 2, none⟩ = some (.int .i64 q) ∧ w'.cell? ⟨w.heap.size + 1, 0, none⟩ = some (.int .i64 c) ∧ w'.cell? ⟨w.heap.size + 1, 1, none⟩ = some (.int .i64 s') ∧ w'.cell? ⟨w.heap.size + 1, 2, none⟩ = some (.int .i64 q')) (go_keep)
    (first | (go_at_call 59; refine (compare_any _ _ _).mono ?_; rintro e w' ⟨rfl, rfl⟩) | (go_at_call 58; refine (or_any _ [sgn c c, sgn s s', sgn q q'] _ _ (by simp) (by exact three_cells _ _ _ _ _ _ (by simp))).mono ?_; rintro e w' ⟨rfl, rfl⟩))
  all_goals
    go_wp2
    go_ret
    exact ⟨rfl, ((((Below.refl _ _).alloc (Nat.le_refl _) _).alloc (by simp) _).alloc (by simp; omega) _).drew⟩

set_option maxHeartbeats 1000000 in
theorem implTagCmp_ne3 (c s q q' : Int) (w : World) (h : ¬ q = q') :
    Calls Try.prog 52 #[tagV c s q, tagV c s q'] w fun e w' => e = .returned (.int .i64 (orI [sgn c c, sgn s s, sgn q q'])) ∧ Below w.heap.size w w' := by
  go_enter Try.func52, Try.ntmps52
  go_wp2_with fail
  go_region_held3 (fun w' => w'.cell? ⟨w.heap.size, 0, none⟩ = some (.int .i64 c) ∧ w'.cell? ⟨w.heap.size, 1, none⟩ = some (.int .i64 s) ∧ w'.cell? ⟨w.heap.size, 2, none⟩ = some (.int .i64 q) ∧ w'.cell? ⟨w.heap.size + 1, 0, none⟩ = some (.int .i64 c) ∧ w'.cell? ⟨w.heap.size + 1, 1, none⟩ = some (.int .i64 s) ∧ w'.cell? ⟨w.heap.size + 1, 2, none⟩ = some (.int .i64 q')) (go_keep)
    (first | (go_at_call 59; refine (compare_any _ _ _).mono ?_; rintro e w' ⟨rfl, rfl⟩) | (go_at_call 58; refine (or_any _ [sgn c c, sgn s s, sgn q q'] _ _ (by simp) (by exact three_cells _ _ _ _ _ _ (by simp))).mono ?_; rintro e w' ⟨rfl, rfl⟩))
  all_goals
    go_wp2
    go_ret
    exact ⟨rfl, ((((Below.refl _ _).alloc (Nat.le_refl _) _).alloc (by simp) _).alloc (by simp; omega) _).drew⟩

theorem implTagCmp_any (c s q c' s' q' : Int) (w : World) :
    Calls Try.prog 52 #[tagV c s q, tagV c' s' q'] w fun e w' => e = .returned (.int .i64 (tcmp c s q c' s' q')) ∧ Below w.heap.size w w' := by
  rw [← orI_three]
  by_cases h1 : c = c'
  · by_cases h2 : s = s'
    · by_cases h3 : q = q'
      · subst h1 h2 h3
        rw [orI_three, tcmp_self]
        exact implTagCmp_eq c s q w
      · subst h1 h2
        exact implTagCmp_ne3 c s q q' w h3
    · subst h1
      exact implTagCmp_ne2 c s q s' q' w h2
  · exact implTagCmp_ne1 c s q c' s' q' w h1

end Go.Proofs.Ytomndnopbpbblaa

/- Contracts of impl.MapOk, placeOfKey, copyWrite, MapAt, MapHas. -/
namespace Go.Proofs.Ytomndnopbpbblaa
open Go.ChangeShapes Go.WideShapes Go.ChangeAt Go.RowKit Go.Joins
attribute [local go_sem ↓] Go.wp_at_zero Go.wp_at_succ

def lastW (ws : List Wr) (k : Nat) : Int := if k = 0 then -1 else (ws.getD (k - 1) wz).k

theorem okW_key {x : Wr} (h : okW x = true) : 0 ≤ x.k ∧ x.k ≤ 5 := by
  unfold okW writeOkB btw at h
  simp only [Bool.and_eq_true, decide_eq_true_eq] at h
  exact h.1

theorem wrGood_bad {ws : List Wr} {k : Nat} (h1 : okW (ws.getD k wz) = true) (h : (ws.getD k wz).k ≤ lastW ws k) : wrGood ws k = false := by
  unfold wrGood
  rw [h1, Bool.true_and]
  refine decide_eq_false ?_
  have := okW_key h1
  unfold lastW at h
  by_cases hk : k = 0
  · rw [if_pos hk] at h
    omega
  · rw [if_neg hk] at h
    omega

theorem wrGood_good {ws : List Wr} {k : Nat} (h1 : okW (ws.getD k wz) = true) (h : lastW ws k < (ws.getD k wz).k) : wrGood ws k = true := by
  unfold wrGood
  rw [h1, Bool.true_and]
  refine decide_eq_true ?_
  unfold lastW at h
  by_cases hk : k = 0
  · exact .inl hk
  · rw [if_neg hk] at h
    exact .inr h

theorem wrGood_not {ws : List Wr} {k : Nat} (h1 : okW (ws.getD k wz) = false) : wrGood ws k = false := by
  unfold wrGood
  rw [h1, Bool.false_and]

theorem kept_new {W w1 : World} {b t : Nat} {vs : Array Value} (hg : W.grownBy w1 none) (h : W.heap[b]? = some (.cells vs t (0, 0))) : (∀ j v, vs[j]? = some v → w1.cell? ⟨b, j, none⟩ = some v) ∧ ∀ j, w1.frozen? ⟨b, j, none⟩ = false := by
  have hb : b < W.heap.size := (Array.getElem?_eq_some_iff.1 h).1
  have e := hg.block b hb (by simp)
  rw [h] at e
  exact ⟨fun j v hv => by rw [cell_of_row w1 b j vs t (0, 0) e]; exact hv, fun j => frozen_of_row w1 b j vs t e⟩

theorem heap_one (w : World) (o1 o2 : Obj) : ((w.alloc o1).alloc o2).heap[w.heap.size]? = some o1 ∧ ((w.alloc o1).alloc o2).heap[w.heap.size + 1]? = some o2 := by
  constructor
  · rw [Below.heap_alloc _ _ _ (by simp)]
    exact heap_alloc_new w o1
  · have := heap_alloc_new (w.alloc o1) o2
    simpa using this

/-- A place, or none. -/
def PlaceAt (ws : List Wr) (key r : Int) : Prop := (∃ i : Nat, FirstAt ws key i ∧ r = i) ∨ (NoneAt ws key ∧ r = -1)

/-- Dependencies of one's own, from block number B on, where there are some. -/
def FreshDeps (B : Nat) (w : World) (a : Option Addr) (g : Nat) (xs : List Dp) : Prop := 0 < xs.length → a = some ⟨g, 0, none⟩ ∧ B ≤ g ∧ g < w.heap.size ∧ HoldsDeps w g 0 xs ∧ ∀ o, w.frozen? ⟨g, o, none⟩ = false

theorem FreshDeps.below {B : Nat} {w w' : World} {a : Option Addr} {g : Nat} {xs : List Dp} (h : FreshDeps B w a g xs) (hb : Below w.heap.size w w') : FreshDeps B w' a g xs := fun hp => by
  obtain ⟨h1, h2, h3, h4, h5⟩ := h hp
  exact ⟨h1, h2, Nat.lt_of_lt_of_le h3 hb.size, h4.below hb h3, fun o => (hb.frozen (p := ⟨g, o, none⟩) h3).trans (h5 o)⟩

theorem FreshDeps.isDeps {B : Nat} {w : World} {a : Option Addr} {g : Nat} {xs : List Dp} (h : FreshDeps B w a g xs) : IsDeps w a xs := by
  by_cases hp : 0 < xs.length
  · obtain ⟨h1, _, h3, h4, _⟩ := h hp
    exact .inr ⟨g, 0, h1, h3, h4⟩
  · exact .inl (List.length_eq_zero_iff.1 (by omega))

theorem fresh_set {w : World} {g : Nat} {xs : List Dp} {p : Addr} (h : g < w.heap.size ∧ HoldsDeps w g 0 xs ∧ ∀ o, w.frozen? ⟨g, o, none⟩ = false) (hne : p.block ≠ g) (v : Value) : g < (w.setCell p v).heap.size ∧ HoldsDeps (w.setCell p v) g 0 xs ∧ ∀ o, (w.setCell p v).frozen? ⟨g, o, none⟩ = false :=
  ⟨by simpa using h.1, h.2.1.set hne v, fun o => by rw [World.frozen?_setCell]; exact h.2.2 o⟩

set_option maxHeartbeats 2000000 in
theorem icopy_some (x : Wr) (b o cap : Nat) (w : World) (hn : x.xs.length ≤ 1048576) (hp : 0 < x.xs.length) (hlt : b < w.heap.size) (hh : HoldsDeps w b o x.xs) :
    Calls Try.prog 57 #[wrOf x (some ⟨b, o, none⟩) cap] w fun e w' => ∃ a g cp, e = .returned (wrOf x a cp) ∧ FreshDeps w.heap.size w' a g x.xs ∧ Below w.heap.size w w' := by
  obtain ⟨xk, xc, xs', xq, xv, xd, xx⟩ := x
  simp only at hn hp hh ⊢
  have HH : Hid (HoldsDeps w b o xx) := hh
  clear hh
  obtain ⟨i0, hi0, hx0⟩ := Option.map_eq_some_iff.1 infoDep
  simp only [Prod.mk.injEq] at hx0
  have HI0 := Lib.hid hi0
  have HX0 := Lib.hid hx0
  clear hi0 hx0
  go_enter Try.func57, Try.ntmps57
  have HB0 : Hid (Below w.heap.size w ((w.alloc (.cells #[.int .i64 xk, .int .i64 xc, .int .i64 xs', .int .i64 xq, .int .i64 xv, .bool xd, .slice (some ⟨b, o, none⟩) xx.length cap] 37)).alloc (.cells #[.int .i64 0, .int .i64 0, .int .i64 0, .int .i64 0, .int .i64 0, .bool false, .slice none 0 0] 37))) :=
    ((Below.refl _ _).alloc (Nat.le_refl _) _).alloc (by simp) _
  go_wp2_with (at_builtin; refine wpList_append_lies _ (by rfl) _ _ _ (by rfl) (w.heap.size + 1 + 1) 55 i0 (depV 0 0 0 0) 4 32 Try.underlying35 HI0.out HX0.out.1 HX0.out.2.1 HX0.out.2.2 (by rfl) (by omega) (.slice none 0 0) 0 [] (by rfl) (World.ownsRow_nil _ _ _ _) ⟨b, o, none⟩ xx.length cap (depVals xx) (by rfl) (depVals_len xx) (depVals_cells (HH.out.below HB0.out hlt)) (depVals_one xx) hp (by unfold maxLen; omega) (by omega) (by simp) _ rfl ?_; intro g cp w5 hown hgrow _ hg5; refine Hid.out ?_)
  refine Lib.hid ?_
  rw [Nat.zero_add] at hown
  obtain ⟨hg4, -⟩ := (fun h => (hown.lt g h) : _ → _ ∧ _) rfl
  have HD5 : Hid (g < w5.heap.size ∧ HoldsDeps w5 g 0 xx ∧ ∀ o, w5.frozen? ⟨g, o, none⟩ = false) := ⟨hg5, depVals_holds rfl hown, fun o => hown.frozenAt o⟩
  have HB5 : Hid (Below w.heap.size w w5) := HB0.out.grown hgrow HB0.out.size fun k hk => by simp [Value.ownBlock] at hk
  have hk0 := Lib.hid (heap_one w (.cells #[.int .i64 xk, .int .i64 xc, .int .i64 xs', .int .i64 xq, .int .i64 xv, .bool xd, .slice (some ⟨b, o, none⟩) xx.length cap] 37) (.cells #[.int .i64 0, .int .i64 0, .int .i64 0, .int .i64 0, .int .i64 0, .bool false, .slice none 0 0] 37))
  obtain ⟨hb0, hf0⟩ := kept_new hgrow hk0.out.1
  obtain ⟨hb1, hf1⟩ := kept_new hgrow hk0.out.2
  have b0 := hb0 0 _ rfl
  have b1 := hb0 1 _ rfl
  have b2 := hb0 2 _ rfl
  have b3 := hb0 3 _ rfl
  have b4 := hb0 4 _ rfl
  have b5 := hb0 5 _ rfl
  have b6 := hb0 6 _ rfl
  have z0 := hb1 0 _ rfl
  have z1 := hb1 1 _ rfl
  have z2 := hb1 2 _ rfl
  have z3 := hb1 3 _ rfl
  have z4 := hb1 4 _ rfl
  have z5 := hb1 5 _ rfl
  have z6 := hb1 6 _ rfl
  clear hb0 hb1
  have hz5 : w.heap.size + 1 < w5.heap.size := by have := hgrow.size; simp at this; omega
  clear hown hgrow HB0 hk0
  go_wp2
  refine bodyPost_ret (v := wrV xk xc xs' xq xv xd (some ⟨g, 0, none⟩) xx.length cp) (by simp [results, Try.results57, go_sem, z0, z1, z2, z3, z4, z5, z6]) rfl ⟨_, g, cp, rfl, fun _ => ⟨rfl, by omega, ?_⟩, ?_⟩
  · exact fresh_set (fresh_set (fresh_set (fresh_set (fresh_set (fresh_set (fresh_set (fresh_set HD5.out (by simp; omega) _) (by simp; omega) _) (by simp; omega) _) (by simp; omega) _) (by simp; omega) _) (by simp; omega) _) (by simp; omega) _) (by simp; omega) _
  · exact (((((((HB5.out.setCell (by simp) _).setCell (by simp) _).setCell (by simp) _).setCell (by simp) _).setCell (by simp) _).setCell (by simp) _).setCell (by simp) _).setCell (by simp) _

set_option maxHeartbeats 2000000 in
theorem icopy_none (x : Wr) (a : Option Addr) (cap : Nat) (w : World) (hx : x.xs = []) :
    Calls Try.prog 57 #[wrOf x a cap] w fun e w' => ∃ a' g cp, e = .returned (wrOf x a' cp) ∧ FreshDeps w.heap.size w' a' g x.xs ∧ Below w.heap.size w w' := by
  obtain ⟨xk, xc, xs', xq, xv, xd, xx⟩ := x
  simp only at hx
  subst hx
  obtain ⟨i0, hi0, -⟩ := Option.map_eq_some_iff.1 infoDep
  have HI0 := Lib.hid hi0
  clear hi0
  go_enter Try.func57, Try.ntmps57
  go_wp2_with (at_builtin; refine wpList_append_zero (by rfl) _ _ _ (by rfl) 55 i0 Try.underlying35 HI0.out none 0 0 (by omega) (by rfl) a cap (by rfl) ?_)
  exact bodyPost_ret (v := wrV xk xc xs' xq xv xd none 0 0) (by simp [results, Try.results57, go_sem]) rfl ⟨none, 0, 0, rfl, fun h => absurd h (by simp), ((Below.refl _ _).alloc (Nat.le_refl _) _).alloc (by simp) _⟩

theorem icopy_any (x : Wr) (a : Option Addr) (cap : Nat) (w : World) (hn : x.xs.length ≤ 1048576) (h : IsDeps w a x.xs) :
    Calls Try.prog 57 #[wrOf x a cap] w fun e w' => ∃ a' g cp, e = .returned (wrOf x a' cp) ∧ FreshDeps w.heap.size w' a' g x.xs ∧ Below w.heap.size w w' := by
  rcases h with h | ⟨b, o, rfl, hlt, hh⟩
  · exact icopy_none x a cap w h
  · by_cases hp : 0 < x.xs.length
    · exact icopy_some x b o cap w hn hp hlt hh
    · exact icopy_none x _ cap w (List.length_eq_zero_iff.1 (by omega))

end Go.Proofs.Ytomndnopbpbblaa

/- Contracts of impl.MapAt and impl.MapHas. -/
namespace Go.Proofs.Ytomndnopbpbblaa
open Go.ChangeShapes Go.WideShapes Go.ChangeAt Go.RowKit Go.Joins
attribute [local go_sem ↓] Go.wp_at_zero Go.wp_at_succ

/-- What a look at a map tells: a write of one's own, or nothing. -/
def ToldG (ws : List Wr) (key : Int) (B : Nat) (w' : World) (v : Value) : Prop :=
  (∃ i a g cp, FirstAt ws key i ∧ v = .tuple #[wrOf (ws.getD i wz) a cp, .bool true] ∧ FreshDeps B w' a g (ws.getD i wz).xs) ∨
  (NoneAt ws key ∧ v = .tuple #[wrV 0 0 0 0 0 false none 0 0, .bool false])

theorem fresh_set7 {B : Nat} {w : World} {g : Nat} {xs : List Dp} {a : Option Addr} (h : FreshDeps B w a g xs) {b : Nat} (hne : b < B) (o0 o1 o2 o3 o4 o5 o6 : Nat) (v0 v1 v2 v3 v4 v5 v6 : Value) :
    FreshDeps B (((((((w.setCell ⟨b, o0, none⟩ v0).setCell ⟨b, o1, none⟩ v1).setCell ⟨b, o2, none⟩ v2).setCell ⟨b, o3, none⟩ v3).setCell ⟨b, o4, none⟩ v4).setCell ⟨b, o5, none⟩ v5).setCell ⟨b, o6, none⟩ v6) a g xs := fun hp => by
  obtain ⟨h1, h2, h3⟩ := h hp
  have hn : b ≠ g := by omega
  exact ⟨h1, h2, fresh_set (fresh_set (fresh_set (fresh_set (fresh_set (fresh_set (fresh_set h3 hn _) hn _) hn _) hn _) hn _) hn _) hn _⟩

theorem FreshDeps.mono {B B' : Nat} {w : World} {a : Option Addr} {g : Nat} {xs : List Dp} (h : FreshDeps B w a g xs) (hb : B' ≤ B) : FreshDeps B' w a g xs := fun hp => by
  obtain ⟨h1, h2, h3⟩ := h hp
  exact ⟨h1, Nat.le_trans hb h2, h3⟩

end Go.Proofs.Ytomndnopbpbblaa

/- Marks: what markDepS writes, heldDepS finds. -/
namespace Go.Proofs.Ytomndnopbpbblaa
open Go.ChangeShapes Go.WideShapes Go.ChangeAt Go.RowKit Go.Joins
attribute [local go_sem ↓] Go.wp_at_zero Go.wp_at_succ

/-- Of what was there these blocks alone may have been written; nothing was made. -/
structure Only (S : Nat → Prop) (w w' : World) : Prop where
  os : w'.os = w.os
  tape : w'.tape = w.tape
  output : w'.output = w.output
  size : w'.heap.size = w.heap.size
  block : ∀ b, ¬ S b → w'.heap[b]? = w.heap[b]?
  frozen : ∀ a, w'.frozen? a = w.frozen? a

theorem Only.refl (S : Nat → Prop) (w : World) : Only S w w := ⟨rfl, rfl, rfl, rfl, fun _ _ => rfl, fun _ => rfl⟩

theorem Only.set {S : Nat → Prop} {w w' : World} (h : Only S w w') {b : Nat} (hb : S b) (o : Nat) (v : Value) : Only S w (w'.setCell ⟨b, o, none⟩ v) :=
  ⟨h.os, h.tape, h.output, by simpa using h.size, fun c hc => (Below.heap_setCell _ _ _ _ (fun e => hc (by rw [e]; exact hb))).trans (h.block c hc), fun a => by simpa using h.frozen a⟩

theorem Only.trans {S T : Nat → Prop} {w w' w'' : World} (h : Only S w w') (k : Only T w' w'') (hT : ∀ b, T b → S b) : Only S w w'' :=
  ⟨k.os.trans h.os, k.tape.trans h.tape, k.output.trans h.output, k.size.trans h.size, fun b hb => (k.block b (fun e => hb (hT b e))).trans (h.block b hb), fun a => (k.frozen a).trans (h.frozen a)⟩

theorem Only.below {S : Nat → Prop} {w w' : World} {B : Nat} (h : Only S w w') (hS : ∀ b, S b → B ≤ b) : Below B w w' :=
  ⟨h.os, h.tape, h.output, by rw [h.size]; exact Nat.le_refl _, fun b hb => h.block b (fun e => by have := hS b e; omega)⟩

/-- The first m cells of block b. -/
def CellsAre (w : World) (b m : Nat) (f : Nat → Value) : Prop := ∀ o, o < m → w.cell? ⟨b, o, none⟩ = some (f o)

theorem CellsAre.of_block {w w' : World} {b m : Nat} {f : Nat → Value} (h : CellsAre w b m f) (hb : w'.heap[b]? = w.heap[b]?) : CellsAre w' b m f :=
  fun o ho => (World.cell?_of_block (a := ⟨b, o, none⟩) hb).trans (h o ho)

theorem CellsAre.set {w : World} {b m : Nat} {f : Nat → Value} (h : CellsAre w b m f) {o : Nat} (ho : o < m) (v : Value) : CellsAre (w.setCell ⟨b, o, none⟩ v) b m (fun j => if j = o then v else f j) := by
  intro j hj
  by_cases e : j = o
  · subst e
    simp [World.cell?_setCell_same, h j hj]
  · simp only [if_neg e]
    rw [World.cell?_setCell_other _ _ _ _ (by intro h; injection h with _ h _; exact e h.symm)]
    exact h j hj

theorem CellsAre.set_other {w : World} {b m : Nat} {f : Nat → Value} (h : CellsAre w b m f) {g : Nat} (hg : g ≠ b) (o : Nat) (v : Value) : CellsAre (w.setCell ⟨g, o, none⟩ v) b m f :=
  h.of_block (Below.heap_setCell _ _ _ _ (Ne.symm hg))

theorem CellsAre.congr {w : World} {b m : Nat} {f f' : Nat → Value} (h : CellsAre w b m f) (he : ∀ o, o < m → f o = f' o) : CellsAre w b m f' := fun o ho => by rw [h o ho, he o ho]

def markFn (k : Int) (o : Nat) : Value := .int .i64 (k + o)

theorem mark_step (k : Int) (j o : Nat) (f : Nat → Value) :
    (if o = j * 4 + 1 + 2 then Value.int .i64 (k + 4 * j + 1 + 1 + 1) else if o = j * 4 + 1 + 1 then Value.int .i64 (k + 4 * j + 1 + 1) else if o = j * 4 + 1 then Value.int .i64 (k + 4 * j + 1) else if o = j * 4 then Value.int .i64 (k + 4 * j) else if o < j * 4 then markFn k o else f o) = (if o < (j + 1) * 4 then markFn k o else f o) := by
  unfold markFn
  by_cases h3 : o = j * 4 + 1 + 2
  · rw [if_pos h3, if_pos (by omega), h3]
    congr 1
    omega
  rw [if_neg h3]
  by_cases h2 : o = j * 4 + 1 + 1
  · rw [if_pos h2, if_pos (by omega), h2]
    congr 1
    omega
  rw [if_neg h2]
  by_cases h1 : o = j * 4 + 1
  · rw [if_pos h1, if_pos (by omega), h1]
    congr 1
    omega
  rw [if_neg h1]
  by_cases h0 : o = j * 4
  · rw [if_pos h0, if_pos (by omega), h0]
    congr 1
    omega
  rw [if_neg h0]
  by_cases hl : o < j * 4
  · rw [if_pos hl, if_pos (by omega)]
  · rw [if_neg hl, if_neg (by omega)]

set_option maxHeartbeats 2000000 in
theorem markDepS_any (a : Option Addr) (g n cap : Nat) (k : Int) (f : Nat → Value) (w : World) (hn : n ≤ 1048576) (h0 : 0 ≤ k) (h1 : k ≤ 1099511627776) (ha : 0 < n → a = some ⟨g, 0, none⟩) (hc : CellsAre w g (n * 4) f) (hz : 0 < n → ∀ o, w.frozen? ⟨g, o, none⟩ = false) :
    Calls Try.prog 32 #[.slice a n cap, .int .i64 k] w fun e w' => e = .returned (.int .i64 (k + 4 * n)) ∧ CellsAre w' g (n * 4) (markFn k) ∧ Only (fun b => 0 < n ∧ b = g) w w' := by
  have HA : Hid (0 < n → a = some ⟨g, 0, none⟩) := ha
  have HC : Hid (CellsAre w g (n * 4) f) := hc
  have HZ : Hid (0 < n → ∀ o, w.frozen? ⟨g, o, none⟩ = false) := hz
  clear hc hz ha
  go_enter Try.func32, Try.ntmps32
  go_wp2
  go_loopw [1, 5] (fun l i wr => ∃ (j : Nat), j ≤ n ∧ i = .int .i64 j ∧ l = .int .i64 (k + 4 * j) ∧ Hid (CellsAre wr g (n * 4) (fun o => if o < j * 4 then markFn k o else f o)) ∧ Hid (Only (fun b => 0 < n ∧ b = g) w wr)) (fun _ i _ => n - (intOf i).toNat)
  case atStart => exact ⟨0, Nat.zero_le _, rfl, by simp, HC.out.congr (fun o _ => by simp), Only.refl _ _⟩
  case round =>
    obtain ⟨j, hj, rfl, rfl, HR, HO⟩ := hrel
    by_cases hj' : j < n
    · have hn0 : 0 < n := by omega
      obtain rfl := HA.out hn0
      have c0 := HR.out (j * 4) (by omega)
      have c1 := HR.out (j * 4 + 1) (by omega)
      have c2 := HR.out (j * 4 + 2) (by omega)
      have c3 := HR.out (j * 4 + 3) (by omega)
      have fz : ∀ o, wr.frozen? ⟨g, o, none⟩ = false := fun o => (HO.out.frozen _).trans (HZ.out hn0 o)
      have i1 : (0 : Int) ≤ (j : Int) := by omega
      have i2 : (j : Int) < (n : Int) := by omega
      go_wp2
      exact ⟨⟨j + 1, by omega, by go_num, by congr 1; push_cast; omega, ((((HR.out.set (by omega) _).set (by omega) _).set (by omega) _).set (by omega) _).congr (fun o _ => mark_step k j o f), (((HO.out.set ⟨hn0, rfl⟩ _ _).set ⟨hn0, rfl⟩ _ _).set ⟨hn0, rfl⟩ _ _).set ⟨hn0, rfl⟩ _ _⟩, by simp [intOf]; omega⟩
    · have hjj : j = n := by omega
      subst hjj
      go_wp2
      go_ret
      exact ⟨rfl, HR.out.congr (fun o ho => by rw [if_pos ho]), HO.out⟩

set_option maxHeartbeats 2000000 in
theorem heldDepS_any (a : Option Addr) (g n cap : Nat) (k : Int) (w : World) (hn : n ≤ 1048576) (h0 : 0 ≤ k) (h1 : k ≤ 1099511627776) (ha : 0 < n → a = some ⟨g, 0, none⟩) (hc : CellsAre w g (n * 4) (markFn k)) :
    Calls Try.prog 33 #[.slice a n cap, .int .i64 k] w fun e w' => e = .returned (.int .i64 (k + 4 * n)) ∧ w' = w := by
  have HA : Hid (0 < n → a = some ⟨g, 0, none⟩) := ha
  have HC : Hid (CellsAre w g (n * 4) (markFn k)) := hc
  clear hc ha
  go_enter Try.func33, Try.ntmps33
  go_wp2
  go_loopw [1, 5] (fun l i wr => ∃ (j : Nat), j ≤ n ∧ i = .int .i64 j ∧ l = .int .i64 (k + 4 * j) ∧ wr = w) (fun _ i _ => n - (intOf i).toNat)
  case atStart => exact ⟨0, Nat.zero_le _, rfl, by simp, rfl⟩
  case round =>
    obtain ⟨j, hj, rfl, rfl, rfl⟩ := hrel
    by_cases hj' : j < n
    · obtain rfl := HA.out (by omega)
      have c0 := HC.out (j * 4) (by omega)
      have c1 := HC.out (j * 4 + 1) (by omega)
      have c2 := HC.out (j * 4 + 1 + 1) (by omega)
      have c3 := HC.out (j * 4 + 1 + 2) (by omega)
      simp only [markFn] at c0 c1 c2 c3
      rw [show k + ((j * 4 : Nat) : Int) = k + 4 * j by omega] at c0
      rw [show k + ((j * 4 + 1 : Nat) : Int) = k + 4 * j + 1 by omega] at c1
      rw [show k + ((j * 4 + 1 + 1 : Nat) : Int) = k + 4 * j + 1 + 1 by omega] at c2
      rw [show k + ((j * 4 + 1 + 2 : Nat) : Int) = k + 4 * j + 1 + 1 + 1 by omega] at c3
      have i1 : (0 : Int) ≤ (j : Int) := by omega
      have i2 : (j : Int) < (n : Int) := by omega
      go_wp2
      exact ⟨⟨j + 1, by omega, by go_num, by congr 1; push_cast; omega, trivial⟩, by simp [intOf]; omega⟩
    · have hjj : j = n := by omega
      subst hjj
      go_wp2
      go_ret
      exact ⟨rfl, rfl⟩

set_option maxHeartbeats 1000000 in
theorem markWrite_any (xk xc xs' xq xv : Int) (xd : Bool) (a : Option Addr) (g n cap : Nat) (k : Int) (f : Nat → Value) (w : World) (hn : n ≤ 1048576) (h0 : 0 ≤ k) (h1 : k ≤ 1099511627776) (hlt : 0 < n → g < w.heap.size) (ha : 0 < n → a = some ⟨g, 0, none⟩) (hc : CellsAre w g (n * 4) f) (hz : 0 < n → ∀ o, w.frozen? ⟨g, o, none⟩ = false) :
    Calls Try.prog 15 #[wrV xk xc xs' xq xv xd a n cap, .int .i64 k] w fun e w' => ∃ w1, e = .returned (.int .i64 (k + 4 * n)) ∧ CellsAre w' g (n * 4) (markFn k) ∧ Below w.heap.size w w1 ∧ Only (fun b => 0 < n ∧ b = g) w1 w' := by
  have HC : Hid (CellsAre (w.alloc (.cells #[.int .i64 xk, .int .i64 xc, .int .i64 xs', .int .i64 xq, .int .i64 xv, .bool xd, .slice a n cap] 37)) g (n * 4) f) := by
    by_cases h : 0 < n
    · exact hc.of_block (((Below.refl w.heap.size w).alloc (Nat.le_refl _) _).block _ (hlt h))
    · exact fun o ho => by omega
  have HZ : Hid (0 < n → ∀ o, (w.alloc (.cells #[.int .i64 xk, .int .i64 xc, .int .i64 xs', .int .i64 xq, .int .i64 xv, .bool xd, .slice a n cap] 37)).frozen? ⟨g, o, none⟩ = false) := fun h o => (((Below.refl w.heap.size w).alloc (Nat.le_refl _) _).frozen (p := ⟨g, o, none⟩) (hlt h)).trans (hz h o)
  have HA : Hid (0 < n → a = some ⟨g, 0, none⟩) := ha
  clear hc hz ha hlt
  go_enter Try.func15, Try.ntmps15
  go_wp2_with fail
  refine (markDepS_any _ _ _ _ _ _ _ hn h0 h1 HA.out HC.out HZ.out).mono ?_
  rintro e w2 ⟨rfl, h2, h3⟩
  have H2 := Lib.hid h2
  have H3 := Lib.hid h3
  clear h2 h3
  go_wp2
  go_ret
  exact ⟨_, rfl, H2.out, (Below.refl _ _).alloc (Nat.le_refl _) _, H3.out⟩

end Go.Proofs.Ytomndnopbpbblaa
