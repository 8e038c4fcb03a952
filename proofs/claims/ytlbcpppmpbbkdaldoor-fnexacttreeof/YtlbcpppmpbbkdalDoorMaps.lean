/- Lists of writes in memory; the contracts of szWriteS, toWriteS, eqWriteS. -/
import Derived.Test.YtlbcpppmpbbkdalDoorWrites
import Derived.Test.YtlbcpppmpbbkdalDoorWriteOk
import Derived.Lib.Hide
namespace Go.Proofs.YtlbcpppmpbbkdalDoor
open Go.ChangeShapes Go.WideShapes Go.ChangeAt Go.RowKit Go.Joins
attribute [local go_sem ↓] Go.wp_at_zero Go.wp_at_succ

structure Wr where
  k : Int
  c : Int
  s : Int
  q : Int
  v : Int
  de : Bool
  xs : List Dp

def wz : Wr := ⟨0, 0, 0, 0, 0, false, []⟩

/-- A write's cells from place o of block b on, its dependencies at a. -/
def WrAt (w : World) (b o : Nat) (x : Wr) (a : Option Addr) (cap : Nat) : Prop :=
  w.cell? ⟨b, o, none⟩ = some (.int .i64 x.k) ∧ w.cell? ⟨b, o + 1, none⟩ = some (.int .i64 x.c) ∧ w.cell? ⟨b, o + 2, none⟩ = some (.int .i64 x.s) ∧ w.cell? ⟨b, o + 3, none⟩ = some (.int .i64 x.q) ∧
  w.cell? ⟨b, o + 4, none⟩ = some (.int .i64 x.v) ∧ w.cell? ⟨b, o + 5, none⟩ = some (.bool x.de) ∧ w.cell? ⟨b, o + 6, none⟩ = some (.slice a x.xs.length cap)

theorem WrAt.of_block {w w' : World} {b o : Nat} {x : Wr} {a : Option Addr} {cap : Nat} (h : WrAt w b o x a cap) (hb : w'.heap[b]? = w.heap[b]?) : WrAt w' b o x a cap := by
  obtain ⟨h0, h1, h2, h3, h4, h5, h6⟩ := h
  have e : ∀ i, w'.cell? ⟨b, i, none⟩ = w.cell? ⟨b, i, none⟩ := fun i => World.cell?_of_block (a := ⟨b, i, none⟩) hb
  exact ⟨(e _).trans h0, (e _).trans h1, (e _).trans h2, (e _).trans h3, (e _).trans h4, (e _).trans h5, (e _).trans h6⟩

/-- What a slice of writes leads to, wherever its writes' dependencies lie. -/
def IsWs (w : World) (a : Option Addr) (ws : List Wr) : Prop :=
  ws = [] ∨ ∃ b o, a = some ⟨b, o, none⟩ ∧ b < w.heap.size ∧ ∀ i, i < ws.length → ∃ a' cap, WrAt w b (o + i * 7) (ws.getD i wz) a' cap ∧ (ws.getD i wz).xs.length ≤ maxLen ∧ IsDeps w a' (ws.getD i wz).xs

theorem IsWs.below {w w' : World} {a : Option Addr} {ws : List Wr} (h : IsWs w a ws) (hb : Below w.heap.size w w') : IsWs w' a ws := by
  rcases h with h | ⟨b, o, ha, hlt, hh⟩
  · exact .inl h
  · refine .inr ⟨b, o, ha, Nat.lt_of_lt_of_le hlt hb.size, fun i hi => ?_⟩
    obtain ⟨a', cap, h1, h2, h3⟩ := hh i hi
    exact ⟨a', cap, h1.of_block (hb.block _ hlt), h2, h3.below hb⟩

/-- A row of writes from block b's begin on, write number i's dependencies from block γ i's begin on. -/
def HoldsWs (w : World) (b : Nat) (ws : List Wr) (γ : Nat → Nat) : Prop :=
  b < w.heap.size ∧ ∀ i, i < ws.length → (∃ cap, WrAt w b (i * 7) (ws.getD i wz) (some ⟨γ i, 0, none⟩) cap) ∧ γ i < w.heap.size ∧ HoldsDeps w (γ i) 0 (ws.getD i wz).xs

theorem HoldsWs.below {w w' : World} {b : Nat} {ws : List Wr} {γ : Nat → Nat} (h : HoldsWs w b ws γ) (hb : Below w.heap.size w w') : HoldsWs w' b ws γ := by
  refine ⟨Nat.lt_of_lt_of_le h.1 hb.size, fun i hi => ?_⟩
  obtain ⟨⟨cap, h1⟩, h2, h3⟩ := h.2 i hi
  exact ⟨⟨cap, h1.of_block (hb.block _ h.1)⟩, Nat.lt_of_lt_of_le h2 hb.size, h3.below hb h2⟩

/-- How much a list of writes is: its length, and those of its writes' dependencies. -/
def bulk : List Wr → Nat
  | [] => 0
  | x :: r => x.xs.length + bulk r

theorem bulk_take (ws : List Wr) (k : Nat) (h : k < ws.length) : bulk (ws.take (k + 1)) = bulk (ws.take k) + (ws.getD k wz).xs.length := by
  induction ws generalizing k with
  | nil => simp at h
  | cons x r ih =>
    cases k with
    | zero => simp [bulk]
    | succ k =>
      have := ih k (by simpa using h)
      simp only [List.take_succ_cons, bulk, List.getD_cons_succ] at this ⊢
      omega

theorem bulk_one (ws : List Wr) (k : Nat) (h : k < ws.length) : (ws.getD k wz).xs.length ≤ bulk ws := by
  induction ws generalizing k with
  | nil => simp at h
  | cons x r ih =>
    cases k with
    | zero => simp [bulk]
    | succ k =>
      have := ih k (by simpa using h)
      simp only [bulk, List.getD_cons_succ]
      omega

theorem ws_at {w w' : World} {a : Option Addr} {ws : List Wr} {n : Nat} (h : IsWs w a ws) (hb : Below w.heap.size w w') (hn : ws.length = n) {k : Nat} (hk : k < n) :
    ∃ b o a' cap, a = some ⟨b, o, none⟩ ∧ WrAt w' b (o + k * 7) (ws.getD k wz) a' cap ∧ (ws.getD k wz).xs.length ≤ maxLen ∧ IsDeps w' a' (ws.getD k wz).xs := by
  rcases h.below hb with h | ⟨b, o, ha, _, hh⟩
  · subst h
    simp at hn
    omega
  · obtain ⟨a', cap, h1, h2, h3⟩ := hh k (by omega)
    exact ⟨b, o, a', cap, ha, h1, h2, h3⟩

set_option maxHeartbeats 1000000 in
theorem szWriteS_any (a : Option Addr) (len cap : Nat) (left : Int) (ws : List Wr) (w : World) (h0 : 0 ≤ left) (h1 : left ≤ 1048576) (hm : len ≤ maxLen) (hl : ws.length = len) (hi : IsWs w a ws) :
    Calls Tryd.prog 5 #[.slice a len cap, .int .i64 left] w fun e w' => ∃ r : Int, e = .returned (.int .i64 r) ∧ (r = -1 ∨ (0 ≤ r ∧ r = left - len - bulk ws)) ∧ Below w.heap.size w w' := by
  have HI : Hid (IsWs w a ws) := hi
  have HL : Hid (ws.length = len) := hl
  clear hi hl
  unfold maxLen at hm
  go_enter Tryd.func5, Tryd.ntmps5
  by_cases hbig : left < (len : Int)
  · go_wp2
    go_ret
    exact ⟨_, rfl, .inl rfl, Below.refl _ _⟩
  go_wp2
  go_loopw [1, 5] (fun l i wr => ∃ (k : Nat) (r : Int), k ≤ len ∧ i = .int .i64 k ∧ l = .int .i64 r ∧ 0 ≤ r ∧ r ≤ 1048576 ∧ Hid (r = left - len - bulk (ws.take k)) ∧ Hid (Below w.heap.size w wr)) (fun _ i _ => len - (intOf i).toNat)
  case atStart => exact ⟨0, left - len, by omega, rfl, rfl, by omega, by omega, by simp [Hid, bulk], Below.refl _ _⟩
  case round =>
    obtain ⟨k, r, hk, rfl, rfl, r0, r1, HR, HB⟩ := hrel
    by_cases hk' : k < len
    · obtain ⟨b, o, a', cp, rfl, hw, hmx, hd⟩ := ws_at HI.out HB.out HL.out hk'
      obtain ⟨e0, e1, e2, e3, e4, e5, e6⟩ := hw
      have HT := Lib.hid (bulk_take ws k (by rw [HL.out]; exact hk'))
      have i1 : (0 : Int) ≤ (k : Int) := by omega
      have i2 : (k : Int) < (len : Int) := by omega
      clear hd
      generalize ws.getD k wz = x at *
      by_cases hx : (x.xs.length : Int) ≤ r
      · go_wp2_with fail
        refine (szWrite_small _ _ _ _ _ _ _ _ _ _ _ r0 r1 hx).mono ?_
        rintro e w2 ⟨rfl, hb⟩
        have HB2 : Hid (Below w.heap.size w w2) := below_step HB.out HB.out.size hb
        clear hb
        go_wp2
        exact ⟨⟨k + 1, _, by omega, by go_num, rfl, by omega, by omega, by have := HT.out; have := HR.out; exact Lib.hid (by omega), HB2⟩, by simp [intOf]; omega⟩
      · go_wp2_with fail
        refine (szWrite_big _ _ _ _ _ _ _ _ _ _ _ r0 r1 (by omega) hmx).mono ?_
        rintro e w2 ⟨rfl, hb⟩
        have HB2 : Hid (Below w.heap.size w w2) := below_step HB.out HB.out.size hb
        clear hb
        go_wp2
        go_ret
        exact ⟨_, rfl, .inl rfl, HB2.out⟩
    · have hkk : k = len := by omega
      subst hkk
      go_wp2
      go_ret
      refine ⟨_, rfl, .inr ⟨r0, ?_⟩, HB.out⟩
      have := HR.out
      rw [show ws.take k = ws from List.take_of_length_le (by rw [HL.out]; exact Nat.le_refl _)] at this
      exact this

/-- Cell j of a row of writes. -/
def wrCell (ws : List Wr) (γ : Nat → Nat) (j : Nat) : Value :=
  if j % 7 = 0 then .int .i64 (ws.getD (j / 7) wz).k else if j % 7 = 1 then .int .i64 (ws.getD (j / 7) wz).c else if j % 7 = 2 then .int .i64 (ws.getD (j / 7) wz).s else if j % 7 = 3 then .int .i64 (ws.getD (j / 7) wz).q
  else if j % 7 = 4 then .int .i64 (ws.getD (j / 7) wz).v else if j % 7 = 5 then .bool (ws.getD (j / 7) wz).de else .slice (some ⟨γ (j / 7), 0, none⟩) (ws.getD (j / 7) wz).xs.length (ws.getD (j / 7) wz).xs.length

/-- Cell j of a row of zero writes. -/
def zeroCell (j : Nat) : Value := if j % 7 = 5 then .bool false else if j % 7 = 6 then .slice none 0 0 else .int .i64 0

def wrFill (ws : List Wr) (γ : Nat → Nat) (k j : Nat) : Value := if j < k * 7 then wrCell ws γ j else zeroCell j

def upd (γ : Nat → Nat) (k g : Nat) : Nat → Nat := fun i => if i = k then g else γ i

theorem upd_at (γ : Nat → Nat) (k g : Nat) : upd γ k g k = g := by simp [upd]

theorem upd_off (γ : Nat → Nat) {k i : Nat} (g : Nat) (h : i ≠ k) : upd γ k g i = γ i := by simp [upd, h]

theorem wrCell0 (ws : List Wr) (γ : Nat → Nat) (k : Nat) : wrCell ws γ (k * 7) = .int .i64 (ws.getD k wz).k := by
  unfold wrCell
  rw [if_pos (by omega), show k * 7 / 7 = k by omega]

theorem wrCell1 (ws : List Wr) (γ : Nat → Nat) (k : Nat) : wrCell ws γ (k * 7 + 1) = .int .i64 (ws.getD k wz).c := by
  unfold wrCell
  rw [if_neg (by omega), if_pos (by omega), show (k * 7 + 1) / 7 = k by omega]

theorem wrCell2 (ws : List Wr) (γ : Nat → Nat) (k : Nat) : wrCell ws γ (k * 7 + 2) = .int .i64 (ws.getD k wz).s := by
  unfold wrCell
  rw [if_neg (by omega), if_neg (by omega), if_pos (by omega), show (k * 7 + 2) / 7 = k by omega]

theorem wrCell3 (ws : List Wr) (γ : Nat → Nat) (k : Nat) : wrCell ws γ (k * 7 + 3) = .int .i64 (ws.getD k wz).q := by
  unfold wrCell
  rw [if_neg (by omega), if_neg (by omega), if_neg (by omega), if_pos (by omega), show (k * 7 + 3) / 7 = k by omega]

theorem wrCell4 (ws : List Wr) (γ : Nat → Nat) (k : Nat) : wrCell ws γ (k * 7 + 4) = .int .i64 (ws.getD k wz).v := by
  unfold wrCell
  rw [if_neg (by omega), if_neg (by omega), if_neg (by omega), if_neg (by omega), if_pos (by omega), show (k * 7 + 4) / 7 = k by omega]

theorem wrCell5 (ws : List Wr) (γ : Nat → Nat) (k : Nat) : wrCell ws γ (k * 7 + 5) = .bool (ws.getD k wz).de := by
  unfold wrCell
  rw [if_neg (by omega), if_neg (by omega), if_neg (by omega), if_neg (by omega), if_neg (by omega), if_pos (by omega), show (k * 7 + 5) / 7 = k by omega]

theorem wrCell6 (ws : List Wr) (γ : Nat → Nat) (k : Nat) : wrCell ws γ (k * 7 + 6) = .slice (some ⟨γ k, 0, none⟩) (ws.getD k wz).xs.length (ws.getD k wz).xs.length := by
  unfold wrCell
  rw [if_neg (by omega), if_neg (by omega), if_neg (by omega), if_neg (by omega), if_neg (by omega), if_neg (by omega), show (k * 7 + 6) / 7 = k by omega]

theorem wrCell_off (ws : List Wr) (γ : Nat → Nat) (k g j : Nat) (h : j < k * 7) : wrCell ws (upd γ k g) j = wrCell ws γ j := by
  unfold wrCell
  rw [upd_off γ g (show j / 7 ≠ k by omega)]

theorem wrFill_step (ws : List Wr) (γ : Nat → Nat) (k g j : Nat) :
    (if j = k * 7 + 6 then Value.slice (some ⟨g, 0, none⟩) (ws.getD k wz).xs.length (ws.getD k wz).xs.length else if j = k * 7 + 5 then Value.bool (ws.getD k wz).de else if j = k * 7 + 4 then Value.int .i64 (ws.getD k wz).v else if j = k * 7 + 3 then Value.int .i64 (ws.getD k wz).q else if j = k * 7 + 2 then Value.int .i64 (ws.getD k wz).s else if j = k * 7 + 1 then Value.int .i64 (ws.getD k wz).c else if j = k * 7 then Value.int .i64 (ws.getD k wz).k else wrFill ws γ k j) = wrFill ws (upd γ k g) (k + 1) j := by
  unfold wrFill
  by_cases h6 : j = k * 7 + 6
  · rw [if_pos h6, if_pos (by omega), h6, wrCell6, upd_at]
  rw [if_neg h6]
  by_cases h5 : j = k * 7 + 5
  · rw [if_pos h5, if_pos (by omega), h5, wrCell5]
  rw [if_neg h5]
  by_cases h4 : j = k * 7 + 4
  · rw [if_pos h4, if_pos (by omega), h4, wrCell4]
  rw [if_neg h4]
  by_cases h3 : j = k * 7 + 3
  · rw [if_pos h3, if_pos (by omega), h3, wrCell3]
  rw [if_neg h3]
  by_cases h2 : j = k * 7 + 2
  · rw [if_pos h2, if_pos (by omega), h2, wrCell2]
  rw [if_neg h2]
  by_cases h1 : j = k * 7 + 1
  · rw [if_pos h1, if_pos (by omega), h1, wrCell1]
  rw [if_neg h1]
  by_cases h0 : j = k * 7
  · rw [if_pos h0, if_pos (by omega), h0, wrCell0]
  rw [if_neg h0]
  by_cases hl : j < k * 7
  · rw [if_pos hl, if_pos (by omega), wrCell_off _ _ _ _ _ hl]
  · rw [if_neg hl, if_neg (by omega)]

theorem wrAt_of_row {w : World} {b t : Nat} {ws : List Wr} {γ : Nat → Nat} (h : w.rowIs b t (ws.length * 7) (wrFill ws γ ws.length)) {i : Nat} (hi : i < ws.length) : WrAt w b (i * 7) (ws.getD i wz) (some ⟨γ i, 0, none⟩) (ws.getD i wz).xs.length := by
  refine ⟨?_, ?_, ?_, ?_, ?_, ?_, ?_⟩
  · rw [h.cell (by omega), wrFill, if_pos (by omega), wrCell0]
  · rw [h.cell (by omega), wrFill, if_pos (by omega), wrCell1]
  · rw [h.cell (by omega), wrFill, if_pos (by omega), wrCell2]
  · rw [h.cell (by omega), wrFill, if_pos (by omega), wrCell3]
  · rw [h.cell (by omega), wrFill, if_pos (by omega), wrCell4]
  · rw [h.cell (by omega), wrFill, if_pos (by omega), wrCell5]
  · rw [h.cell (by omega), wrFill, if_pos (by omega), wrCell6]

theorem wrow_start (w : World) (t n : Nat) (ws : List Wr) (γ : Nat → Nat) : (w.alloc (.cells (madeCells #[.int .i64 0, .int .i64 0, .int .i64 0, .int .i64 0, .int .i64 0, .bool false, .slice none 0 0] (n * 7)) t)).rowIs w.heap.size t (n * 7) (wrFill ws γ 0) := by
  refine ⟨_, Go.Deep.blk_alloc_new _ _, size_madeCells _ _, fun i hi => ?_⟩
  have e : wrFill ws γ 0 i = zeroCell i := by unfold wrFill; rw [if_neg (by omega)]
  rw [e]
  have h7 : i % 7 = 0 ∨ i % 7 = 1 ∨ i % 7 = 2 ∨ i % 7 = 3 ∨ i % 7 = 4 ∨ i % 7 = 5 ∨ i % 7 = 6 := by omega
  rcases h7 with h | h | h | h | h | h | h <;> simp [madeCells, zeroCell, hi, h]

abbrev set7 (w : World) (g o : Nat) (x : Wr) (a : Option Addr) (len cap : Nat) : World :=
  ((((((w.setCell ⟨g, o, none⟩ (.int .i64 x.k)).setCell ⟨g, o + 1, none⟩ (.int .i64 x.c)).setCell ⟨g, o + 2, none⟩ (.int .i64 x.s)).setCell ⟨g, o + 3, none⟩ (.int .i64 x.q)).setCell ⟨g, o + 4, none⟩ (.int .i64 x.v)).setCell ⟨g, o + 5, none⟩ (.bool x.de)).setCell ⟨g, o + 6, none⟩ (.slice a len cap)

theorem wrow_step {w : World} {b t n : Nat} {ws : List Wr} {γ : Nat → Nat} {k : Nat} (g : Nat) (h : w.rowIs b t n (wrFill ws γ k)) :
    (set7 w b (k * 7) (ws.getD k wz) (some ⟨g, 0, none⟩) (ws.getD k wz).xs.length (ws.getD k wz).xs.length).rowIs b t n (wrFill ws (upd γ k g) (k + 1)) :=
  (((((((h.set _ _).set _ _).set _ _).set _ _).set _ _).set _ _).set _ _).congr (fun j _ => wrFill_step ws γ k g j)

theorem below_set7 {B : Nat} {a w : World} {g : Nat} (h : Below B a w) (hg : B ≤ g) (o : Nat) (x : Wr) (ad : Option Addr) (len cap : Nat) : Below B a (set7 w g o x ad len cap) :=
  ((((((h.setCell (p := ⟨g, o, none⟩) hg _).setCell (p := ⟨g, o + 1, none⟩) hg _).setCell (p := ⟨g, o + 2, none⟩) hg _).setCell (p := ⟨g, o + 3, none⟩) hg _).setCell (p := ⟨g, o + 4, none⟩) hg _).setCell (p := ⟨g, o + 5, none⟩) hg _).setCell (p := ⟨g, o + 6, none⟩) hg _

theorem HoldsDeps.set7 {w : World} {b o : Nat} {xs : List Dp} (h : HoldsDeps w b o xs) {g : Nat} (hne : g ≠ b) (o' : Nat) (x : Wr) (a : Option Addr) (len cap : Nat) : HoldsDeps (set7 w g o' x a len cap) b o xs :=
  ((((((h.set hne _).set hne _).set hne _).set hne _).set hne _).set hne _).set hne _

theorem infoWr : (Tryd.prog.info? 48).map (fun i => (i.zero, i.size, i.bytes)) = some (some (wrV 0 0 0 0 0 false none 0 0), 7, 72) := by kernel_rfl

theorem run_make_ws (n : Nat) (hn : n ≤ 1048576) (w : World) :
    (Instr.makeSlice 26 (.int .i64 (n : Int)) (.int .i64 (n : Int))).run Tryd.prog w = .ok (.slice (some ⟨w.heap.size, 0, none⟩) n n) (w.alloc (.cells (madeCells #[.int .i64 0, .int .i64 0, .int .i64 0, .int .i64 0, .int .i64 0, .bool false, .slice none 0 0] (n * 7)) 48)) := by
  obtain ⟨i, hi, hzz⟩ := Option.map_eq_some_iff.1 infoWr
  simp only [Prod.mk.injEq] at hzz
  obtain ⟨hz, hs, hb⟩ := hzz
  have hr := run_make (P := Tryd.prog) w 26 48 i _ Tryd.underlying26 hi hz .i64 .i64 n n (by omega) (Int.le_refl _) (by rw [hb]; omega) (by omega)
  simp only [Int.toNat_natCast, hs] at hr
  exact hr

/-- The blocks of the dependencies of the first k writes: each of its own, behind block B, holding what is asked. -/
def Rows7 (w : World) (B : Nat) (ws : List Wr) (γ : Nat → Nat) (k : Nat) : Prop :=
  (∀ i, i < k → B < γ i ∧ γ i < w.heap.size ∧ HoldsDeps w (γ i) 0 (ws.getD i wz).xs ∧ ∀ o, w.frozen? ⟨γ i, o, none⟩ = false) ∧ ∀ i j, i < k → j < k → γ i = γ j → i = j

theorem Rows7.below {w w' : World} {B : Nat} {ws : List Wr} {γ : Nat → Nat} {k : Nat} (h : Rows7 w B ws γ k) (hb : Below w.heap.size w w') : Rows7 w' B ws γ k :=
  ⟨fun i hi => ⟨(h.1 i hi).1, Nat.lt_of_lt_of_le (h.1 i hi).2.1 hb.size, (h.1 i hi).2.2.1.below hb (h.1 i hi).2.1, fun o => (hb.frozen (p := ⟨γ i, o, none⟩) (h.1 i hi).2.1).trans ((h.1 i hi).2.2.2 o)⟩, h.2⟩

theorem Rows7.step {w w' : World} {B : Nat} {ws : List Wr} {γ : Nat → Nat} {k g : Nat} (h : Rows7 w B ws γ k) (hb : Below w.heap.size w w') (hB : B < w.heap.size) (hg : w.heap.size ≤ g) (hg' : g < w'.heap.size) (hh : HoldsDeps w' g 0 (ws.getD k wz).xs) (hz : ∀ o, w'.frozen? ⟨g, o, none⟩ = false) (o : Nat) (x : Wr) (a : Option Addr) (len cap : Nat) :
    Rows7 (set7 w' B o x a len cap) B ws (upd γ k g) (k + 1) := by
  have h' := h.below hb
  refine ⟨fun i hi => ?_, fun i j hi hj he => ?_⟩
  · by_cases hik : i = k
    · subst hik
      rw [upd_at]
      exact ⟨by omega, by simpa using hg', hh.set7 (by omega) _ _ _ _ _, fun o' => by simpa using hz o'⟩
    · rw [upd_off γ g hik]
      obtain ⟨h1, h2, h3, h4⟩ := h'.1 i (by omega)
      exact ⟨h1, by simpa using h2, h3.set7 (by omega) _ _ _ _ _, fun o' => by simpa using h4 o'⟩
  · by_cases hik : i = k
    · by_cases hjk : j = k
      · omega
      · rw [hik, upd_at, upd_off γ g hjk] at he
        have := (h.1 j (by omega)).2.1
        omega
    · by_cases hjk : j = k
      · rw [hjk, upd_at, upd_off γ g hik] at he
        have := (h.1 i (by omega)).2.1
        omega
      · rw [upd_off γ g hik, upd_off γ g hjk] at he
        exact h.2 i j (by omega) (by omega) he

/-- Writes of one's own, from block number base on: each row in a block of its own, none of them shut. -/
structure OwnWs (w : World) (base b : Nat) (ws : List Wr) (γ : Nat → Nat) : Prop where
  holds : HoldsWs w b ws γ
  le : base ≤ b
  open_ : ∀ o, w.frozen? ⟨b, o, none⟩ = false
  deps : ∀ i, i < ws.length → base ≤ γ i ∧ γ i ≠ b ∧ ∀ o, w.frozen? ⟨γ i, o, none⟩ = false
  inj : ∀ i j, i < ws.length → j < ws.length → γ i = γ j → i = j

theorem OwnWs.below {w w' : World} {base b : Nat} {ws : List Wr} {γ : Nat → Nat} (h : OwnWs w base b ws γ) (hb : Below w.heap.size w w') : OwnWs w' base b ws γ where
  holds := h.holds.below hb
  le := h.le
  open_ := fun o => (hb.frozen (p := ⟨b, o, none⟩) h.holds.1).trans (h.open_ o)
  deps := fun i hi => ⟨(h.deps i hi).1, (h.deps i hi).2.1, fun o => (hb.frozen (p := ⟨γ i, o, none⟩) (h.holds.2 i hi).2.1).trans ((h.deps i hi).2.2 o)⟩
  inj := h.inj

set_option maxHeartbeats 2000000 in
theorem toWriteS_any (a : Option Addr) (len cap : Nat) (ws : List Wr) (w : World) (hn : len ≤ 1048576) (hl : ws.length = len) (hx : ∀ i, i < len → (ws.getD i wz).xs.length ≤ 1048576) (hi : IsWs w a ws) :
    Calls Tryd.prog 7 #[.slice a len cap] w fun e w' => ∃ γ, e = .returned (.slice (some ⟨w.heap.size, 0, none⟩) len len) ∧ OwnWs w' w.heap.size w.heap.size ws γ ∧ Below w.heap.size w w' := by
  have HI : Hid (IsWs w a ws) := hi
  have HL : Hid (ws.length = len) := hl
  have HX : Hid (∀ i, i < len → (ws.getD i wz).xs.length ≤ 1048576) := hx
  clear hi hl hx
  have hmk := run_make_ws len hn
  go_enter Tryd.func7, Tryd.ntmps7
  go_wp2
  clear hmk
  go_loopw [4] (fun i wr => ∃ (k : Nat) (γ : Nat → Nat), k ≤ len ∧ i = .int .i64 k ∧ Hid (wr.rowIs w.heap.size 48 (len * 7) (wrFill ws γ k)) ∧ Hid (Rows7 wr w.heap.size ws γ k) ∧ Hid (Below w.heap.size w wr)) (fun i _ => len - (intOf i).toNat)
  case atStart => exact ⟨0, fun _ => 0, Nat.zero_le _, rfl, wrow_start _ _ _ _ _, ⟨fun i hi => absurd hi (Nat.not_lt_zero i), fun i j hi => absurd hi (Nat.not_lt_zero i)⟩, (Below.refl _ _).alloc (Nat.le_refl _) _⟩
  case round =>
    obtain ⟨k, γ, hk, rfl, HR, HG, HB⟩ := hrel
    by_cases hk' : k < len
    · obtain ⟨b, o, a', cp, rfl, hw, hmx, hd⟩ := ws_at HI.out HB.out HL.out hk'
      obtain ⟨e0, e1, e2, e3, e4, e5, e6⟩ := hw
      have HD : Hid (IsDeps wr a' (ws.getD k wz).xs) := hd
      have hxl := HX.out k hk'
      have i1 : (0 : Int) ≤ (k : Int) := by omega
      have i2 : (k : Int) < (len : Int) := by omega
      clear hd hmx
      have HS : Hid (∀ (w2 : World) (g : Nat), w2.rowIs w.heap.size 48 (len * 7) (wrFill ws γ k) → (set7 w2 w.heap.size (k * 7) (ws.getD k wz) (some ⟨g, 0, none⟩) (ws.getD k wz).xs.length (ws.getD k wz).xs.length).rowIs w.heap.size 48 (len * 7) (wrFill ws (upd γ k g) (k + 1))) := fun w2 g h2 => wrow_step g h2
      have HG2 : Hid (∀ (w2 : World) (g : Nat), Below wr.heap.size wr w2 → wr.heap.size ≤ g → g < w2.heap.size → HoldsDeps w2 g 0 (ws.getD k wz).xs → (∀ o, w2.frozen? ⟨g, o, none⟩ = false) → Rows7 (set7 w2 w.heap.size (k * 7) (ws.getD k wz) (some ⟨g, 0, none⟩) (ws.getD k wz).xs.length (ws.getD k wz).xs.length) w.heap.size ws (upd γ k g) (k + 1)) := fun w2 g h2 h3 h4 h5 h6 => HG.out.step h2 HR.out.lt h3 h4 h5 h6 _ _ _ _ _
      generalize ws.getD k wz = x at *
      obtain ⟨xk, xc, xs', xq, xv, xd, xx⟩ := x
      simp only at e0 e1 e2 e3 e4 e5 e6 hxl HS HG2 HD
      go_wp2_with fail
      refine (toWrite_own _ _ _ _ _ _ _ _ _ xx _ hxl rfl HD.out).mono ?_
      rintro e w2 ⟨g, rfl, hg1, hg2, hg3, hg4, hb⟩
      have HR2 : Hid (w2.rowIs w.heap.size 48 (len * 7) (wrFill ws γ k)) := HR.out.of_block (hb.block _ HR.out.lt)
      have HB2 : Hid (Below w.heap.size w w2) := below_step HB.out HB.out.size hb
      have HG3 := Lib.hid (HG2.out w2 g hb hg1 hg2 hg3 hg4)
      have c0 := HR2.out.cell (i := k * 7) (by omega)
      have c1 := HR2.out.cell (i := k * 7 + 1) (by omega)
      have c2 := HR2.out.cell (i := k * 7 + 2) (by omega)
      have c3 := HR2.out.cell (i := k * 7 + 3) (by omega)
      have c4 := HR2.out.cell (i := k * 7 + 4) (by omega)
      have c5 := HR2.out.cell (i := k * 7 + 5) (by omega)
      have c6 := HR2.out.cell (i := k * 7 + 6) (by omega)
      have fz := HR2.out.frozen
      clear hb hg1 hg2 hg3 hg4 HG2
      go_wp2
      exact ⟨⟨k + 1, upd γ k g, by omega, by go_num, HS.out _ g HR2.out, HG3.out, below_set7 HB2.out (Nat.le_refl _) (k * 7) ⟨xk, xc, xs', xq, xv, xd, xx⟩ (some ⟨g, 0, none⟩) xx.length xx.length⟩, by simp [intOf]; omega⟩
    · have hkk : k = len := by omega
      subst hkk
      go_wp2
      go_ret
      have hr := HR.out
      have hz := hr.lt
      rw [← HL.out] at hr
      have HL' := HL.out
      refine ⟨γ, rfl, ⟨⟨hz, fun i hi => ⟨⟨_, wrAt_of_row (by rw [HL'] at hr ⊢; exact hr) hi⟩, (HG.out.1 i (by omega)).2.1, (HG.out.1 i (by omega)).2.2.1⟩⟩, Nat.le_refl _, hr.frozen, fun i hi => ⟨?_, ?_, (HG.out.1 i (by omega)).2.2.2⟩, fun i j hi hj => HG.out.2 i j (by omega) (by omega)⟩, HB.out⟩
      · have := (HG.out.1 i (by omega)).1
        omega
      · have := (HG.out.1 i (by omega)).1
        omega

end Go.Proofs.YtlbcpppmpbbkdalDoor
