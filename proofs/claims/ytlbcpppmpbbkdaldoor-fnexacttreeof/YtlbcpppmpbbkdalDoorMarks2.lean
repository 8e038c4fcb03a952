/- Marks: what markWriteS writes, heldWriteS finds. -/
import Derived.Test.YtlbcpppmpbbkdalDoorMarks
namespace Go.Proofs.YtlbcpppmpbbkdalDoor
open Go.ChangeShapes Go.WideShapes Go.ChangeAt Go.RowKit Go.Joins
attribute [local go_sem ↓] Go.wp_at_zero Go.wp_at_succ

/-- The number that write i's marks begin with. -/
def markK (ws : List Wr) (k : Int) (i : Nat) : Int := k + 6 * i + 4 * bulk (ws.take i)

theorem markK_zero (ws : List Wr) (k : Int) : markK ws k 0 = k := by simp [markK, bulk]

theorem markK_next (ws : List Wr) (k : Int) (i : Nat) (h : i < ws.length) : markK ws k (i + 1) = markK ws k i + 6 + 4 * (ws.getD i wz).xs.length := by
  unfold markK
  rw [bulk_take ws i h]
  push_cast
  omega

theorem bulk_take_le (ws : List Wr) (i : Nat) : bulk (ws.take i) ≤ bulk ws := by
  induction ws generalizing i with
  | nil => simp
  | cons x r ih =>
    cases i with
    | zero => simp [bulk]
    | succ i =>
      have := ih i
      simp only [List.take_succ_cons, bulk]
      omega

theorem markK_bounds (ws : List Wr) (k : Int) (i : Nat) (h0 : 0 ≤ k) (h1 : k ≤ 1073741824) (hi : i ≤ 1048576) (hb : bulk ws ≤ 1048576) : 0 ≤ markK ws k i ∧ markK ws k i ≤ 1099511627000 := by
  have := bulk_take_le ws i
  unfold markK
  omega

/-- Cell o of a marked row; f: what was there. -/
def mkCell (ws : List Wr) (k : Int) (f : Nat → Value) (o : Nat) : Value :=
  if o % 7 < 5 then .int .i64 (markK ws k (o / 7) + (o % 7 : Nat)) else if o % 7 = 5 then .bool ((markK ws k (o / 7) + 1 + 1 + 1 + 1 + 1) % 3 == 0) else f o

theorem mkCell_int (ws : List Wr) (k : Int) (f : Nat → Value) (j o c : Nat) (ho : o = j * 7 + c) (hc : c < 5) (z : Int) (hz : z = markK ws k j + c) : Value.int .i64 z = mkCell ws k f o := by
  subst ho
  unfold mkCell
  have e1 : (j * 7 + c) % 7 = c := by omega
  have e2 : (j * 7 + c) / 7 = j := by omega
  rw [e1, e2, if_pos hc, hz]

theorem mk_step (ws : List Wr) (k : Int) (f : Nat → Value) (j o : Nat) :
    (if o = j * 7 + 5 then Value.bool ((markK ws k j + 1 + 1 + 1 + 1 + 1) % 3 == 0) else if o = j * 7 + 4 then Value.int .i64 (markK ws k j + 1 + 1 + 1 + 1) else if o = j * 7 + 1 + 2 then Value.int .i64 (markK ws k j + 1 + 1 + 1) else if o = j * 7 + 1 + 1 then Value.int .i64 (markK ws k j + 1 + 1) else if o = j * 7 + 1 then Value.int .i64 (markK ws k j + 1) else if o = j * 7 then Value.int .i64 (markK ws k j) else if o < j * 7 then mkCell ws k f o else f o) = (if o < (j + 1) * 7 then mkCell ws k f o else f o) := by
  by_cases h5 : o = j * 7 + 5
  · rw [if_pos h5, if_pos (by omega), h5]
    unfold mkCell
    rw [if_neg (by omega), if_pos (by omega), show (j * 7 + 5) / 7 = j by omega]
  rw [if_neg h5]
  by_cases h4 : o = j * 7 + 4
  · rw [if_pos h4, if_pos (by omega)]
    exact mkCell_int ws k f j o 4 h4 (by omega) _ (by omega)
  rw [if_neg h4]
  by_cases h3 : o = j * 7 + 1 + 2
  · rw [if_pos h3, if_pos (by omega)]
    exact mkCell_int ws k f j o 3 (by omega) (by omega) _ (by omega)
  rw [if_neg h3]
  by_cases h2 : o = j * 7 + 1 + 1
  · rw [if_pos h2, if_pos (by omega)]
    exact mkCell_int ws k f j o 2 (by omega) (by omega) _ (by omega)
  rw [if_neg h2]
  by_cases h1 : o = j * 7 + 1
  · rw [if_pos h1, if_pos (by omega)]
    exact mkCell_int ws k f j o 1 (by omega) (by omega) _ (by omega)
  rw [if_neg h1]
  by_cases h0 : o = j * 7
  · rw [if_pos h0, if_pos (by omega)]
    exact mkCell_int ws k f j o 0 (by omega) (by omega) _ (by omega)
  rw [if_neg h0]
  by_cases hl : o < j * 7
  · rw [if_pos hl, if_pos (by omega)]
  · rw [if_neg hl]
    by_cases h6 : o < (j + 1) * 7
    · rw [if_pos h6]
      unfold mkCell
      rw [if_neg (by omega), if_neg (by omega)]
    · rw [if_neg h6]

abbrev mark6 (w : World) (b o : Nat) (m : Int) : World :=
  (((((w.setCell ⟨b, o, none⟩ (.int .i64 m)).setCell ⟨b, o + 1, none⟩ (.int .i64 (m + 1))).setCell ⟨b, o + 1 + 1, none⟩ (.int .i64 (m + 1 + 1))).setCell ⟨b, o + 1 + 2, none⟩ (.int .i64 (m + 1 + 1 + 1))).setCell ⟨b, o + 4, none⟩ (.int .i64 (m + 1 + 1 + 1 + 1))).setCell ⟨b, o + 5, none⟩ (.bool ((m + 1 + 1 + 1 + 1 + 1) % 3 == 0))

theorem mark6_block (w : World) (b o : Nat) (m : Int) {g : Nat} (hg : g ≠ b) : (mark6 w b o m).heap[g]? = w.heap[g]? := by
  unfold mark6
  simp only [Below.heap_setCell _ _ _ _ (show g ≠ (⟨b, _, none⟩ : Addr).block from hg)]

/-- Writes of one's own, from block number base on: the row's block and, where there are some, those of the dependencies, all apart, none of them shut. -/
structure OwnG (w : World) (base b : Nat) (ws : List Wr) (γ : Nat → Nat) : Prop where
  lt : b < w.heap.size
  le : base ≤ b
  open_ : ∀ o, w.frozen? ⟨b, o, none⟩ = false
  at_ : ∀ i, i < ws.length → ∃ a cap, WrAt w b (i * 7) (ws.getD i wz) a cap ∧ (0 < (ws.getD i wz).xs.length → a = some ⟨γ i, 0, none⟩)
  deps : ∀ i, i < ws.length → 0 < (ws.getD i wz).xs.length → base ≤ γ i ∧ γ i < w.heap.size ∧ γ i ≠ b ∧ HoldsDeps w (γ i) 0 (ws.getD i wz).xs ∧ ∀ o, w.frozen? ⟨γ i, o, none⟩ = false
  inj : ∀ i j, i < ws.length → j < ws.length → 0 < (ws.getD i wz).xs.length → 0 < (ws.getD j wz).xs.length → γ i = γ j → i = j

theorem OwnWs.gen {w : World} {base b : Nat} {ws : List Wr} {γ : Nat → Nat} (h : OwnWs w base b ws γ) : OwnG w base b ws γ where
  lt := h.holds.1
  le := h.le
  open_ := h.open_
  at_ := fun i hi => by
    obtain ⟨⟨cap, h1⟩, _, _⟩ := h.holds.2 i hi
    exact ⟨_, cap, h1, fun _ => rfl⟩
  deps := fun i hi _ => ⟨(h.deps i hi).1, (h.holds.2 i hi).2.1, (h.deps i hi).2.1, (h.holds.2 i hi).2.2, (h.deps i hi).2.2⟩
  inj := fun i j hi hj _ _ e => h.inj i j hi hj e

theorem OwnG.below {w w' : World} {base b : Nat} {ws : List Wr} {γ : Nat → Nat} (h : OwnG w base b ws γ) (hb : Below w.heap.size w w') : OwnG w' base b ws γ where
  lt := Nat.lt_of_lt_of_le h.lt hb.size
  le := h.le
  open_ := fun o => (hb.frozen (p := ⟨b, o, none⟩) h.lt).trans (h.open_ o)
  at_ := fun i hi => by
    obtain ⟨a, cap, h1, h2⟩ := h.at_ i hi
    exact ⟨a, cap, h1.of_block (hb.block _ h.lt), h2⟩
  deps := fun i hi hp => by
    obtain ⟨h1, h2, h3, h4, h5⟩ := h.deps i hi hp
    exact ⟨h1, Nat.lt_of_lt_of_le h2 hb.size, h3, h4.below hb h2, fun o => (hb.frozen (p := ⟨γ i, o, none⟩) h2).trans (h5 o)⟩
  inj := h.inj

theorem OwnG.isWs {w : World} {base b : Nat} {ws : List Wr} {γ : Nat → Nat} (h : OwnG w base b ws γ) (hx : Few ws) : IsWs w (some ⟨b, 0, none⟩) ws := by
  refine .inr ⟨b, 0, rfl, h.lt, fun i hi => ?_⟩
  obtain ⟨a, cap, h1, h2⟩ := h.at_ i hi
  refine ⟨a, cap, by rw [Nat.zero_add]; exact h1, by have := hx i hi; unfold maxLen; omega, ?_⟩
  by_cases hp : 0 < (ws.getD i wz).xs.length
  · exact .inr ⟨_, _, h2 hp, (h.deps i hi hp).2.1, (h.deps i hi hp).2.2.2.1⟩
  · exact .inl (List.length_eq_zero_iff.1 (by omega))

/-- The blocks that a row of writes takes up. -/
def TakenUp (b : Nat) (ws : List Wr) (γ : Nat → Nat) (x : Nat) : Prop := x = b ∨ ∃ i, i < ws.length ∧ 0 < (ws.getD i wz).xs.length ∧ x = γ i

/-- While a row is being marked: of its writes the first j are. -/
structure MarkInv (w wr : World) (b : Nat) (ws : List Wr) (γ : Nat → Nat) (k : Int) (f : Nat → Value) (j : Nat) : Prop where
  row : CellsAre wr b (ws.length * 7) (fun o => if o < j * 7 then mkCell ws k f o else f o)
  deps : ∀ i, i < ws.length → 0 < (ws.getD i wz).xs.length → CellsAre wr (γ i) ((ws.getD i wz).xs.length * 4) (fun o => if i < j then markFn (markK ws k i + 1 + 1 + 1 + 1 + 1 + 1) o else .int .i64 (depCell (ws.getD i wz).xs o))
  only : Only (TakenUp b ws γ) w wr

theorem markInv_round {w wr w2 : World} {base b : Nat} {ws : List Wr} {γ : Nat → Nat} {k : Int} {f : Nat → Value} {j : Nat} (hO : OwnG w base b ws γ) (hj : j < ws.length) (h : MarkInv w wr b ws γ k f j)
    (h2 : CellsAre w2 (γ j) ((ws.getD j wz).xs.length * 4) (markFn (markK ws k j + 1 + 1 + 1 + 1 + 1 + 1))) (h3 : Only (fun x => 0 < (ws.getD j wz).xs.length ∧ x = γ j) (mark6 wr b (j * 7) (markK ws k j)) w2) : MarkInv w w2 b ws γ k f (j + 1) where
  row := by
    have h6 : CellsAre (mark6 wr b (j * 7) (markK ws k j)) b (ws.length * 7) (fun o => if o < (j + 1) * 7 then mkCell ws k f o else f o) :=
      ((((((h.row.set (by omega) _).set (by omega) _).set (by omega) _).set (by omega) _).set (by omega) _).set (by omega) _).congr (fun o _ => mk_step ws k f j o)
    exact h6.of_block (h3.block b (fun e => (hO.deps j hj e.1).2.2.1 e.2.symm))
  deps := by
    intro i hi hp
    by_cases hij : i = j
    · subst hij
      exact h2.congr (fun o _ => by rw [if_pos (by omega)])
    · have e : ¬ (0 < (ws.getD j wz).xs.length ∧ γ i = γ j) := fun e => hij (hO.inj i j hi hj hp e.1 e.2)
      refine ((h.deps i hi hp).of_block ((h3.block (γ i) e).trans (mark6_block _ _ _ _ (hO.deps i hi hp).2.2.1))).congr (fun o _ => ?_)
      by_cases hl : i < j
      · rw [if_pos hl, if_pos (by omega)]
      · rw [if_neg hl, if_neg (by omega)]
  only := by
    refine Only.trans ((((((h.only.set (.inl rfl) _ _).set (.inl rfl) _ _).set (.inl rfl) _ _).set (.inl rfl) _ _).set (.inl rfl) _ _).set (.inl rfl) _ _) h3 fun x hx => .inr ⟨j, hj, hx.1, hx.2⟩

theorem markInv_start {w : World} {base b : Nat} {ws : List Wr} {γ : Nat → Nat} (k : Int) (hO : OwnG w base b ws γ) : MarkInv w w b ws γ k (fun o => (w.cell? ⟨b, o, none⟩).getD undef) 0 where
  row := by
    intro o ho
    dsimp only
    rw [if_neg (by omega)]
    obtain ⟨a, cap, ⟨h0, h1, h2, h3, h4, h5, h6⟩, _⟩ := hO.at_ (o / 7) (by omega)
    have h7 : o % 7 = 0 ∨ o % 7 = 1 ∨ o % 7 = 2 ∨ o % 7 = 3 ∨ o % 7 = 4 ∨ o % 7 = 5 ∨ o % 7 = 6 := by omega
    have hx : ∃ v, w.cell? ⟨b, o, none⟩ = some v := by
      rcases h7 with e | e | e | e | e | e | e
      · exact ⟨_, by rw [show o = o / 7 * 7 by omega]; exact h0⟩
      · exact ⟨_, by rw [show o = o / 7 * 7 + 1 by omega]; exact h1⟩
      · exact ⟨_, by rw [show o = o / 7 * 7 + 2 by omega]; exact h2⟩
      · exact ⟨_, by rw [show o = o / 7 * 7 + 3 by omega]; exact h3⟩
      · exact ⟨_, by rw [show o = o / 7 * 7 + 4 by omega]; exact h4⟩
      · exact ⟨_, by rw [show o = o / 7 * 7 + 5 by omega]; exact h5⟩
      · exact ⟨_, by rw [show o = o / 7 * 7 + 6 by omega]; exact h6⟩
    obtain ⟨v, hv⟩ := hx
    simp [hv]
  deps := by
    intro i hi hp o ho
    dsimp only
    rw [if_neg (by omega)]
    have := holds_cells (hO.deps i hi hp).2.2.2.1 ho
    rwa [Nat.zero_add] at this
  only := Only.refl _ _

theorem markInv_slice {w wr : World} {base b : Nat} {ws : List Wr} {γ : Nat → Nat} {k : Int} {j i : Nat} (hO : OwnG w base b ws γ) (h : MarkInv w wr b ws γ k (fun o => (w.cell? ⟨b, o, none⟩).getD undef) j) (hi : i < ws.length) :
    ∃ a cp, wr.cell? ⟨b, i * 7 + 6, none⟩ = some (.slice a (ws.getD i wz).xs.length cp) ∧ (0 < (ws.getD i wz).xs.length → a = some ⟨γ i, 0, none⟩) := by
  obtain ⟨a, cap, ⟨_, _, _, _, _, _, h6⟩, ha⟩ := hO.at_ i hi
  refine ⟨a, cap, ?_, ha⟩
  rw [h.row (i * 7 + 6) (by omega)]
  have e : mkCell ws k (fun o => (w.cell? ⟨b, o, none⟩).getD undef) (i * 7 + 6) = (w.cell? ⟨b, i * 7 + 6, none⟩).getD undef := by
    unfold mkCell
    rw [if_neg (by omega), if_neg (by omega)]
  simp only [e, ite_self, h6]
  rfl

/-- A row of writes that is marked, from k on. -/
def MarkedWs (w : World) (b : Nat) (ws : List Wr) (γ : Nat → Nat) (k : Int) : Prop :=
  ∀ i, i < ws.length → (w.cell? ⟨b, i * 7, none⟩ = some (.int .i64 (markK ws k i)) ∧ w.cell? ⟨b, i * 7 + 1, none⟩ = some (.int .i64 (markK ws k i + 1)) ∧ w.cell? ⟨b, i * 7 + 1 + 1, none⟩ = some (.int .i64 (markK ws k i + 1 + 1)) ∧ w.cell? ⟨b, i * 7 + 1 + 2, none⟩ = some (.int .i64 (markK ws k i + 1 + 1 + 1)) ∧
    w.cell? ⟨b, i * 7 + 4, none⟩ = some (.int .i64 (markK ws k i + 1 + 1 + 1 + 1)) ∧ w.cell? ⟨b, i * 7 + 5, none⟩ = some (.bool ((markK ws k i + 1 + 1 + 1 + 1 + 1) % 3 == 0)) ∧ ∃ a cp, w.cell? ⟨b, i * 7 + 6, none⟩ = some (.slice a (ws.getD i wz).xs.length cp) ∧ (0 < (ws.getD i wz).xs.length → a = some ⟨γ i, 0, none⟩)) ∧
    (0 < (ws.getD i wz).xs.length → CellsAre w (γ i) ((ws.getD i wz).xs.length * 4) (markFn (markK ws k i + 1 + 1 + 1 + 1 + 1 + 1)))

theorem MarkedWs.below {w w' : World} {b : Nat} {ws : List Wr} {γ : Nat → Nat} {k : Int} {B : Nat} (h : MarkedWs w b ws γ k) (hb : Below B w w') (h1 : b < B) (h2 : ∀ i, i < ws.length → 0 < (ws.getD i wz).xs.length → γ i < B) : MarkedWs w' b ws γ k := by
  intro i hi
  obtain ⟨⟨e0, e1, e2, e3, e4, e5, a, cp, e6, e7⟩, hd⟩ := h i hi
  have c : ∀ o, w'.cell? ⟨b, o, none⟩ = w.cell? ⟨b, o, none⟩ := fun o => hb.cell (p := ⟨b, o, none⟩) h1
  exact ⟨⟨(c _).trans e0, (c _).trans e1, (c _).trans e2, (c _).trans e3, (c _).trans e4, (c _).trans e5, a, cp, (c _).trans e6, e7⟩, fun hp => (hd hp).of_block (hb.block _ (h2 i hi hp))⟩

theorem markInv_end {w wr : World} {base b : Nat} {ws : List Wr} {γ : Nat → Nat} {k : Int} (hO : OwnG w base b ws γ) (h : MarkInv w wr b ws γ k (fun o => (w.cell? ⟨b, o, none⟩).getD undef) ws.length) : MarkedWs wr b ws γ k := by
  intro i hi
  have r : ∀ c, c < 7 → wr.cell? ⟨b, i * 7 + c, none⟩ = some (mkCell ws k (fun o => (w.cell? ⟨b, o, none⟩).getD undef) (i * 7 + c)) := fun c hc => by
    rw [h.row _ (by omega)]
    dsimp only
    rw [if_pos (by omega)]
  refine ⟨⟨?_, ?_, ?_, ?_, ?_, ?_, markInv_slice hO h hi⟩, fun hp => (h.deps i hi hp).congr (fun o _ => by rw [if_pos hi])⟩
  · rw [show i * 7 = i * 7 + 0 from rfl, r 0 (by omega), mkCell_int ws k _ i (i * 7 + 0) 0 rfl (by omega) (markK ws k i) (by omega)]
  · rw [r 1 (by omega), mkCell_int ws k _ i (i * 7 + 1) 1 rfl (by omega) (markK ws k i + 1) (by omega)]
  · rw [show i * 7 + 1 + 1 = i * 7 + 2 from rfl, r 2 (by omega), mkCell_int ws k _ i (i * 7 + 2) 2 rfl (by omega) (markK ws k i + 1 + 1) (by omega)]
  · rw [show i * 7 + 1 + 2 = i * 7 + 3 from rfl, r 3 (by omega), mkCell_int ws k _ i (i * 7 + 3) 3 rfl (by omega) (markK ws k i + 1 + 1 + 1) (by omega)]
  · rw [r 4 (by omega), mkCell_int ws k _ i (i * 7 + 4) 4 rfl (by omega) (markK ws k i + 1 + 1 + 1 + 1) (by omega)]
  · rw [r 5 (by omega)]
    unfold mkCell
    rw [if_neg (by omega), if_pos (by omega), show (i * 7 + 5) / 7 = i by omega]

set_option maxHeartbeats 4000000 in
theorem markWriteS_any (base b n cap : Nat) (k : Int) (ws : List Wr) (γ : Nat → Nat) (w : World) (hn : ws.length = n) (hm : n ≤ 1048576) (hbk : bulk ws ≤ 1048576) (h0 : 0 ≤ k) (h1 : k ≤ 1073741824) (ho : OwnG w base b ws γ) :
    Calls Tryd.prog 11 #[.slice (some ⟨b, 0, none⟩) n cap, .int .i64 k] w fun e w' => e = .returned (.int .i64 (markK ws k n)) ∧ MarkedWs w' b ws γ k ∧ Only (TakenUp b ws γ) w w' := by
  have HO : Hid (OwnG w base b ws γ) := ho
  have HN : Hid (ws.length = n) := hn
  clear ho hn
  have HB : Hid (∀ i, i ≤ n → 0 ≤ markK ws k i ∧ markK ws k i ≤ 1099511627000) := fun i hi => markK_bounds ws k i h0 h1 (by omega) hbk
  go_enter Tryd.func11, Tryd.ntmps11
  go_wp2
  go_loopw [1, 5] (fun l i wr => ∃ (j : Nat), j ≤ n ∧ i = .int .i64 j ∧ l = .int .i64 (markK ws k j) ∧ Hid (MarkInv w wr b ws γ k (fun o => (w.cell? ⟨b, o, none⟩).getD undef) j)) (fun _ i _ => n - (intOf i).toNat)
  case atStart => exact ⟨0, Nat.zero_le _, rfl, by rw [markK_zero], markInv_start k HO.out⟩
  case round =>
    obtain ⟨j, hj, rfl, rfl, HI⟩ := hrel
    by_cases hj' : j < n
    · have hjw : j < ws.length := by rw [HN.out]; exact hj'
      have c0 := HI.out.row (j * 7) (by omega)
      have c1 := HI.out.row (j * 7 + 1) (by omega)
      have c2 := HI.out.row (j * 7 + 1 + 1) (by omega)
      have c3 := HI.out.row (j * 7 + 1 + 2) (by omega)
      have c4 := HI.out.row (j * 7 + 4) (by omega)
      have c5 := HI.out.row (j * 7 + 5) (by omega)
      obtain ⟨aj, cp, c6, haj⟩ := markInv_slice HO.out HI.out hjw
      have HAJ := Lib.hid haj
      clear haj
      have fz : ∀ o, wr.frozen? ⟨b, o, none⟩ = false := fun o => (HI.out.only.frozen _).trans (HO.out.open_ o)
      have i1 : (0 : Int) ≤ (j : Int) := by omega
      have i2 : (j : Int) < (n : Int) := by omega
      obtain ⟨m0, m1⟩ := HB.out j hj
      have HS : Hid (∀ w2, CellsAre w2 (γ j) ((ws.getD j wz).xs.length * 4) (markFn (markK ws k j + 1 + 1 + 1 + 1 + 1 + 1)) → Only (fun x => 0 < (ws.getD j wz).xs.length ∧ x = γ j) (mark6 wr b (j * 7) (markK ws k j)) w2 → MarkInv w w2 b ws γ k (fun o => (w.cell? ⟨b, o, none⟩).getD undef) (j + 1)) := fun w2 h2 h3 => markInv_round HO.out hjw HI.out h2 h3
      have HD : Hid (CellsAre (mark6 wr b (j * 7) (markK ws k j)) (γ j) ((ws.getD j wz).xs.length * 4) (fun o => .int .i64 (depCell (ws.getD j wz).xs o))) := by
        by_cases hp : 0 < (ws.getD j wz).xs.length
        · exact ((HI.out.deps j hjw hp).of_block (mark6_block _ _ _ _ (HO.out.deps j hjw hp).2.2.1)).congr (fun o _ => by rw [if_neg (Nat.lt_irrefl j)])
        · exact fun o ho => by omega
      have HZ : Hid (0 < (ws.getD j wz).xs.length → ∀ o, (mark6 wr b (j * 7) (markK ws k j)).frozen? ⟨γ j, o, none⟩ = false) := fun hp o => by
        simp only [World.frozen?_setCell]
        exact (HI.out.only.frozen _).trans ((HO.out.deps j hjw hp).2.2.2.2 o)
      have HK : Hid (markK ws k (j + 1) = markK ws k j + 6 + 4 * (ws.getD j wz).xs.length) := markK_next ws k j hjw
      have hln : (ws.getD j wz).xs.length ≤ 1048576 := Nat.le_trans (bulk_one ws j hjw) hbk
      clear HI
      generalize markK ws k j = m at *
      generalize (ws.getD j wz).xs = ys at *
      generalize γ j = gj at *
      go_wp2_with fail
      refine (markDepS_any _ _ _ _ _ _ _ hln (by omega) (by omega) HAJ.out HD.out HZ.out).mono ?_
      rintro e w2 ⟨rfl, h2, h3⟩
      have HI2 := Lib.hid (HS.out w2 h2 h3)
      clear h2 h3 HS HD HZ
      go_wp2
      exact ⟨⟨j + 1, by omega, by go_num, by rw [HK.out]; congr 1; omega, HI2⟩, by simp [intOf]; omega⟩
    · have hjj : j = n := by omega
      subst hjj
      go_wp2
      go_ret
      refine ⟨rfl, markInv_end HO.out ?_, HI.out.only⟩
      rw [HN.out]
      exact HI.out

set_option maxHeartbeats 4000000 in
theorem heldWriteS_any (b n cap : Nat) (k : Int) (ws : List Wr) (γ : Nat → Nat) (w : World) (hn : ws.length = n) (hm : n ≤ 1048576) (hbk : bulk ws ≤ 1048576) (h0 : 0 ≤ k) (h1 : k ≤ 1073741824) (ho : MarkedWs w b ws γ k) :
    Calls Tryd.prog 16 #[.slice (some ⟨b, 0, none⟩) n cap, .int .i64 k] w fun e w' => e = .returned (.int .i64 (markK ws k n)) ∧ w' = w := by
  have HO : Hid (MarkedWs w b ws γ k) := ho
  have HN : Hid (ws.length = n) := hn
  clear ho hn
  have HB : Hid (∀ i, i ≤ n → 0 ≤ markK ws k i ∧ markK ws k i ≤ 1099511627000) := fun i hi => markK_bounds ws k i h0 h1 (by omega) hbk
  go_enter Tryd.func16, Tryd.ntmps16
  go_wp2
  go_loopw [1, 5] (fun l i wr => ∃ (j : Nat), j ≤ n ∧ i = .int .i64 j ∧ l = .int .i64 (markK ws k j) ∧ wr = w) (fun _ i _ => n - (intOf i).toNat)
  case atStart => exact ⟨0, Nat.zero_le _, rfl, by rw [markK_zero], rfl⟩
  case round =>
    obtain ⟨j, hj, rfl, rfl, rfl⟩ := hrel
    by_cases hj' : j < n
    · have hjw : j < ws.length := by rw [HN.out]; exact hj'
      obtain ⟨⟨c0, c1, c2, c3, c4, c5, aj, cp, c6, haj⟩, hd⟩ := HO.out j hjw
      have HAJ := Lib.hid haj
      have HD : Hid (CellsAre wr (γ j) ((ws.getD j wz).xs.length * 4) (markFn (markK ws k j + 1 + 1 + 1 + 1 + 1 + 1))) := by
        by_cases hp : 0 < (ws.getD j wz).xs.length
        · exact hd hp
        · exact fun o ho => by omega
      clear hd haj
      have i1 : (0 : Int) ≤ (j : Int) := by omega
      have i2 : (j : Int) < (n : Int) := by omega
      obtain ⟨m0, m1⟩ := HB.out j hj
      have HK : Hid (markK ws k (j + 1) = markK ws k j + 6 + 4 * (ws.getD j wz).xs.length) := markK_next ws k j hjw
      have hln : (ws.getD j wz).xs.length ≤ 1048576 := Nat.le_trans (bulk_one ws j hjw) hbk
      generalize markK ws k j = m at *
      generalize (ws.getD j wz).xs.length = ln at *
      generalize γ j = gj at *
      go_wp2_with fail
      refine (heldDepS_any _ _ _ _ _ _ hln (by omega) (by omega) HAJ.out HD.out).mono ?_
      rintro e w2 ⟨rfl, rfl⟩
      go_wp2
      exact ⟨⟨j + 1, by omega, by go_num, by rw [HK.out]; congr 1; omega, trivial⟩, by simp [intOf]; omega⟩
    · have hjj : j = n := by omega
      subst hjj
      go_wp2
      go_ret
      exact ⟨rfl, rfl⟩

end Go.Proofs.YtlbcpppmpbbkdalDoor
