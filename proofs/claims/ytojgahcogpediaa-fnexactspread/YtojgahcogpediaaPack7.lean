import Derived.Test.YtojgahcogpediaaPack6
import Derived.Orders
import Derived.Below
/- Marks: what markWriteS writes, heldWriteS finds. -/
namespace Go.Proofs.Ytojgahcogpediaa
open Go.ChangeShapes Go.WideShapes Go.ChangeAt Go.RowKit Go.Joins
attribute [local go_sem ↓] Go.wp_at_zero Go.wp_at_succ

/-- The number that write i's marks begin with. -/
def markK (ws : List Wr) (k : Int) (i : Nat) : Int := k + 6 * i + 4 * bulk (ws.take i)

theorem markK_zero (ws : List Wr) (k : Int) : markK ws k 0 = k := by simp [markK, bulk]

theorem markK_next (ws : List Wr) (k : Int) (i : Nat) (h : i < ws.length) : markK ws k (i + 1) = markK ws k i + 6 + 4 * (ws.getD i wz).xs.length := by
  unfold markK
  rw [bulk_take ws i h]
  push_cast
  omega

theorem bulk_take_le (ws : List Wr) (i : Nat) : bulk (ws.take i) ≤ bulk ws := by
  induction ws generalizing i with
  | nil => simp
  | cons x r ih =>
    cases i with
    | zero => simp [bulk]
    | succ i =>
      have := ih i
      simp only [List.take_succ_cons, bulk]
      omega

theorem markK_bounds (ws : List Wr) (k : Int) (i : Nat) (h0 : 0 ≤ k) (h1 : k ≤ 1073741824) (hi : i ≤ 1048576) (hb : bulk ws ≤ 1048576) : 0 ≤ markK ws k i ∧ markK ws k i ≤ 1099511627000 := by
  have := bulk_take_le ws i
  unfold markK
  omega

/-- Cell o of a marked row; f: what was there. -/
def mkCell (ws : List Wr) (k : Int) (f : Nat → Value) (o : Nat) : Value :=
  if o % 7 < 5 then .int .i64 (markK ws k (o / 7) + (o % 7 : Nat)) else if o % 7 = 5 then .bool ((markK ws k (o / 7) + 1 + 1 + 1 + 1 + 1) % 3 == 0) else f o

theorem mkCell_int (ws : List Wr) (k : Int) (f : Nat → Value) (j o c : Nat) (ho : o = j * 7 + c) (hc : c < 5) (z : Int) (hz : z = markK ws k j + c) : Value.int .i64 z = mkCell ws k f o := by
  subst ho
  unfold mkCell
  have e1 : (j * 7 + c) % 7 = c := by omega
  have e2 : (j * 7 + c) / 7 = j := by omega
  rw [e1, e2, if_pos hc, hz]

theorem mk_step (ws : List Wr) (k : Int) (f : Nat → Value) (j o : Nat) :
    (if o = j * 7 + 5 then Value.bool ((markK ws k j + 1 + 1 + 1 + 1 + 1) % 3 == 0) else if o = j * 7 + 4 then Value.int .i64 (markK ws k j + 1 + 1 + 1 + 1) else if o = j * 7 + 1 + 2 then Value.int .i64 (markK ws k j + 1 + 1 + 1) else if o = j * 7 + 1 + 1 then Value.int .i64 (markK ws k j + 1 + 1) else if o = j * 7 + 1 then Value.int .i64 (markK ws k j + 1) else if o = j * 7 then Value.int .i64 (markK ws k j) else if o < j * 7 then mkCell ws k f o else f o) = (if o < (j + 1) * 7 then mkCell ws k f o else f o) := by
  by_cases h5 : o = j * 7 + 5
  · rw [if_pos h5, if_pos (by omega), h5]
    unfold mkCell
    rw [if_neg (by omega), if_pos (by omega), show (j * 7 + 5) / 7 = j by omega]
  rw [if_neg h5]
  by_cases h4 : o = j * 7 + 4
  · rw [if_pos h4, if_pos (by omega)]
    exact mkCell_int ws k f j o 4 h4 (by omega) _ (by omega)
  rw [if_neg h4]
  by_cases h3 : o = j * 7 + 1 + 2
  · rw [if_pos h3, if_pos (by omega)]
    exact mkCell_int ws k f j o 3 (by omega) (by omega) _ (by omega)
  rw [if_neg h3]
  by_cases h2 : o = j * 7 + 1 + 1
  · rw [if_pos h2, if_pos (by omega)]
    exact mkCell_int ws k f j o 2 (by omega) (by omega) _ (by omega)
  rw [if_neg h2]
  by_cases h1 : o = j * 7 + 1
  · rw [if_pos h1, if_pos (by omega)]
    exact mkCell_int ws k f j o 1 (by omega) (by omega) _ (by omega)
  rw [if_neg h1]
  by_cases h0 : o = j * 7
  · rw [if_pos h0, if_pos (by omega)]
    exact mkCell_int ws k f j o 0 (by omega) (by omega) _ (by omega)
  rw [if_neg h0]
  by_cases hl : o < j * 7
  · rw [if_pos hl, if_pos (by omega)]
  · rw [if_neg hl]
    by_cases h6 : o < (j + 1) * 7
    · rw [if_pos h6]
      unfold mkCell
      rw [if_neg (by omega), if_neg (by omega)]
    · rw [if_neg h6]

abbrev mark6 (w : World) (b o : Nat) (m : Int) : World :=
  (((((w.setCell ⟨b, o, none⟩ (.int .i64 m)).setCell ⟨b, o + 1, none⟩ (.int .i64 (m + 1))).setCell ⟨b, o + 1 + 1, none⟩ (.int .i64 (m + 1 + 1))).setCell ⟨b, o + 1 + 2, none⟩ (.int .i64 (m + 1 + 1 + 1))).setCell ⟨b, o + 4, none⟩ (.int .i64 (m + 1 + 1 + 1 + 1))).setCell ⟨b, o + 5, none⟩ (.bool ((m + 1 + 1 + 1 + 1 + 1) % 3 == 0))

theorem mark6_block (w : World) (b o : Nat) (m : Int) {g : Nat} (hg : g ≠ b) : (mark6 w b o m).heap[g]? = w.heap[g]? := by
  unfold mark6
  simp only [Below.heap_setCell _ _ _ _ (show g ≠ (⟨b, _, none⟩ : Addr).block from hg)]

/-- Writes of one's own, from block number base on: the row's block and, where there are some, those of the dependencies, all apart, none of them shut. -/
structure OwnG (w : World) (base b : Nat) (ws : List Wr) (γ : Nat → Nat) : Prop where
  lt : b < w.heap.size
  le : base ≤ b
  open_ : ∀ o, w.frozen? ⟨b, o, none⟩ = false
  at_ : ∀ i, i < ws.length → ∃ a cap, WrAt w b (i * 7) (ws.getD i wz) a cap ∧ (0 < (ws.getD i wz).xs.length → a = some ⟨γ i, 0, none⟩)
  deps : ∀ i, i < ws.length → 0 < (ws.getD i wz).xs.length → base ≤ γ i ∧ γ i < w.heap.size ∧ γ i ≠ b ∧ HoldsDeps w (γ i) 0 (ws.getD i wz).xs ∧ ∀ o, w.frozen? ⟨γ i, o, none⟩ = false
  inj : ∀ i j, i < ws.length → j < ws.length → 0 < (ws.getD i wz).xs.length → 0 < (ws.getD j wz).xs.length → γ i = γ j → i = j

theorem OwnWs.gen {w : World} {base b : Nat} {ws : List Wr} {γ : Nat → Nat} (h : OwnWs w base b ws γ) : OwnG w base b ws γ where
  lt := h.holds.1
  le := h.le
  open_ := h.open_
  at_ := fun i hi => by
    obtain ⟨⟨cap, h1⟩, _, _⟩ := h.holds.2 i hi
    exact ⟨_, cap, h1, fun _ => rfl⟩
  deps := fun i hi _ => ⟨(h.deps i hi).1, (h.holds.2 i hi).2.1, (h.deps i hi).2.1, (h.holds.2 i hi).2.2, (h.deps i hi).2.2⟩
  inj := fun i j hi hj _ _ e => h.inj i j hi hj e

theorem OwnG.below {w w' : World} {base b : Nat} {ws : List Wr} {γ : Nat → Nat} (h : OwnG w base b ws γ) (hb : Below w.heap.size w w') : OwnG w' base b ws γ where
  lt := Nat.lt_of_lt_of_le h.lt hb.size
  le := h.le
  open_ := fun o => (hb.frozen (p := ⟨b, o, none⟩) h.lt).trans (h.open_ o)
  at_ := fun i hi => by
    obtain ⟨a, cap, h1, h2⟩ := h.at_ i hi
    exact ⟨a, cap, h1.of_block (hb.block _ h.lt), h2⟩
  deps := fun i hi hp => by
    obtain ⟨h1, h2, h3, h4, h5⟩ := h.deps i hi hp
    exact ⟨h1, Nat.lt_of_lt_of_le h2 hb.size, h3, h4.below hb h2, fun o => (hb.frozen (p := ⟨γ i, o, none⟩) h2).trans (h5 o)⟩
  inj := h.inj

theorem OwnG.isWs {w : World} {base b : Nat} {ws : List Wr} {γ : Nat → Nat} (h : OwnG w base b ws γ) (hx : Few ws) : IsWs w (some ⟨b, 0, none⟩) ws := by
  refine .inr ⟨b, 0, rfl, h.lt, fun i hi => ?_⟩
  obtain ⟨a, cap, h1, h2⟩ := h.at_ i hi
  refine ⟨a, cap, by rw [Nat.zero_add]; exact h1, by have := hx i hi; unfold maxLen; omega, ?_⟩
  by_cases hp : 0 < (ws.getD i wz).xs.length
  · exact .inr ⟨_, _, h2 hp, (h.deps i hi hp).2.1, (h.deps i hi hp).2.2.2.1⟩
  · exact .inl (List.length_eq_zero_iff.1 (by omega))

/-- The blocks that a row of writes takes up. -/
def TakenUp (b : Nat) (ws : List Wr) (γ : Nat → Nat) (x : Nat) : Prop := x = b ∨ ∃ i, i < ws.length ∧ 0 < (ws.getD i wz).xs.length ∧ x = γ i

/-- While a row is being marked: of its writes the first j are. -/
structure MarkInv (w wr : World) (b : Nat) (ws : List Wr) (γ : Nat → Nat) (k : Int) (f : Nat → Value) (j : Nat) : Prop where
  row : CellsAre wr b (ws.length * 7) (fun o => if o < j * 7 then mkCell ws k f o else f o)
  deps : ∀ i, i < ws.length → 0 < (ws.getD i wz).xs.length → CellsAre wr (γ i) ((ws.getD i wz).xs.length * 4) (fun o => if i < j then markFn (markK ws k i + 1 + 1 + 1 + 1 + 1 + 1) o else .int .i64 (depCell (ws.getD i wz).xs o))
  only : Only (TakenUp b ws γ) w wr

theorem markInv_round {w wr w2 : World} {base b : Nat} {ws : List Wr} {γ : Nat → Nat} {k : Int} {f : Nat → Value} {j : Nat} (hO : OwnG w base b ws γ) (hj : j < ws.length) (h : MarkInv w wr b ws γ k f j)
    (h2 : CellsAre w2 (γ j) ((ws.getD j wz).xs.length * 4) (markFn (markK ws k j + 1 + 1 + 1 + 1 + 1 + 1))) (h3 : Only (fun x => 0 < (ws.getD j wz).xs.length ∧ x = γ j) (mark6 wr b (j * 7) (markK ws k j)) w2) : MarkInv w w2 b ws γ k f (j + 1) where
  row := by
    have h6 : CellsAre (mark6 wr b (j * 7) (markK ws k j)) b (ws.length * 7) (fun o => if o < (j + 1) * 7 then mkCell ws k f o else f o) :=
      ((((((h.row.set (by omega) _).set (by omega) _).set (by omega) _).set (by omega) _).set (by omega) _).set (by omega) _).congr (fun o _ => mk_step ws k f j o)
    exact h6.of_block (h3.block b (fun e => (hO.deps j hj e.1).2.2.1 e.2.symm))
  deps := by
    intro i hi hp
    by_cases hij : i = j
    · subst hij
      exact h2.congr (fun o _ => by rw [if_pos (by omega)])
    · have e : ¬ (0 < (ws.getD j wz).xs.length ∧ γ i = γ j) := fun e => hij (hO.inj i j hi hj hp e.1 e.2)
      refine ((h.deps i hi hp).of_block ((h3.block (γ i) e).trans (mark6_block _ _ _ _ (hO.deps i hi hp).2.2.1))).congr (fun o _ => ?_)
      by_cases hl : i < j
      · rw [if_pos hl, if_pos (by omega)]
      · rw [if_neg hl, if_neg (by omega)]
  only := by
    refine Only.trans ((((((h.only.set (.inl rfl) _ _).set (.inl rfl) _ _).set (.inl rfl) _ _).set (.inl rfl) _ _).set (.inl rfl) _ _).set (.inl rfl) _ _) h3 fun x hx => .inr ⟨j, hj, hx.1, hx.2⟩

theorem markInv_start {w : World} {base b : Nat} {ws : List Wr} {γ : Nat → Nat} (k : Int) (hO : OwnG w base b ws γ) : MarkInv w w b ws γ k (fun o => (w.cell? ⟨b, o, none⟩).getD undef) 0 where
  row := by
    intro o ho
    dsimp only
    rw [if_neg (by omega)]
    obtain ⟨a, cap, ⟨h0, h1, h2, h3, h4, h5, h6⟩, _⟩ := hO.at_ (o / 7) (by omega)
    have h7 : o % 7 = 0 ∨ o % 7 = 1 ∨ o % 7 = 2 ∨ o % 7 = 3 ∨ o % 7 = 4 ∨ o % 7 = 5 ∨ o % 7 = 6 := by omega
    have hx : ∃ v, w.cell? ⟨b, o, none⟩ = some v := by
      rcases h7 with e | e | e | e | e | e | e
      · exact ⟨_, by rw [show o = o / 7 * 7 by omega]; exact h0⟩
      · exact ⟨_, by rw [show o = o / 7 * 7 + 1 by omega]; exact h1⟩
      · exact ⟨_, by rw [show o = o / 7 * 7 + 2 by omega]; exact h2⟩
      · exact ⟨_, by rw [show o = o / 7 * 7 + 3 by omega]; exact h3⟩
      · exact ⟨_, by rw [show o = o / 7 * 7 + 4 by omega]; exact h4⟩
      · exact ⟨_, by rw [show o = o / 7 * 7 + 5 by omega]; exact h5⟩
      · exact ⟨_, by rw [show o = o / 7 * 7 + 6 by omega]; exact h6⟩
    obtain ⟨v, hv⟩ := hx
    simp [hv]
  deps := by
    intro i hi hp o ho
    dsimp only
    rw [if_neg (by omega)]
    have := holds_cells (hO.deps i hi hp).2.2.2.1 ho
    rwa [Nat.zero_add] at this
  only := Only.refl _ _

theorem markInv_slice {w wr : World} {base b : Nat} {ws : List Wr} {γ : Nat → Nat} {k : Int} {j i : Nat} (hO : OwnG w base b ws γ) (h : MarkInv w wr b ws γ k (fun o => (w.cell? ⟨b, o, none⟩).getD undef) j) (hi : i < ws.length) :
    ∃ a cp, wr.cell? ⟨b, i * 7 + 6, none⟩ = some (.slice a (ws.getD i wz).xs.length cp) ∧ (0 < (ws.getD i wz).xs.length → a = some ⟨γ i, 0, none⟩) := by
  obtain ⟨a, cap, ⟨_, _, _, _, _, _, h6⟩, ha⟩ := hO.at_ i hi
  refine ⟨a, cap, ?_, ha⟩
  rw [h.row (i * 7 + 6) (by omega)]
  have e : mkCell ws k (fun o => (w.cell? ⟨b, o, none⟩).getD undef) (i * 7 + 6) = (w.cell? ⟨b, i * 7 + 6, none⟩).getD undef := by
    unfold mkCell
    rw [if_neg (by omega), if_neg (by omega)]
  simp only [e, ite_self, h6]
  rfl

/-- A row of writes that is marked, from k on. -/
def MarkedWs (w : World) (b : Nat) (ws : List Wr) (γ : Nat → Nat) (k : Int) : Prop :=
  ∀ i, i < ws.length → (w.cell? ⟨b, i * 7, none⟩ = some (.int .i64 (markK ws k i)) ∧ w.cell? ⟨b, i * 7 + 1, none⟩ = some (.int .i64 (markK ws k i + 1)) ∧ w.cell? ⟨b, i * 7 + 1 + 1, none⟩ = some (.int .i64 (markK ws k i + 1 + 1)) ∧ w.cell? ⟨b, i * 7 + 1 + 2, none⟩ = some (.int .i64 (markK ws k i + 1 + 1 + 1)) ∧
    w.cell? ⟨b, i * 7 + 4, none⟩ = some (.int .i64 (markK ws k i + 1 + 1 + 1 + 1)) ∧ w.cell? ⟨b, i * 7 + 5, none⟩ = some (.bool ((markK ws k i + 1 + 1 + 1 + 1 + 1) % 3 == 0)) ∧ ∃ a cp, w.cell? ⟨b, i * 7 + 6, none⟩ = some (.slice a (ws.getD i wz).xs.length cp) ∧ (0 < (ws.getD i wz).xs.length → a = some ⟨γ i, 0, none⟩)) ∧
    (0 < (ws.getD i wz).xs.length → CellsAre w (γ i) ((ws.getD i wz).xs.length * 4) (markFn (markK ws k i + 1 + 1 + 1 + 1 + 1 + 1)))

theorem MarkedWs.below {w w' : World} {b : Nat} {ws : List Wr} {γ : Nat → Nat} {k : Int} {B : Nat} (h : MarkedWs w b ws γ k) (hb : Below B w w') (h1 : b < B) (h2 : ∀ i, i < ws.length → 0 < (ws.getD i wz).xs.length → γ i < B) : MarkedWs w' b ws γ k := by
  intro i hi
  obtain ⟨⟨e0, e1, e2, e3, e4, e5, a, cp, e6, e7⟩, hd⟩ := h i hi
  have c : ∀ o, w'.cell? ⟨b, o, none⟩ = w.cell? ⟨b, o, none⟩ := fun o => hb.cell (p := ⟨b, o, none⟩) h1
  exact ⟨⟨(c _).trans e0, (c _).trans e1, (c _).trans e2, (c _).trans e3, (c _).trans e4, (c _).trans e5, a, cp, (c _).trans e6, e7⟩, fun hp => (hd hp).of_block (hb.block _ (h2 i hi hp))⟩

theorem markInv_end {w wr : World} {base b : Nat} {ws : List Wr} {γ : Nat → Nat} {k : Int} (hO : OwnG w base b ws γ) (h : MarkInv w wr b ws γ k (fun o => (w.cell? ⟨b, o, none⟩).getD undef) ws.length) : MarkedWs wr b ws γ k := by
  intro i hi
  have r : ∀ c, c < 7 → wr.cell? ⟨b, i * 7 + c, none⟩ = some (mkCell ws k (fun o => (w.cell? ⟨b, o, none⟩).getD undef) (i * 7 + c)) := fun c hc => by
    rw [h.row _ (by omega)]
    dsimp only
    rw [if_pos (by omega)]
  refine ⟨⟨?_, ?_, ?_, ?_, ?_, ?_, markInv_slice hO h hi⟩, fun hp => (h.deps i hi hp).congr (fun o _ => by rw [if_pos hi])⟩
  · rw [show i * 7 = i * 7 + 0 from rfl, r 0 (by omega), mkCell_int ws k _ i (i * 7 + 0) 0 rfl (by omega) (markK ws k i) (by omega)]
  · rw [r 1 (by omega), mkCell_int ws k _ i (i * 7 + 1) 1 rfl (by omega) (markK ws k i + 1) (by omega)]
  · rw [show i * 7 + 1 + 1 = i * 7 + 2 from rfl, r 2 (by omega), mkCell_int ws k _ i (i * 7 + 2) 2 rfl (by omega) (markK ws k i + 1 + 1) (by omega)]
  · rw [show i * 7 + 1 + 2 = i * 7 + 3 from rfl, r 3 (by omega), mkCell_int ws k _ i (i * 7 + 3) 3 rfl (by omega) (markK ws k i + 1 + 1 + 1) (by omega)]
  · rw [r 4 (by omega), mkCell_int ws k _ i (i * 7 + 4) 4 rfl (by omega) (markK ws k i + 1 + 1 + 1 + 1) (by omega)]
  · rw [r 5 (by omega)]
    unfold mkCell
    rw [if_neg (by omega), if_pos (by omega), show (i * 7 + 5) / 7 = i by omega]

set_option maxHeartbeats 4000000 in
theorem markWriteS_any (base b n cap : Nat) (k : Int) (ws : List Wr) (γ : Nat → Nat) (w : World) (hn : ws.length = n) (hm : n ≤ 1048576) (hbk : bulk ws ≤ 1048576) (h0 : 0 ≤ k) (h1 : k ≤ 1073741824) (ho : OwnG w base b ws γ) :
    Calls Try.prog 18 #[.slice (some ⟨b, 0, none⟩) n cap, .int .i64 k] w fun e w' => e = .returned (.int .i64 (markK ws k n)) ∧ MarkedWs w' b ws γ k ∧ Only (TakenUp b ws γ) w w' := by
  have HO : Hid (OwnG w base b ws γ) := ho
  have HN : Hid (ws.length = n) := hn
  clear ho hn
  have HB : Hid (∀ i, i ≤ n → 0 ≤ markK ws k i ∧ markK ws k i ≤ 1099511627000) := fun i hi => markK_bounds ws k i h0 h1 (by omega) hbk
  go_enter Try.func18, Try.ntmps18
  go_wp2
  go_loopw [1, 5] (fun l i wr => ∃ (j : Nat), j ≤ n ∧ i = .int .i64 j ∧ l = .int .i64 (markK ws k j) ∧ Hid (MarkInv w wr b ws γ k (fun o => (w.cell? ⟨b, o, none⟩).getD undef) j)) (fun _ i _ => n - (intOf i).toNat)
  case atStart => exact ⟨0, Nat.zero_le _, rfl, by rw [markK_zero], markInv_start k HO.out⟩
  case round =>
    obtain ⟨j, hj, rfl, rfl, HI⟩ := hrel
    by_cases hj' : j < n
    · have hjw : j < ws.length := by rw [HN.out]; exact hj'
      have c0 := HI.out.row (j * 7) (by omega)
      have c1 := HI.out.row (j * 7 + 1) (by omega)
      have c2 := HI.out.row (j * 7 + 1 + 1) (by omega)
      have c3 := HI.out.row (j * 7 + 1 + 2) (by omega)
      have c4 := HI.out.row (j * 7 + 4) (by omega)
      have c5 := HI.out.row (j * 7 + 5) (by omega)
      obtain ⟨aj, cp, c6, haj⟩ := markInv_slice HO.out HI.out hjw
      have HAJ := Lib.hid haj
      clear haj
      have fz : ∀ o, wr.frozen? ⟨b, o, none⟩ = false := fun o => (HI.out.only.frozen _).trans (HO.out.open_ o)
      have i1 : (0 : Int) ≤ (j : Int) := by omega
      have i2 : (j : Int) < (n : Int) := by omega
      obtain ⟨m0, m1⟩ := HB.out j hj
      have HS : Hid (∀ w2, CellsAre w2 (γ j) ((ws.getD j wz).xs.length * 4) (markFn (markK ws k j + 1 + 1 + 1 + 1 + 1 + 1)) → Only (fun x => 0 < (ws.getD j wz).xs.length ∧ x = γ j) (mark6 wr b (j * 7) (markK ws k j)) w2 → MarkInv w w2 b ws γ k (fun o => (w.cell? ⟨b, o, none⟩).getD undef) (j + 1)) := fun w2 h2 h3 => markInv_round HO.out hjw HI.out h2 h3
      have HD : Hid (CellsAre (mark6 wr b (j * 7) (markK ws k j)) (γ j) ((ws.getD j wz).xs.length * 4) (fun o => .int .i64 (depCell (ws.getD j wz).xs o))) := by
        by_cases hp : 0 < (ws.getD j wz).xs.length
        · exact ((HI.out.deps j hjw hp).of_block (mark6_block _ _ _ _ (HO.out.deps j hjw hp).2.2.1)).congr (fun o _ => by rw [if_neg (Nat.lt_irrefl j)])
        · exact fun o ho => by omega
      have HZ : Hid (0 < (ws.getD j wz).xs.length → ∀ o, (mark6 wr b (j * 7) (markK ws k j)).frozen? ⟨γ j, o, none⟩ = false) := fun hp o => by
        simp only [World.frozen?_setCell]
        exact (HI.out.only.frozen _).trans ((HO.out.deps j hjw hp).2.2.2.2 o)
      have HK : Hid (markK ws k (j + 1) = markK ws k j + 6 + 4 * (ws.getD j wz).xs.length) := markK_next ws k j hjw
      have hln : (ws.getD j wz).xs.length ≤ 1048576 := Nat.le_trans (bulk_one ws j hjw) hbk
      clear HI
      generalize markK ws k j = m at *
      generalize (ws.getD j wz).xs = ys at *
      generalize γ j = gj at *
      go_wp2_with fail
      refine (markDepS_any _ _ _ _ _ _ _ hln (by omega) (by omega) HAJ.out HD.out HZ.out).mono ?_
      rintro e w2 ⟨rfl, h2, h3⟩
      have HI2 := Lib.hid (HS.out w2 h2 h3)
      clear h2 h3 HS HD HZ
      go_wp2
      exact ⟨⟨j + 1, by omega, by go_num, by rw [HK.out]; congr 1; omega, HI2⟩, by simp [intOf]; omega⟩
    · have hjj : j = n := by omega
      subst hjj
      go_wp2
      go_ret
      refine ⟨rfl, markInv_end HO.out ?_, HI.out.only⟩
      rw [HN.out]
      exact HI.out

set_option maxHeartbeats 4000000 in
theorem heldWriteS_any (b n cap : Nat) (k : Int) (ws : List Wr) (γ : Nat → Nat) (w : World) (hn : ws.length = n) (hm : n ≤ 1048576) (hbk : bulk ws ≤ 1048576) (h0 : 0 ≤ k) (h1 : k ≤ 1073741824) (ho : MarkedWs w b ws γ k) :
    Calls Try.prog 24 #[.slice (some ⟨b, 0, none⟩) n cap, .int .i64 k] w fun e w' => e = .returned (.int .i64 (markK ws k n)) ∧ w' = w := by
  have HO : Hid (MarkedWs w b ws γ k) := ho
  have HN : Hid (ws.length = n) := hn
  clear ho hn
  have HB : Hid (∀ i, i ≤ n → 0 ≤ markK ws k i ∧ markK ws k i ≤ 1099511627000) := fun i hi => markK_bounds ws k i h0 h1 (by omega) hbk
  go_enter Try.func24, Try.ntmps24
  go_wp2
  go_loopw [1, 5] (fun l i wr => ∃ (j : Nat), j ≤ n ∧ i = .int .i64 j ∧ l = .int .i64 (markK ws k j) ∧ wr = w) (fun _ i _ => n - (intOf i).toNat)
  case atStart => exact ⟨0, Nat.zero_le _, rfl, by rw [markK_zero], rfl⟩
  case round =>
    obtain ⟨j, hj, rfl, rfl, rfl⟩ := hrel
    by_cases hj' : j < n
    · have hjw : j < ws.length := by rw [HN.out]; exact hj'
      obtain ⟨⟨c0, c1, c2, c3, c4, c5, aj, cp, c6, haj⟩, hd⟩ := HO.out j hjw
      have HAJ := Lib.hid haj
      have HD : Hid (CellsAre wr (γ j) ((ws.getD j wz).xs.length * 4) (markFn (markK ws k j + 1 + 1 + 1 + 1 + 1 + 1))) := by
        by_cases hp : 0 < (ws.getD j wz).xs.length
        · exact hd hp
        · exact fun o ho => by omega
      clear hd haj
      have i1 : (0 : Int) ≤ (j : Int) := by omega
      have i2 : (j : Int) < (n : Int) := by omega
      obtain ⟨m0, m1⟩ := HB.out j hj
      have HK : Hid (markK ws k (j + 1) = markK ws k j + 6 + 4 * (ws.getD j wz).xs.length) := markK_next ws k j hjw
      have hln : (ws.getD j wz).xs.length ≤ 1048576 := Nat.le_trans (bulk_one ws j hjw) hbk
      generalize markK ws k j = m at *
      generalize (ws.getD j wz).xs.length = ln at *
      generalize γ j = gj at *
      go_wp2_with fail
      refine (heldDepS_any _ _ _ _ _ _ hln (by omega) (by omega) HAJ.out HD.out).mono ?_
      rintro e w2 ⟨rfl, rfl⟩
      go_wp2
      exact ⟨⟨j + 1, by omega, by go_num, by rw [HK.out]; congr 1; omega, trivial⟩, by simp [intOf]; omega⟩
    · have hjj : j = n := by omega
      subst hjj
      go_wp2
      go_ret
      exact ⟨rfl, rfl⟩

end Go.Proofs.Ytojgahcogpediaa

/- A row of writes of one's own whose dependencies may be nil, and that grows. -/
namespace Go.Proofs.Ytojgahcogpediaa
open Go.ChangeShapes Go.WideShapes Go.ChangeAt Go.RowKit Go.Joins

/-- A write, where its dependencies are said to lie, their block, their room. -/
structure EnG where
  x : Wr
  a : Option Addr
  g : Nat
  cp : Nat

def ezG : EnG := ⟨wz, none, 0, 0⟩

def wrValsG (e : EnG) : List Value := [.int .i64 e.x.k, .int .i64 e.x.c, .int .i64 e.x.s, .int .i64 e.x.q, .int .i64 e.x.v, .bool e.x.de, .slice e.a e.x.xs.length e.cp]

set_option maxRecDepth 100000 in
theorem valsG_len : ∀ es : List EnG, (es.flatMap wrValsG).length = es.length * 7
  | [] => rfl
  | e :: r => by
    rw [List.flatMap_cons, List.length_append, valsG_len r]
    simp [wrValsG]
    omega

set_option maxRecDepth 100000 in
theorem valsG_at : ∀ (es : List EnG) (i c : Nat), i < es.length → c < 7 → (es.flatMap wrValsG)[i * 7 + c]? = (wrValsG (es.getD i ezG))[c]?
  | [], i, c, hi, _ => by simp at hi
  | e :: r, 0, c, _, hc => by
    rw [List.flatMap_cons, List.getElem?_append_left (by simp [wrValsG]; omega)]
    simp
  | e :: r, i + 1, c, hi, hc => by
    rw [List.flatMap_cons, List.getElem?_append_right (by simp [wrValsG]; omega)]
    have := valsG_at r i c (by simpa using hi) hc
    rw [show (i + 1) * 7 + c - (wrValsG e).length = i * 7 + c by simp [wrValsG]; omega, this]
    simp

set_option maxRecDepth 100000 in
theorem valsG_one (es : List EnG) : ∀ u ∈ es.flatMap wrValsG, u.oneCell' = true := by
  intro u hu
  obtain ⟨e, _, h⟩ := List.mem_flatMap.1 hu
  simp only [wrValsG, List.mem_cons, List.not_mem_nil, or_false] at h
  rcases h with rfl | rfl | rfl | rfl | rfl | rfl | rfl <;> rfl

set_option maxRecDepth 100000 in
theorem frozen_of_block {w w' : World} {b o : Nat} (h : w'.heap[b]? = w.heap[b]?) : w'.frozen? ⟨b, o, none⟩ = w.frozen? ⟨b, o, none⟩ := by
  unfold World.frozen?
  simp only [h]

set_option maxRecDepth 100000 in
theorem FreshDeps.of_block {B : Nat} {w w' : World} {a : Option Addr} {g : Nat} {xs : List Dp} (h : FreshDeps B w a g xs) (hs : w.heap.size ≤ w'.heap.size) (hb : 0 < xs.length → w'.heap[g]? = w.heap[g]?) : FreshDeps B w' a g xs := fun hp => by
  obtain ⟨h1, h2, h3, h4, h5⟩ := h hp
  refine ⟨h1, h2, Nat.lt_of_lt_of_le h3 hs, fun i hi => ?_, fun o => (frozen_of_block (hb hp)).trans (h5 o)⟩
  have e' : ∀ o, w'.cell? ⟨g, o, none⟩ = w.cell? ⟨g, o, none⟩ := fun o => World.cell?_of_block (a := ⟨g, o, none⟩) (hb hp)
  obtain ⟨a0, a1, a2, a3⟩ := h4 i hi
  exact ⟨(e' _).trans a0, (e' _).trans a1, (e' _).trans a2, (e' _).trans a3⟩

/-- A row of writes of one's own, from block number base on; it may be nil. -/
structure RowG (w : World) (base : Nat) (v : Value) (es : List EnG) : Prop where
  own : w.ownsRow base 41 7 v es.length (es.flatMap wrValsG)
  deps : ∀ e ∈ es, FreshDeps base w e.a e.g e.x.xs ∧ (0 < e.x.xs.length → v.ownBlock ≠ some e.g)
  apart : es.Pairwise fun e e' => 0 < e.x.xs.length → 0 < e'.x.xs.length → e.g ≠ e'.g

set_option maxRecDepth 100000 in
theorem rowG_nil (w : World) (base : Nat) : RowG w base (.slice none 0 0) [] where
  own := World.ownsRow_nil w base _ _
  deps := fun e he => by simp at he
  apart := List.Pairwise.nil

set_option maxRecDepth 100000 in
theorem RowG.below {w w' : World} {base : Nat} {v : Value} {es : List EnG} (h : RowG w base v es) (hb : Below w.heap.size w w') : RowG w' base v es where
  own := h.own.kept (row := none) ⟨hb.os, hb.tape, hb.output, hb.size, fun k hk _ => hb.block k hk⟩ (by
    by_cases e : v.ownBlock = none
    · exact .inl e
    · exact .inr e)
  deps := fun e he => ⟨(h.deps e he).1.below hb, (h.deps e he).2⟩
  apart := h.apart

set_option maxRecDepth 100000 in
theorem RowG.mono {w : World} {base base' : Nat} {v : Value} {es : List EnG} (h : RowG w base v es) (hb : base' ≤ base) : RowG w base' v es where
  own := by
    refine ⟨h.own.1, ?_⟩
    rcases h.own.2 with h1 | ⟨g, cap, cur, h1, h2, h3⟩
    · exact .inl h1
    · exact .inr ⟨g, cap, cur, h1, Nat.le_trans hb h2, h3⟩
  deps := fun e he => ⟨(h.deps e he).1.mono hb, (h.deps e he).2⟩
  apart := h.apart

set_option maxRecDepth 100000 in
/-- One write more. -/
theorem RowG.more {w w5 : World} {base g5 cap5 : Nat} {v : Value} {es : List EnG} {e : EnG} (h : RowG w base v es) (he : FreshDeps base w e.a e.g e.x.xs) (hv : 0 < e.x.xs.length → v.ownBlock ≠ some e.g) (hap : ∀ d ∈ es, 0 < d.x.xs.length → 0 < e.x.xs.length → d.g ≠ e.g)
    (hown : w5.ownsRow base 41 7 (.slice (some ⟨g5, 0, none⟩) (es.length + 1) cap5) (es.length + 1) (es.flatMap wrValsG ++ wrValsG e)) (hgrow : w.grownBy w5 v.ownBlock) (hg : v.ownBlock = some g5 ∨ g5 = w.heap.size) : RowG w5 base (.slice (some ⟨g5, 0, none⟩) (es.length + 1) cap5) (es ++ [e]) where
  own := by
    rw [List.length_append, List.flatMap_append]
    simpa using hown
  deps := by
    have : ∀ d : EnG, FreshDeps base w d.a d.g d.x.xs → (0 < d.x.xs.length → v.ownBlock ≠ some d.g) → FreshDeps base w5 d.a d.g d.x.xs ∧ (0 < d.x.xs.length → (Value.slice (some ⟨g5, 0, none⟩) (es.length + 1) cap5).ownBlock ≠ some d.g) := fun d h1 h2 => by
      refine ⟨h1.of_block hgrow.size fun hp => hgrow.block d.g (h1 hp).2.2.1 (fun e => h2 hp e.symm), fun hp e => ?_⟩
      have e5 : g5 = d.g := by
        simp only [Value.ownBlock, Option.some.injEq] at e
        exact e
      rcases hg with hg | hg
      · exact h2 hp (by rw [hg, e5])
      · have := (h1 hp).2.2.1
        omega
    intro d hd
    rcases List.mem_append.1 hd with hd | hd
    · exact this d (h.deps d hd).1 (h.deps d hd).2
    · have hd : d = e := by simpa using hd
      subst hd
      exact this d he hv
  apart := by
    rw [List.pairwise_append]
    exact ⟨h.apart, by simp, fun d hd e' he' => by
      have : e' = e := by simpa using he'
      subst this
      exact hap d hd⟩

def gammaG (es : List EnG) (i : Nat) : Nat := (es.getD i ezG).g

set_option maxRecDepth 100000 in
theorem pairwise_getD {r : EnG → EnG → Prop} : ∀ {es : List EnG}, es.Pairwise r → ∀ i j, i < j → j < es.length → r (es.getD i ezG) (es.getD j ezG)
  | [], _, _, _, _, h => by simp at h
  | e :: es, hp, 0, j + 1, _, h => by
    have hj : j < es.length := by simpa using h
    have := (List.pairwise_cons.1 hp).1 (es.getD j ezG) (by simp [List.getD, hj])
    simpa using this
  | e :: es, hp, i + 1, j + 1, hij, h => by
    have := pairwise_getD (List.pairwise_cons.1 hp).2 i j (by omega) (by simpa using h)
    simpa using this

set_option maxRecDepth 100000 in
/-- The row as a slice that is the call's own. -/
theorem RowG.form {w : World} {base : Nat} {v : Value} {es : List EnG} (h : RowG w base v es) :
    ∃ a cap, v = .slice a es.length cap ∧ (es = [] ∨ ∃ b, a = some ⟨b, 0, none⟩ ∧ OwnG w base b (es.map (·.x)) (gammaG es)) := by
  rcases h.own.2 with ⟨h1, h2⟩ | ⟨g, cap, cur, h1, h2, h3, _⟩
  · exact ⟨none, 0, by rw [h1, h2], .inl (List.length_eq_zero_iff.1 h2)⟩
  · refine ⟨_, cap, h1, .inr ⟨g, rfl, ?_⟩⟩
    subst h1
    have hlt : g < w.heap.size := (h.own.lt g rfl).2
    have hm : ∀ i, i < es.length → es.getD i ezG ∈ es := fun i hi => by simp [List.getD, hi]
    have hx : ∀ i, i < es.length → (es.map (·.x)).getD i wz = (es.getD i ezG).x := fun i hi => by simp [List.getD, hi]
    have hl : (es.map (·.x)).length = es.length := by simp
    refine ⟨hlt, h2, fun o => h.own.frozenAt o, fun i hi => ?_, fun i hi hp => ?_, fun i j hi hj hp hq e => ?_⟩
    · rw [hl] at hi
      rw [hx i hi]
      have c : ∀ c, c < 7 → w.cell? ⟨g, i * 7 + c, none⟩ = (wrValsG (es.getD i ezG))[c]? := fun c hc => by rw [h.own.cellAt _ (by omega), valsG_at es i c hi hc]
      exact ⟨(es.getD i ezG).a, (es.getD i ezG).cp, ⟨c 0 (by omega), c 1 (by omega), c 2 (by omega), c 3 (by omega), c 4 (by omega), c 5 (by omega), c 6 (by omega)⟩, fun hp => ((h.deps _ (hm i hi)).1 hp).1⟩
    · rw [hl] at hi
      rw [hx i hi] at hp ⊢
      obtain ⟨_, h5, h6, h7, h8⟩ := (h.deps _ (hm i hi)).1 hp
      refine ⟨h5, h6, fun e => (h.deps _ (hm i hi)).2 hp (by rw [← e]; rfl), h7, h8⟩
    · rw [hl] at hi hj
      rw [hx i hi] at hp
      rw [hx j hj] at hq
      by_cases h1 : i < j
      · exact absurd e (pairwise_getD h.apart i j h1 hj hp hq)
      · by_cases h2 : j < i
        · exact absurd e.symm (pairwise_getD h.apart j i h2 hi hq hp)
        · omega

set_option maxRecDepth 100000 in
theorem oneG_cells (w : World) (t : Nat) (e : EnG) : ∀ j u, (wrValsG e)[j]? = some u → (w.alloc (.cells #[.int .i64 e.x.k, .int .i64 e.x.c, .int .i64 e.x.s, .int .i64 e.x.q, .int .i64 e.x.v, .bool e.x.de, .slice e.a e.x.xs.length e.cp] t)).cell? ((⟨w.heap.size, 0, none⟩ : Addr).add j) = some u := by
  intro j u hu
  have e1 : (⟨w.heap.size, 0, none⟩ : Addr).add j = ⟨w.heap.size, j, none⟩ := by
    unfold Addr.add
    split
    · rename_i h
      rw [h]
    · simp
  rw [e1, cell_of_row _ _ j _ t (0, 0) (heap_alloc_new w _), ← hu]
  simp [wrValsG]

set_option maxRecDepth 100000 in
/-- One write of a slice, in a later world; its dependencies in the world of the slice. -/
theorem IsWs.base {w w' : World} {a : Option Addr} {ws : List Wr} (h : IsWs w a ws) (hb : Below w.heap.size w w') {k n : Nat} (hn : ws.length = n) (hk : k < n) :
    ∃ b o a' cap, a = some ⟨b, o, none⟩ ∧ b < w'.heap.size ∧ WrAt w' b (o + k * 7) (ws.getD k wz) a' cap ∧ IsDeps w a' (ws.getD k wz).xs := by
  rcases h with h | ⟨b, o, ha, hlt, hh⟩
  · subst h
    simp at hn
    omega
  · obtain ⟨a', cap, h1, _, h3⟩ := hh k (by omega)
    exact ⟨b, o, a', cap, ha, Nat.lt_of_lt_of_le hlt hb.size, h1.of_block (hb.block _ hlt), h3⟩

end Go.Proofs.Ytojgahcogpediaa

/- A region that draws its order, walked once, in the order of the text, where its operations may make memory and hand on what they made: of each operation's value a fact is told that lasts ('R': what an operation may do to the world), and an operation may use the facts of those operations alone for which it waits. No Go text in sight. -/
namespace Go.Proofs.Ytojgahcogpediaa

abbrev Fact := Value → World → Prop

abbrev Facts := List (Tmp × Fact)

/-- What an operation comes to: a value; or a call that returns one. -/
def got (P : Program) (K : Value → World → Prop) : Result Next → Prop
  | .ok (.value v) w' => K v w'
  | .ok .skip w' => K undef w'
  | .ok (.enter f args) w' => Calls P f args w' fun e w'' => ∃ v, e = .returned v ∧ K v w''
  | _ => False

theorem got_value (P : Program) (K : Value → World → Prop) (v : Value) (w : World) : got P K (.ok (.value v) w) = K v w := rfl

theorem got_skip (P : Program) (K : Value → World → Prop) (w : World) : got P K (.ok .skip w) = K undef w := rfl

theorem got_enter (P : Program) (K : Value → World → Prop) (f : FuncId) (args : Array Value) (w : World) : got P K (.ok (.enter f args) w) = Calls P f args w fun e w'' => ∃ v, e = .returned v ∧ K v w'' := rfl

/-- The fact that is told of a slot. -/
@[simp] def factOf (x : Tmp) : Facts → Fact
  | [] => fun _ _ => True
  | (d, p) :: r => if x = d then p else factOf x r

theorem factOf_eq (x : Tmp) (v : Value) (w : World) : ∀ Ts : Facts, factOf x Ts v w ↔ (match Ts.lookup x with | some p => p v w | none => True)
  | [] => Iff.rfl
  | (d, p) :: r => by
    rw [List.lookup_cons]
    by_cases h : x = d
    · subst h
      simp
    · rw [beq_eq_false_iff_ne.2 h]
      simp only [factOf, if_neg h]
      exact factOf_eq x v w r

def needs0 (Ts : Facts) (a0 : Act) (ρ : Operand → Value) (w : World) : List (Tmp × Bool) → Prop
  | [] => True
  | (x, true) :: r => (match Ts.lookup x with | some p => p (ρ (.tmp x)) w | none => True) ∧ needs0 Ts a0 ρ w r
  | (x, false) :: r => ρ (.tmp x) = a0.eval (.tmp x) ∧ needs0 Ts a0 ρ w r

/-- What an operation may know of the slots that it looks at: (x, true): the fact of the operation that has filled it; (x, false): it holds what it held ahead of the region. -/
@[simp] def needs (Ts : Facts) (a0 : Act) (ρ : Operand → Value) (w : World) : List (Tmp × Bool) → Prop
  | [] => True
  | (x, true) :: r => factOf x Ts (ρ (.tmp x)) w ∧ needs Ts a0 ρ w r
  | (x, false) :: r => ρ (.tmp x) = a0.tmps.getD x undef ∧ needs Ts a0 ρ w r

theorem needs_iff {Ts : Facts} {a0 : Act} {ρ : Operand → Value} {w : World} : ∀ {n : List (Tmp × Bool)}, needs Ts a0 ρ w n ↔ needs0 Ts a0 ρ w n
  | [] => Iff.rfl
  | (x, true) :: r => and_congr (factOf_eq x _ w Ts) (needs_iff (n := r))
  | (_, false) :: r => and_congr Iff.rfl (needs_iff (n := r))

def Plain (ρ : Operand → Value) : Prop := (∀ v, ρ (.const v) = v) ∧ (∀ g, ρ (.global g) = .pointer (some ⟨g, 0, none⟩)) ∧ ∀ f, ρ (.func f) = .func (.func f) #[] #[]

def obl (P : Program) (a0 : Act) (S : World → Prop) (R : World → World → Prop) (n : List (Tmp × Bool)) (o : Oper) (Ts : Facts) (T : Fact) : Prop :=
  ∀ ρ w, Plain ρ → S w → needs Ts a0 ρ w n → got P (fun v w' => R w w' ∧ T v w') ((execOp ρ o).run P w)

def lasts (R : World → World → Prop) (T : Fact) : Prop := ∀ v w w', T v w → R w w' → T v w'

theorem lasts_eq (R : World → World → Prop) (e : Value) : lasts R (fun v _ => v = e) := fun _ _ _ h _ => h

@[simp] def addFact (o : Oper) (T : Fact) (Ts : Facts) : Facts := match o.dst with | some d => (d, T) :: Ts | none => Ts

def wpSlots (P : Program) (a0 : Act) (S : World → Prop) (R : World → World → Prop) (Fin : Facts → Prop) : List (List (Tmp × Bool)) → List Oper → Facts → Prop
  | n :: N, o :: l, Ts => ∃ T : Fact, lasts R T ∧ obl P a0 S R n o Ts T ∧ wpSlots P a0 S R Fin N l (addFact o T Ts)
  | [], [], Ts => Fin Ts
  | _, _, _ => False

def distB : List Oper → List Tmp → Bool
  | [], _ => true
  | o :: l, ks => match o.dst with | some d => !ks.contains d && distB l (d :: ks) | none => distB l ks

theorem needs0_mono {Ts Tf : Facts} (h : ∀ x p, Ts.lookup x = some p → Tf.lookup x = some p) {a0 : Act} {ρ : Operand → Value} {w : World} : ∀ {n : List (Tmp × Bool)}, needs0 Tf a0 ρ w n → needs0 Ts a0 ρ w n
  | [], _ => trivial
  | (x, true) :: r, hn => by
    refine ⟨?_, needs0_mono h hn.2⟩
    have h1 := hn.1
    cases hl : Ts.lookup x with
    | none => trivial
    | some p => rw [h x p hl] at h1; exact h1
  | (x, false) :: r, hn => ⟨hn.1, needs0_mono h hn.2⟩

theorem needs_mono {Ts Tf : Facts} (h : ∀ x p, Ts.lookup x = some p → Tf.lookup x = some p) {a0 : Act} {ρ : Operand → Value} {w : World} {n : List (Tmp × Bool)} (hn : needs Tf a0 ρ w n) : needs Ts a0 ρ w n :=
  needs_iff.2 (needs0_mono h (needs_iff.1 hn))

theorem lookup_none_of {Ts : Facts} {d : Tmp} (h : (Ts.map (·.1)).contains d = false) : Ts.lookup d = none := by
  induction Ts with
  | nil => rfl
  | cons t r ih =>
    obtain ⟨k, p⟩ := t
    simp only [List.map_cons, List.contains_cons, Bool.or_eq_false_iff, beq_eq_false_iff_ne] at h
    rw [List.lookup_cons, beq_eq_false_iff_ne.2 h.1]
    exact ih h.2

theorem collect {P : Program} {a0 : Act} {S : World → Prop} {R : World → World → Prop} {Fin : Facts → Prop} : ∀ (N : List (List (Tmp × Bool))) (l : List Oper) (Ts : Facts), wpSlots P a0 S R Fin N l Ts → distB l (Ts.map (·.1)) = true →
    ∃ Tf, Fin Tf ∧ (∀ x p, Ts.lookup x = some p → Tf.lookup x = some p) ∧ (∀ d p, (d, p) ∈ Tf → (d, p) ∈ Ts ∨ (Tf.lookup d = some p ∧ ∃ (k : Nat) (o : Oper), l[k]? = some o ∧ o.dst = some d)) ∧ ∀ (k : Nat) (n : List (Tmp × Bool)) (o : Oper), N[k]? = some n → l[k]? = some o → ∃ T : Fact, lasts R T ∧ obl P a0 S R n o Tf T ∧ ∀ d, o.dst = some d → Tf.lookup d = some T
  | [], [], Ts, h, _ => ⟨Ts, h, fun _ _ h => h, fun _ _ h => .inl h, fun k n o hn _ => by simp at hn⟩
  | [], _ :: _, _, h, _ => h.elim
  | _ :: _, [], _, h, _ => h.elim
  | n :: N, o :: l, Ts, h, hd => by
    obtain ⟨T, hl, ho, hrest⟩ := h
    have hsub : ∀ x p, Ts.lookup x = some p → (addFact o T Ts).lookup x = some p := by
      intro x p hx
      unfold addFact
      cases hod : o.dst with
      | none => exact hx
      | some d =>
        simp only [distB, hod, Bool.and_eq_true, Bool.not_eq_true'] at hd
        have hne : x ≠ d := fun e => by rw [e, lookup_none_of hd.1] at hx; cases hx
        rw [List.lookup_cons, beq_eq_false_iff_ne.2 hne]
        exact hx
    have hd' : distB l ((addFact o T Ts).map (·.1)) = true := by
      unfold addFact
      cases hod : o.dst with
      | none => simpa [distB, hod] using hd
      | some d =>
        simp only [distB, hod, Bool.and_eq_true] at hd
        simpa using hd.2
    obtain ⟨Tf, hfin, hmono, hmem, hall⟩ := collect N l (addFact o T Ts) hrest hd'
    have hhead : ∀ d, o.dst = some d → Tf.lookup d = some T := fun d hod => hmono d T (by unfold addFact; rw [hod]; simp)
    refine ⟨Tf, hfin, fun x p hx => hmono x p (hsub x p hx), fun d p hdp => ?_, fun k n' o' hn ho' => ?_⟩
    · rcases hmem d p hdp with h1 | ⟨h1, k, o', hk, hod⟩
      · unfold addFact at h1
        cases hod : o.dst with
        | none => rw [hod] at h1; exact .inl h1
        | some d' =>
          rw [hod] at h1
          rcases List.mem_cons.1 h1 with h2 | h2
          · obtain ⟨rfl, rfl⟩ := Prod.mk.inj h2
            exact .inr ⟨hhead _ hod, 0, o, rfl, hod⟩
          · exact .inl h2
      · exact .inr ⟨h1, k + 1, o', by simpa using hk, hod⟩
    cases k with
    | zero =>
      simp only [List.getElem?_cons_zero, Option.some.injEq] at hn ho'
      subst hn ho'
      refine ⟨T, hl, fun ρ w hp hS hn => ho ρ w hp hS (needs_mono (fun x p hx => hmono x p (hsub x p hx)) hn), hhead⟩
    | succ k =>
      exact hall k n' o' (by simpa using hn) (by simpa using ho')

/-- The facts of the slots that have been filled, by their values. -/
@[simp] def factsAt (vs : Tmp → Value) (w : World) : Facts → Prop
  | [] => True
  | (d, p) :: r => p (vs d) w ∧ factsAt vs w r

@[simp] def putAll (vs : Tmp → Value) : List Oper → Act → Act
  | [], a => a
  | o :: l, a => putAll vs l (match o.dst with | some d => a.put (some d) (vs d) | none => a)

/-- Operation 'o' waits for number 'i'. -/
def waits (o : Oper) (i : Nat) : Bool := o.after.any fun e => Region.binds .any e && e.on == i

def tabRowB (ops : Array Oper) (j : Nat) (o : Oper) : List (Tmp × Bool) → Bool
  | [] => true
  | (x, true) :: r => (o.after.any fun e => Region.binds .any e && ((ops[e.on]?).bind (·.dst) == some x)) && tabRowB ops j o r
  | (x, false) :: r => ((List.range ops.size).all fun i => match ops[i]? with | some oi => !(oi.dst == some x) || i == j || waits oi j | none => true) && tabRowB ops j o r

/-- What number 'i' waits for, by way of others too. -/
def cover (ops : Array Oper) : List Nat → List Nat → List Nat
  | [], cov => cov
  | j :: r, cov => cover ops r (if cov.contains j then cov ++ (match ops[j]? with | some o => (o.after.toList.filter fun e => Region.binds .any e).map (·.on) | none => []) else cov)

/-- Each operation from number m on waits for all that stand ahead of it. -/
def sealB (ops : Array Oper) (m : Nat) : Bool :=
  (List.range ops.size).all fun i => decide (i < m) || (match ops[i]? with
    | some o => (List.range i).all fun j => (cover ops (List.range i).reverse ((o.after.toList.filter fun e => Region.binds .any e).map (·.on))).contains j
    | none => false)

/-- The Bool over a region and the table of what each of its first m operations looks at. -/
def tidyB (ops : Array Oper) (m : Nat) (N : List (List (Tmp × Bool))) : Bool :=
  distB (ops.toList.take m) [] && ((ops.toList.take m).all fun o => o.guard.isNone) && (N.length == m) && decide (m ≤ ops.size) && sealB ops m &&
  ((List.range ops.size).all fun j => match ops[j]? with
    | some o => (o.after.all fun e => !Region.binds .any e || decide (e.on < j)) && (match N[j]? with | some n => tabRowB ops j o n | none => true)
    | _ => false)

structure Inv (ops : Array Oper) (a0 : Act) (S : World → Prop) (Tf : Facts) (listed : Array Bool) (a : Act) (w : World) : Prop where
  size : listed.size = ops.size
  ok : S w
  defers : a.defers = a0.defers
  len : a.tmps.size = a0.tmps.size
  down : ∀ i o, ops[i]? = some o → listed.getD i false = true → ∀ e ∈ o.after, Region.binds .any e = true → listed.getD e.on false = true
  fresh : ∀ i o d p, ops[i]? = some o → listed.getD i false = true → o.dst = some d → Tf.lookup d = some p → p (a.eval (.tmp d)) w
  old : ∀ x, (∀ i o, ops[i]? = some o → listed.getD i false = true → o.dst ≠ some x) → a.eval (.tmp x) = a0.eval (.tmp x)

theorem plain_eval (a : Act) : Plain a.eval := ⟨fun _ => rfl, fun _ => rfl, fun _ => rfl⟩

theorem listed_ne {listed : Array Bool} {n : Nat} (hs : listed.size = n) {i : Nat} (hi : i < n) (h : listed.getD i true = false) : listed.getD i false = false := by
  have hlt : i < listed.size := by omega
  simp [hlt] at h ⊢
  exact h

theorem needs_of {ops : Array Oper} {a0 : Act} {S : World → Prop} {Tf : Facts} {listed : Array Bool} {a : Act} {w : World} (hI : Inv ops a0 S Tf listed a w) {j : Nat} {o : Oper} (hj : ops[j]? = some o) (hun : listed.getD j false = false)
    (hall : ∀ e ∈ o.after, Region.binds .any e = true → listed.getD e.on false = true) : ∀ (n : List (Tmp × Bool)), tabRowB ops j o n = true → needs0 Tf a0 a.eval w n
  | [], _ => trivial
  | (x, true) :: r, h => by
    simp only [tabRowB, Bool.and_eq_true] at h
    refine ⟨?_, needs_of hI hj hun hall r h.2⟩
    cases hl : Tf.lookup x with
    | none => trivial
    | some p =>
      obtain ⟨e, he, hb⟩ := Array.any_eq_true'.1 h.1
      simp only [Bool.and_eq_true, beq_iff_eq] at hb
      obtain ⟨oi, hoi, hdi⟩ := Option.bind_eq_some_iff.1 hb.2
      exact hI.fresh e.on oi x p hoi (hall e he hb.1) hdi hl
  | (x, false) :: r, h => by
    simp only [tabRowB, Bool.and_eq_true] at h
    refine ⟨hI.old x fun i oi hoi hli hdi => ?_, needs_of hI hj hun hall r h.2⟩
    have hlt : i < ops.size := (Array.getElem?_eq_some_iff.1 hoi).1
    have h1 := List.all_eq_true.1 h.1 i (List.mem_range.2 hlt)
    simp only [hoi, hdi, beq_self_eq_true, Bool.not_true, Bool.false_or, Bool.or_eq_true, beq_iff_eq] at h1
    rcases h1 with rfl | hw
    · rw [hun] at hli
      cases hli
    · obtain ⟨e, he, hb⟩ := Array.any_eq_true'.1 hw
      simp only [Bool.and_eq_true, beq_iff_eq] at hb
      have := hI.down i oi hoi hli e he hb.1
      rw [hb.2, hun] at this
      cases this

theorem upon_of_got {P : Program} {o : Oper} {a : Act} {K : Act → World → Prop} {Q : Exit → Act → World → Prop} {r : Result Next} (h : got P (fun v w' => K (a.put o.dst v) w') r) : o.upon P a K Q r := by
  cases r with
  | ok n w' =>
    cases n <;> simp only [got] at h <;> simp only [Oper.upon]
    case value v => exact h
    case skip => exact h
    case enter f args => exact Calls.mono h fun e w'' ⟨v, he, hk⟩ => by subst he; exact hk
  | halt x w' => simp only [got] at h

theorem got_mono {P : Program} {K K' : Value → World → Prop} {r : Result Next} (hk : ∀ v w, K v w → K' v w) (h : got P K r) : got P K' r := by
  cases r with
  | ok n w' =>
    cases n <;> simp only [got] at h ⊢
    case value v => exact hk _ _ h
    case skip => exact hk _ _ h
    case enter f args => exact Calls.mono h fun e w'' ⟨v, he, hv⟩ => ⟨v, he, hk _ _ hv⟩
  | halt x w' => simp only [got] at h

theorem putA_len (a : Act) (d : Option Tmp) (v : Value) : (a.put d v).tmps.size = a.tmps.size := by
  cases d <;> simp [Act.put]

theorem put_def (a : Act) (d : Option Tmp) (v : Value) : (a.put d v).defers = a.defers := by
  cases d <;> simp [Act.put]

theorem put_at (a : Act) (d : Tmp) (v : Value) (h : d < a.tmps.size) : (a.put (some d) v).eval (.tmp d) = v := by
  simp [Act.put, Act.eval, h]

theorem put_off (a : Act) (d : Option Tmp) (x : Tmp) (v : Value) (h : d ≠ some x) : (a.put d v).eval (.tmp x) = a.eval (.tmp x) :=
  Act.eval_put fun d' hd e => h (by injection e with e; rw [hd, e])

theorem inv_step {ops : Array Oper} {a0 : Act} {S S' : World → Prop} {R : World → World → Prop} {Tf : Facts} (hS : ∀ w w', S w → R w w' → S' w') (hl : ∀ d p, Tf.lookup d = some p → lasts R p)
    (hbd : ∀ (i : Nat) (o : Oper) (d : Tmp), ops[i]? = some o → o.dst = some d → d < a0.tmps.size) {listed : Array Bool} {a : Act} {w w' : World} (hI : Inv ops a0 S Tf listed a w) {j : Nat} {o : Oper} (hj : ops[j]? = some o)
    (hall : ∀ e ∈ o.after, Region.binds .any e = true → listed.getD e.on false = true) {T : Fact} (hT : ∀ d, o.dst = some d → Tf.lookup d = some T) {v : Value} (hR : R w w') (hv : T v w') :
    Inv ops a0 S' Tf (listed.setIfInBounds j true) (a.put o.dst v) w' where
  size := by simpa using hI.size
  ok := hS _ _ hI.ok hR
  defers := (put_def _ _ _).trans hI.defers
  len := (putA_len _ _ _).trans hI.len
  down := by
    intro i oi hoi hli e he hb
    by_cases hij : j = i
    · subst hij
      obtain rfl := Option.some.inj (hj.symm.trans hoi)
      exact getD_set_true (hall e he hb)
    · rw [getD_set_ne false hij] at hli
      exact getD_set_true (hI.down i oi hoi hli e he hb)
  fresh := by
    intro i oi d p hoi hli hdi hp
    by_cases hd : o.dst = some d
    · rw [hd, put_at _ _ _ (by rw [hI.len]; exact hbd j o d hj hd)]
      obtain rfl := Option.some.inj ((hT d hd).symm.trans hp)
      exact hv
    · have hij : j ≠ i := fun e => by
        subst e
        obtain rfl := Option.some.inj (hj.symm.trans hoi)
        exact hd hdi
      rw [getD_set_ne false hij] at hli
      rw [put_off _ _ _ _ hd]
      exact hl d p hp _ _ _ (hI.fresh i oi d p hoi hli hdi hp) hR
  old := by
    intro x hx
    have hd : o.dst ≠ some x := hx j o hj (by
      have hlt : j < listed.size := by rw [hI.size]; exact (Array.getElem?_eq_some_iff.1 hj).1
      simp [hlt])
    rw [put_off _ _ _ _ hd]
    exact hI.old x fun i oi hoi hli => hx i oi hoi (getD_set_true hli)

theorem count_set {l : Array Bool} {j : Nat} (hj : j < l.size) (h : l.getD j true = false) : (l.setIfInBounds j true).toList.count false + 1 = l.toList.count false := by
  have hf : l[j] = false := by simpa [hj] using h
  have h1 : (l.setIfInBounds j true).toList = l.toList.set j true := by simp
  have hj' : j < l.toList.length := by simpa using hj
  have hm : l.toList[j] = false := by simpa using hf
  rw [h1, List.count_set hj', hm]
  have : 0 < l.toList.count false := List.count_pos_iff.2 (by rw [← hm]; exact List.getElem_mem hj')
  have e1 : (if ((false : Bool) == false) = true then 1 else 0 : Nat) = 1 := rfl
  have e2 : (if ((true : Bool) == false) = true then 1 else 0 : Nat) = 0 := rfl
  rw [e1, e2]
  omega

theorem cover_listed {ops : Array Oper} {listed : Array Bool} (hdown : ∀ (i : Nat) (o : Oper), ops[i]? = some o → listed.getD i false = true → ∀ e ∈ o.after, Region.binds .any e = true → listed.getD e.on false = true) :
    ∀ (js cov : List Nat), (∀ x ∈ cov, listed.getD x false = true) → ∀ x ∈ cover ops js cov, listed.getD x false = true
  | [], _, h => h
  | j :: r, cov, h => by
    refine cover_listed hdown r _ fun x hx => ?_
    split at hx
    · rename_i hc
      rcases List.mem_append.1 hx with h1 | h1
      · exact h x h1
      · cases ho : ops[j]? with
        | none => rw [ho] at h1; cases h1
        | some o =>
          rw [ho] at h1
          simp only [List.mem_map, List.mem_filter, Array.mem_toList_iff] at h1
          obtain ⟨e, ⟨he, hb⟩, rfl⟩ := h1
          exact hdown j o ho (h j (by simpa using hc)) e he hb
    · exact h x hx

theorem sealed {ops : Array Oper} {m : Nat} (h : sealB ops m = true) {listed : Array Bool} (hdown : ∀ (i : Nat) (o : Oper), ops[i]? = some o → listed.getD i false = true → ∀ e ∈ o.after, Region.binds .any e = true → listed.getD e.on false = true)
    {i : Nat} {o : Oper} (ho : ops[i]? = some o) (hi : m ≤ i) (hall : ∀ e ∈ o.after, Region.binds .any e = true → listed.getD e.on false = true) {j : Nat} (hj : j < i) : listed.getD j false = true := by
  have hlt := (Array.getElem?_eq_some_iff.1 ho).1
  have h1 := List.all_eq_true.1 h i (List.mem_range.2 hlt)
  simp only [ho, Bool.or_eq_true, decide_eq_true_eq] at h1
  rcases h1 with h1 | h1
  · omega
  · have h2 := List.all_eq_true.1 h1 j (List.mem_range.2 hj)
    refine cover_listed hdown _ _ (fun x hx => ?_) j (by simpa using h2)
    simp only [List.mem_map, List.mem_filter, Array.mem_toList_iff] at hx
    obtain ⟨e, ⟨he, hb⟩, rfl⟩ := hx
    exact hall e he hb

theorem count_drop {listed : Array Bool} {p n : Nat} (hs : listed.size = n) (hp : p ≤ n) (h1 : ∀ j, j < p → listed.getD j false = true) (h2 : ∀ j, p ≤ j → j < n → listed.getD j true = false) : listed.toList.count false = n - p := by
  have hl : listed.toList.length = n := by simpa using hs
  have e : listed.toList = List.replicate p true ++ List.replicate (n - p) false := by
    apply List.ext_getElem
    · simp only [hl, List.length_append, List.length_replicate]
      omega
    · intro j hj hj'
      have hjn : j < n := by omega
      have hj2 : j < listed.size := by omega
      by_cases hjp : j < p
      · rw [List.getElem_append_left (by simpa using hjp)]
        have := h1 j hjp
        simpa [hj2] using this
      · rw [List.getElem_append_right (by simpa using hjp)]
        have := h2 j (by omega) hjn
        simpa [hj2] using this
  rw [e, List.count_append, List.count_replicate, List.count_replicate]
  simp

/-- Behind the first ones the others come in the order of the text. -/
theorem any_tail {P : Program} {ops : Array Oper} {Q : Exit → Act → World → Prop} {m : Nat} (hseal : sealB ops m = true) (hlt : ∀ (i : Nat) (o : Oper), ops[i]? = some o → ∀ e ∈ o.after, Region.binds .any e = true → e.on < i) :
    ∀ (fuel p : Nat) (listed : Array Bool) (a : Act) (w : World), m ≤ p → p + fuel = ops.size → listed.size = ops.size → (∀ j, j < p → listed.getD j false = true) → (∀ j, p ≤ j → j < ops.size → listed.getD j true = false) →
    wpList P ops Q (ops.toList.drop p) a w → wpAny P .any ops Q fuel listed a w
  | 0, p, listed, a, w, _, hp, hs, h1, _, h => by
    have hp' : p = ops.size := by omega
    subst hp'
    have hd : ops.toList.drop ops.size = [] := by simp
    rw [hd] at h
    refine ⟨?_, h⟩
    apply List.eq_nil_iff_forall_not_mem.2
    intro j hj
    obtain ⟨h0, o, ho, _⟩ := mem_ready.1 hj
    have hjlt := (Array.getElem?_eq_some_iff.1 ho).1
    have h3 := h1 j hjlt
    rw [listed_ne hs hjlt h0] at h3
    cases h3
  | fuel + 1, p, listed, a, w, hm, hp, hs, h1, h2, h => by
    have hpl : p < ops.size := by omega
    have hpo : ops[p]? = some ops[p] := by simp [hpl]
    have hd : ops.toList.drop p = ops[p] :: ops.toList.drop (p + 1) := by
      rw [List.drop_eq_getElem_cons (by simpa using hpl)]
      simp
    have hdown : ∀ (i : Nat) (o : Oper), ops[i]? = some o → listed.getD i false = true → ∀ e ∈ o.after, Region.binds .any e = true → listed.getD e.on false = true := fun i o ho hli e he hb => by
      have hip : i < p := by
        rcases Nat.lt_or_ge i p with h' | h'
        · exact h'
        · have hil := (Array.getElem?_eq_some_iff.1 ho).1
          rw [listed_ne hs hil (h2 i h' hil)] at hli
          cases hli
      exact h1 _ (Nat.lt_trans (hlt i o ho e he hb) hip)
    refine ⟨fun hr => ?_, fun j hj => ?_⟩
    · exfalso
      have hmem : p ∈ Region.ready .any ops listed := mem_ready.2 ⟨h2 p (Nat.le_refl _) hpl, _, hpo, fun e he hb => h1 _ (hlt p _ hpo e he hb)⟩
      rw [hr] at hmem
      cases hmem
    · obtain ⟨h0, o, ho, hall⟩ := mem_ready.1 hj
      have hjlt := (Array.getElem?_eq_some_iff.1 ho).1
      have hjp : p ≤ j := by
        rcases Nat.lt_or_ge j p with h' | h'
        · have h3 := h1 j h'
          rw [listed_ne hs hjlt h0] at h3
          cases h3
        · exact h'
      have hj2 : j = p := by
        rcases Nat.lt_or_ge p j with h' | h'
        · have h3 := sealed hseal hdown ho (Nat.le_trans hm hjp) hall h'
          rw [listed_ne hs hpl (h2 p (Nat.le_refl _) hpl)] at h3
          cases h3
        · omega
      subst hj2
      rw [hd] at h
      have key : ∀ a' w', wpList P ops Q (ops.toList.drop (j + 1)) a' w' → wpAny P .any ops Q fuel (listed.setIfInBounds j true) a' w' := fun a' w' h' =>
        any_tail hseal hlt fuel (j + 1) _ a' w' (by omega) (by omega) (by simpa using hs) (fun i hi => by
          by_cases hij : j = i
          · subst hij
            simp [hs, hjlt]
          · rw [getD_set_ne false hij]
            exact h1 i (by omega)) (fun i hi hi2 => by rw [getD_set_ne true (by omega)]; exact h2 i (by omega) hi2) h'
      unfold wpOp
      rw [hpo]
      unfold wpList at h
      split at h
      · rename_i hw
        simp only [hw, if_true]
        exact h.imp (Oper.wp_mono key) id
      · rename_i hw
        simp only [hw]
        exact key _ _ h

/-- Whatever order is picked. -/
theorem any_slots {P : Program} {ops : Array Oper} {a0 : Act} {S SF : World → Prop} {SS : Nat → World → Prop} {R : World → World → Prop} {Tf : Facts} {Q : Exit → Act → World → Prop} {m : Nat} (hmle : m ≤ ops.size) (hseal : sealB ops m = true) (hstep : ∀ f w w', SS (f + 1) w → R w w' → SS f w') (hSS : ∀ f w, f < ops.size → SS (f + 1) w → S w) (hF : ∀ f w, f ≤ ops.size → SS f w → SF w) (hl : ∀ d p, Tf.lookup d = some p → lasts R p)
    (hbd : ∀ (i : Nat) (o : Oper) (d : Tmp), ops[i]? = some o → o.dst = some d → d < a0.tmps.size) (hg : ∀ (i : Nat) (o : Oper), i < m → ops[i]? = some o → o.guard = none) (hlt : ∀ (i : Nat) (o : Oper), ops[i]? = some o → ∀ e ∈ o.after, Region.binds .any e = true → e.on < i)
    (hobl : ∀ (j : Nat) (o : Oper), j < m → ops[j]? = some o → ∃ n T, tabRowB ops j o n = true ∧ obl P a0 S R n o Tf T ∧ ∀ d, o.dst = some d → Tf.lookup d = some T)
    (hfin : ∀ a w, SF w → a.defers = a0.defers → a.tmps.size = a0.tmps.size → (∀ (i : Nat) (o : Oper) (d : Tmp) p, i < m → ops[i]? = some o → o.dst = some d → Tf.lookup d = some p → p (a.eval (.tmp d)) w) → (∀ x, (∀ (i : Nat) (o : Oper), i < m → ops[i]? = some o → o.dst ≠ some x) → a.eval (.tmp x) = a0.eval (.tmp x)) → wpList P ops Q (ops.toList.drop m) a w) :
    ∀ (fuel : Nat) (listed : Array Bool) (a : Act) (w : World), listed.toList.count false = fuel → (∀ j, m ≤ j → j < ops.size → listed.getD j true = false) → Inv ops a0 (SS fuel) Tf listed a w → wpAny P .any ops Q fuel listed a w := by
  intro fuel
  induction fuel with
  | zero =>
    intro listed a w hc hm2 hI
    have hno : ∀ i, i < ops.size → listed.getD i false = true := fun i hi => by
      have hi' : i < listed.size := by rw [hI.size]; exact hi
      have : listed[i] ≠ false := fun h => by
        have := List.count_eq_zero.1 hc
        exact this (by rw [← h]; simp)
      simpa [hi'] using this
    have hms : m = ops.size := by
      rcases Nat.lt_or_ge m ops.size with h' | h'
      · have h3 := hno m h'
        rw [listed_ne hI.size h' (hm2 m (Nat.le_refl _) h')] at h3
        cases h3
      · omega
    refine any_tail hseal hlt 0 m listed a w (Nat.le_refl _) (by omega) hI.size (fun j hj => hno j (by omega)) hm2 ?_
    exact hfin a w (hF 0 w (Nat.zero_le _) hI.ok) hI.defers hI.len (fun i o d p _ ho hd hp => hI.fresh i o d p ho (hno i (Array.getElem?_eq_some_iff.1 ho).1) hd hp) (fun x hx => hI.old x fun i o ho _ => hx i o (by rw [hms]; exact (Array.getElem?_eq_some_iff.1 ho).1) ho)
  | succ fuel ih =>
    intro listed a w hc hm2 hI
    by_cases hdone : ∀ j, j < m → listed.getD j false = true
    · have hcnt := count_drop hI.size hmle hdone hm2
      refine any_tail hseal hlt (fuel + 1) m listed a w (Nat.le_refl _) (by omega) hI.size hdone hm2 ?_
      refine hfin a w (hF _ w (by have := List.count_le_length (a := false) (l := listed.toList); rw [hc, Array.length_toList, hI.size] at this; exact this) hI.ok) hI.defers hI.len (fun i o d p hi ho hd hp => hI.fresh i o d p ho (hdone i hi) hd hp) (fun x hx => hI.old x fun i o ho hli => ?_)
      refine hx i o ?_ ho
      rcases Nat.lt_or_ge i m with h' | h'
      · exact h'
      · have hil := (Array.getElem?_eq_some_iff.1 ho).1
        rw [listed_ne hI.size hil (hm2 i h' hil)] at hli
        cases hli
    · refine ⟨fun hr => absurd ?_ hdone, fun j hj => ?_⟩
      · -- the first that has not come up may come up
        have hall : ∀ k, k ≤ m → ∀ i, i < k → listed.getD i false = true := by
          intro k
          induction k with
          | zero => intro _ i hi; omega
          | succ k ihk =>
            intro hk i hi
            by_cases hik : i < k
            · exact ihk (by omega) i hik
            · have : i = k := by omega
              subst this
              have hi' : i < ops.size := by omega
              cases hb : listed.getD i true with
              | true =>
                have hi2 : i < listed.size := by rw [hI.size]; exact hi'
                simpa [hi2] using hb
              | false =>
                have hmem : i ∈ Region.ready .any ops listed := mem_ready.2 ⟨hb, ops[i], by simp [hi'], fun e he hbi => ihk (by omega) e.on (hlt i _ (by simp [hi']) e he hbi)⟩
                rw [hr] at hmem
                cases hmem
        exact hall m (Nat.le_refl _)
      · obtain ⟨h0, o, ho, hall⟩ := mem_ready.1 hj
        have hjlt := (Array.getElem?_eq_some_iff.1 ho).1
        have hjm : j < m := by
          rcases Nat.lt_or_ge j m with h' | h'
          · exact h'
          · exact absurd (fun i hi => sealed hseal hI.down ho h' hall (Nat.lt_of_lt_of_le hi h')) hdone
        obtain ⟨n, T, htab, hob, hT⟩ := hobl j o hjm ho
        have hun := listed_ne hI.size hjlt h0
        have hgot := hob a.eval w (plain_eval a) (hSS fuel w (by have := List.count_le_length (a := false) (l := listed.toList); rw [hc, Array.length_toList, hI.size] at this; exact this) hI.ok) (needs_iff.2 (needs_of hI ho hun hall n htab))
        unfold wpOp
        simp only [ho]
        rw [if_pos (by simp [Region.wanted, hg j o hjm ho])]
        refine .inl (upon_of_got (got_mono (fun v w' ⟨hR, hv⟩ => ?_) hgot))
        have hI' := inv_step (hstep fuel) hl hbd hI ho hall hT hR hv
        refine ih _ _ _ ?_ (fun i hi hi2 => by rw [getD_set_ne true (by omega)]; exact hm2 i hi hi2) hI'
        have hcs := count_set (by rw [hI.size]; exact hjlt) h0
        omega

theorem lookup_mem {d : Tmp} {p : Fact} : ∀ {Tf : Facts}, Tf.lookup d = some p → (d, p) ∈ Tf
  | [], h => by cases h
  | (k, q) :: r, h => by
    rw [List.lookup_cons] at h
    cases hk : (d == k) with
    | true =>
      rw [hk] at h
      obtain rfl := Option.some.inj h
      rw [beq_iff_eq] at hk
      subst hk
      simp
    | false =>
      rw [hk] at h
      exact List.mem_cons_of_mem _ (lookup_mem h)

theorem rep_false (n i : Nat) : (Array.replicate n false).getD i false = false := by
  by_cases h : i < n <;> simp [h]

theorem factsAt_of {vs : Tmp → Value} {w : World} : ∀ {Tf : Facts}, (∀ d p, (d, p) ∈ Tf → p (vs d) w) → factsAt vs w Tf
  | [], _ => trivial
  | (d, p) :: r, h => ⟨h d p (by simp), factsAt_of fun d' p' h' => h d' p' (List.mem_cons_of_mem _ h')⟩

theorem putAll_spec (vs : Tmp → Value) : ∀ (l : List Oper) (a : Act), (∀ o ∈ l, ∀ d, o.dst = some d → d < a.tmps.size) →
    (putAll vs l a).defers = a.defers ∧ (putAll vs l a).tmps.size = a.tmps.size ∧ ∀ x, ((∃ o ∈ l, o.dst = some x) → (putAll vs l a).eval (.tmp x) = vs x) ∧ ((¬ ∃ o ∈ l, o.dst = some x) → (putAll vs l a).eval (.tmp x) = a.eval (.tmp x))
  | [], a, _ => ⟨rfl, rfl, fun x => ⟨fun h => (by obtain ⟨o, ho, _⟩ := h; cases ho), fun _ => rfl⟩⟩
  | o :: l, a, hb => by
    cases hd : o.dst with
    | none =>
      have e : putAll vs (o :: l) a = putAll vs l a := by simp [putAll, hd]
      obtain ⟨h1, h2, h3⟩ := putAll_spec vs l a (fun o' ho' => hb o' (List.mem_cons_of_mem _ ho'))
      rw [e]
      refine ⟨h1, h2, fun x => ⟨?_, ?_⟩⟩
      · rintro ⟨o', ho', hx⟩
        rcases List.mem_cons.1 ho' with rfl | ho'
        · rw [hd] at hx; cases hx
        · exact (h3 x).1 ⟨o', ho', hx⟩
      · intro hno
        exact (h3 x).2 fun ⟨o', ho', hx⟩ => hno ⟨o', List.mem_cons_of_mem _ ho', hx⟩
    | some d =>
      have e : putAll vs (o :: l) a = putAll vs l (a.put (some d) (vs d)) := by simp [putAll, hd]
      have hdl : d < a.tmps.size := hb o (by simp) d hd
      obtain ⟨h1, h2, h3⟩ := putAll_spec vs l (a.put (some d) (vs d)) (fun o' ho' d' hd' => by rw [putA_len]; exact hb o' (List.mem_cons_of_mem _ ho') d' hd')
      rw [e]
      refine ⟨h1.trans (put_def _ _ _), h2.trans (putA_len _ _ _), fun x => ⟨?_, ?_⟩⟩
      · rintro ⟨o', ho', hx⟩
        by_cases hin : ∃ o ∈ l, o.dst = some x
        · exact (h3 x).1 hin
        · rw [(h3 x).2 hin]
          rcases List.mem_cons.1 ho' with rfl | ho'
          · obtain rfl := Option.some.inj (hd.symm.trans hx)
            exact put_at _ _ _ hdl
          · exact absurd ⟨o', ho', hx⟩ hin
      · intro hno
        rw [(h3 x).2 fun ⟨o', ho', hx⟩ => hno ⟨o', List.mem_cons_of_mem _ ho', hx⟩]
        exact put_off _ _ _ _ fun e => hno ⟨o, by simp, by rw [hd]; exact e⟩

theorem act_ext {a b : Act} (hd : a.defers = b.defers) (hl : a.tmps.size = b.tmps.size) (h : ∀ x, a.eval (.tmp x) = b.eval (.tmp x)) : a = b := by
  obtain ⟨ta, da⟩ := a
  obtain ⟨tb, db⟩ := b
  simp only at hd hl
  subst hd
  congr 1
  refine Array.ext hl fun i h1 h2 => ?_
  have := h i
  simpa [Act.eval, h1, h2] using this

/-- THE LAW, with a count of the operations that are still to come: the first operations 'l' in whatever order; those behind them ('r'), each of which waits for all ahead of it, in the order of the text. -/
theorem wp_region_slots_n {P : Program} {id : Nat} {Q : Exit → Act → World → Prop} {a0 : Act} {w0 : World} {all : List Oper} (m : Nat) (N : List (List (Tmp × Bool))) (S SF : World → Prop) (SS : Nat → World → Prop) (R : World → World → Prop)
    (hm : P.follows .mixedOrders = true) (hB : tidyB all.toArray m N = true) (hz : (all.all fun o => match o.dst with | some d => decide (d < a0.tmps.size) | none => true) = true)
    (h0 : SS all.length w0.drew) (hstep : ∀ f w w', SS (f + 1) w → R w w' → SS f w') (hSS : ∀ f w, f < all.length → SS (f + 1) w → S w) (hF : ∀ f w, f ≤ all.length → SS f w → SF w)
    (h : wpSlots P a0 S R (fun Ts => ∀ vs w, SF w → factsAt vs w Ts → wpList P all.toArray Q (all.drop m) (putAll vs (all.take m) a0) w) N (all.take m) []) : (Code.region id all.toArray true).wp P Q a0 w0 := by
  simp only [tidyB, Bool.and_eq_true, beq_iff_eq, decide_eq_true_eq] at hB
  obtain ⟨⟨⟨⟨⟨hdist, hguard⟩, hlen⟩, hmle⟩, hseal⟩, htab⟩ := hB
  have hops : ∀ (i : Nat) (o : Oper), all.toArray[i]? = some o → all[i]? = some o := fun i o h => by simpa using h
  have hmemo : ∀ (i : Nat) (o : Oper), all.toArray[i]? = some o → o ∈ all := fun i o h => List.mem_of_getElem? (hops i o h)
  have htk : ∀ (i : Nat) (o : Oper), i < m → all.toArray[i]? = some o → (all.take m)[i]? = some o := fun i o hi h => by rw [List.getElem?_take_of_lt hi]; exact hops i o h
  have hbd : ∀ (i : Nat) (o : Oper) (d : Tmp), all.toArray[i]? = some o → o.dst = some d → d < a0.tmps.size := fun i o d ho hd => by
    have := List.all_eq_true.1 hz o (hmemo i o ho)
    simpa [hd] using this
  obtain ⟨Tf, hfin, _, hmem, hall⟩ := collect N (all.take m) [] h (by simpa using hdist)
  have hrow : ∀ (j : Nat) (o : Oper), all.toArray[j]? = some o → (∀ e ∈ o.after, Region.binds .any e = true → e.on < j) ∧ (j < m → ∃ n, N[j]? = some n ∧ tabRowB all.toArray j o n = true) := fun j o ho => by
    have hj := (Array.getElem?_eq_some_iff.1 ho).1
    have h1 := List.all_eq_true.1 htab j (List.mem_range.2 hj)
    rw [ho] at h1
    simp only [Bool.and_eq_true] at h1
    refine ⟨fun e he hb => ?_, fun hjm => ?_⟩
    · have h2 := Array.all_eq_true'.1 h1.1 e he
      simpa [hb] using h2
    · have hjN : j < N.length := by rw [hlen]; exact hjm
      have h2 := h1.2
      rw [List.getElem?_eq_getElem hjN] at h2
      exact ⟨_, List.getElem?_eq_getElem hjN, h2⟩
  have hback : ∀ (k : Nat) (o : Oper), (all.take m)[k]? = some o → k < m ∧ all.toArray[k]? = some o := fun k o hk => by
    have hkl := (List.getElem?_eq_some_iff.1 hk).1
    have hkm : k < m := by
      rw [List.length_take] at hkl
      omega
    rw [List.getElem?_take_of_lt hkm] at hk
    exact ⟨hkm, by simpa using hk⟩
  refine wp_region_any hm ?_
  refine any_slots (m := m) (Tf := Tf) (a0 := a0) (SS := SS) (S := S) (SF := SF) hmle hseal hstep (fun f w hf => hSS f w (by simpa using hf)) (fun f w hf => hF f w (by simpa using hf)) (fun d p hp => ?_) hbd (fun i o hi ho => ?_) (fun i o ho => (hrow i o ho).1) (fun j o hj ho => ?_) (fun a w hSw hdef hsz hfr hold => ?_) _ _ _ _ ?_ ?_ ?_
  · -- each fact lasts
    rcases hmem d p (lookup_mem hp) with h1 | ⟨_, k, o, hk, hod⟩
    · cases h1
    · obtain ⟨hkm, hk'⟩ := hback k o hk
      obtain ⟨n, hn, _⟩ := (hrow k o hk').2 hkm
      obtain ⟨T, hT, _, hT2⟩ := hall k n o hn hk
      obtain rfl := Option.some.inj ((hT2 d hod).symm.trans hp)
      exact hT
  · have := List.all_eq_true.1 hguard o (List.mem_of_getElem? (htk i o hi ho))
    simpa using this
  · obtain ⟨n, hn, h1⟩ := (hrow j o ho).2 hj
    obtain ⟨T, _, hT1, hT2⟩ := hall j n o hn (htk j o hj ho)
    exact ⟨n, T, h1, hT1, hT2⟩
  · obtain ⟨p1, p2, p3⟩ := putAll_spec (fun d => a.eval (.tmp d)) (all.take m) a0 (fun o ho d hd => by
      obtain ⟨i, hi, he⟩ := List.getElem_of_mem ho
      obtain ⟨_, hi'⟩ := hback i o (by rw [List.getElem?_eq_getElem hi, he])
      exact hbd i o d hi' hd)
    have e : a = putAll (fun d => a.eval (.tmp d)) (all.take m) a0 := by
      refine act_ext (hdef.trans p1.symm) (hsz.trans p2.symm) fun x => ?_
      by_cases hx : ∃ o ∈ all.take m, o.dst = some x
      · exact ((p3 x).1 hx).symm
      · rw [(p3 x).2 hx]
        exact hold x fun i o hi ho hd => hx ⟨o, List.mem_of_getElem? (htk i o hi ho), hd⟩
    rw [e]
    refine hfin _ w hSw (factsAt_of fun d p hdp => ?_)
    rcases hmem d p hdp with h1 | ⟨hlk, k, o, hk, hod⟩
    · cases h1
    · obtain ⟨hkm, hk'⟩ := hback k o hk
      exact hfr k o d p hkm hk' hod hlk
  · simp
  · intro j _ hj
    simp at hj
    simp [hj]
  · refine ⟨by simp, by simpa using h0, rfl, rfl, fun i o ho hli => ?_, fun i o d p ho hli => ?_, fun x _ => rfl⟩
    · rw [rep_false] at hli
      cases hli
    · rw [rep_false] at hli
      cases hli

/-- THE LAW: the first operations 'l' in whatever order; those behind them ('r'), each of which waits for all ahead of it, in the order of the text. -/
theorem wp_region_slots {P : Program} {id : Nat} {Q : Exit → Act → World → Prop} {a0 : Act} {w0 : World} {all : List Oper} (m : Nat) (N : List (List (Tmp × Bool))) (S : World → Prop) (R : World → World → Prop)
    (hm : P.follows .mixedOrders = true) (hB : tidyB all.toArray m N = true) (hz : (all.all fun o => match o.dst with | some d => decide (d < a0.tmps.size) | none => true) = true)
    (h0 : S w0.drew) (hS : ∀ w w', S w → R w w' → S w')
    (h : wpSlots P a0 S R (fun Ts => ∀ vs w, S w → factsAt vs w Ts → wpList P all.toArray Q (all.drop m) (putAll vs (all.take m) a0) w) N (all.take m) []) : (Code.region id all.toArray true).wp P Q a0 w0 :=
  wp_region_slots_n m N S S (fun _ => S) R hm hB hz h0 (fun _ => hS) (fun _ _ _ h => h) (fun _ _ _ h => h) h

theorem got_call {P : Program} {K : Value → World → Prop} {f : FuncId} {args : Array Value} {w : World} {T : Ending → World → Prop} (h : Calls P f args w T) (hk : ∀ e w', T e w' → ∃ v, e = .returned v ∧ K v w') : got P K (.ok (.enter f args) w) :=
  h.mono hk

/-- One operation: its value is this one, whatever the world. -/
theorem slot_eq {P : Program} {a0 : Act} {S : World → Prop} {R : World → World → Prop} {Fin : Facts → Prop} {n : List (Tmp × Bool)} {N : List (List (Tmp × Bool))} {o : Oper} {l : List Oper} {Ts : Facts} {e : Value}
    (h : obl P a0 S R n o Ts (fun v _ => v = e)) (hr : wpSlots P a0 S R Fin N l (addFact o (fun v _ => v = e) Ts)) : wpSlots P a0 S R Fin (n :: N) (o :: l) Ts :=
  ⟨_, lasts_eq _ _, h, hr⟩

/-- One operation: of its value this fact is told. -/
theorem slot_fact {P : Program} {a0 : Act} {S : World → Prop} {R : World → World → Prop} {Fin : Facts → Prop} {n : List (Tmp × Bool)} {N : List (List (Tmp × Bool))} {o : Oper} {l : List Oper} {Ts : Facts} (T : Fact) (hT : lasts R T)
    (h : obl P a0 S R n o Ts T) (hr : wpSlots P a0 S R Fin N l (addFact o T Ts)) : wpSlots P a0 S R Fin (n :: N) (o :: l) Ts :=
  ⟨T, hT, h, hr⟩

theorem slot_end {P : Program} {a0 : Act} {S : World → Prop} {R : World → World → Prop} {Fin : Facts → Prop} {Ts : Facts} (h : Fin Ts) : wpSlots P a0 S R Fin [] [] Ts := h

end Go.Proofs.Ytojgahcogpediaa
