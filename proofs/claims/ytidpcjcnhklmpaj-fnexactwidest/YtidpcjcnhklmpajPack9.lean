import Derived.Test.YtidpcjcnhklmpajPack8
import Derived.Test.YtidpcjcnhklmpajPack7
import Derived.Test.YtidpcjcnhklmpajPack4
import Derived.Shelf.SlSortCmp.NoneTotal
/- Marks: what markWriteS writes, heldWriteS finds. -/
namespace Go.Proofs.Ytidpcjcnhklmpaj
open Go.ChangeShapes Go.WideShapes Go.ChangeAt Go.RowKit Go.Joins
attribute [local go_sem ↓] Go.wp_at_zero Go.wp_at_succ

/-- The number that write i's marks begin with. -/
def markK (ws : List Wr) (k : Int) (i : Nat) : Int := k + 6 * i + 4 * bulk (ws.take i)

theorem markK_zero (ws : List Wr) (k : Int) : markK ws k 0 = k := by simp [markK, bulk]

theorem markK_next (ws : List Wr) (k : Int) (i : Nat) (h : i < ws.length) : markK ws k (i + 1) = markK ws k i + 6 + 4 * (ws.getD i wz).xs.length := by
  unfold markK
  rw [bulk_take ws i h]
  push_cast
  omega

theorem bulk_take_le (ws : List Wr) (i : Nat) : bulk (ws.take i) ≤ bulk ws := by
  induction ws generalizing i with
  | nil => simp
  | cons x r ih =>
    cases i with
    | zero => simp [bulk]
    | succ i =>
      have := ih i
      simp only [List.take_succ_cons, bulk]
      omega

theorem markK_bounds (ws : List Wr) (k : Int) (i : Nat) (h0 : 0 ≤ k) (h1 : k ≤ 1073741824) (hi : i ≤ 1048576) (hb : bulk ws ≤ 1048576) : 0 ≤ markK ws k i ∧ markK ws k i ≤ 1099511627000 := by
  have := bulk_take_le ws i
  unfold markK
  omega

/-- Cell o of a marked row; f: what was there. -/
def mkCell (ws : List Wr) (k : Int) (f : Nat → Value) (o : Nat) : Value :=
  if o % 7 < 5 then .int .i64 (markK ws k (o / 7) + (o % 7 : Nat)) else if o % 7 = 5 then .bool ((markK ws k (o / 7) + 1 + 1 + 1 + 1 + 1) % 3 == 0) else f o

theorem mkCell_int (ws : List Wr) (k : Int) (f : Nat → Value) (j o c : Nat) (ho : o = j * 7 + c) (hc : c < 5) (z : Int) (hz : z = markK ws k j + c) : Value.int .i64 z = mkCell ws k f o := by
  subst ho
  unfold mkCell
  have e1 : (j * 7 + c) % 7 = c := by omega
  have e2 : (j * 7 + c) / 7 = j := by omega
  rw [e1, e2, if_pos hc, hz]

theorem mk_step (ws : List Wr) (k : Int) (f : Nat → Value) (j o : Nat) :
    (if o = j * 7 + 5 then Value.bool ((markK ws k j + 1 + 1 + 1 + 1 + 1) % 3 == 0) else if o = j * 7 + 4 then Value.int .i64 (markK ws k j + 1 + 1 + 1 + 1) else if o = j * 7 + 1 + 2 then Value.int .i64 (markK ws k j + 1 + 1 + 1) else if o = j * 7 + 1 + 1 then Value.int .i64 (markK ws k j + 1 + 1) else if o = j * 7 + 1 then Value.int .i64 (markK ws k j + 1) else if o = j * 7 then Value.int .i64 (markK ws k j) else if o < j * 7 then mkCell ws k f o else f o) = (if o < (j + 1) * 7 then mkCell ws k f o else f o) := by
  by_cases h5 : o = j * 7 + 5
  · rw [if_pos h5, if_pos (by omega), h5]
    unfold mkCell
    rw [if_neg (by omega), if_pos (by omega), show (j * 7 + 5) / 7 = j by omega]
  rw [if_neg h5]
  by_cases h4 : o = j * 7 + 4
  · rw [if_pos h4, if_pos (by omega)]
    exact mkCell_int ws k f j o 4 h4 (by omega) _ (by omega)
  rw [if_neg h4]
  by_cases h3 : o = j * 7 + 1 + 2
  · rw [if_pos h3, if_pos (by omega)]
    exact mkCell_int ws k f j o 3 (by omega) (by omega) _ (by omega)
  rw [if_neg h3]
  by_cases h2 : o = j * 7 + 1 + 1
  · rw [if_pos h2, if_pos (by omega)]
    exact mkCell_int ws k f j o 2 (by omega) (by omega) _ (by omega)
  rw [if_neg h2]
  by_cases h1 : o = j * 7 + 1
  · rw [if_pos h1, if_pos (by omega)]
    exact mkCell_int ws k f j o 1 (by omega) (by omega) _ (by omega)
  rw [if_neg h1]
  by_cases h0 : o = j * 7
  · rw [if_pos h0, if_pos (by omega)]
    exact mkCell_int ws k f j o 0 (by omega) (by omega) _ (by omega)
  rw [if_neg h0]
  by_cases hl : o < j * 7
  · rw [if_pos hl, if_pos (by omega)]
  · rw [if_neg hl]
    by_cases h6 : o < (j + 1) * 7
    · rw [if_pos h6]
      unfold mkCell
      rw [if_neg (by omega), if_neg (by omega)]
    · rw [if_neg h6]

abbrev mark6 (w : World) (b o : Nat) (m : Int) : World :=
  (((((w.setCell ⟨b, o, none⟩ (.int .i64 m)).setCell ⟨b, o + 1, none⟩ (.int .i64 (m + 1))).setCell ⟨b, o + 1 + 1, none⟩ (.int .i64 (m + 1 + 1))).setCell ⟨b, o + 1 + 2, none⟩ (.int .i64 (m + 1 + 1 + 1))).setCell ⟨b, o + 4, none⟩ (.int .i64 (m + 1 + 1 + 1 + 1))).setCell ⟨b, o + 5, none⟩ (.bool ((m + 1 + 1 + 1 + 1 + 1) % 3 == 0))

theorem mark6_block (w : World) (b o : Nat) (m : Int) {g : Nat} (hg : g ≠ b) : (mark6 w b o m).heap[g]? = w.heap[g]? := by
  unfold mark6
  simp only [Below.heap_setCell _ _ _ _ (show g ≠ (⟨b, _, none⟩ : Addr).block from hg)]

/-- Writes of one's own, from block number base on: the row's block and, where there are some, those of the dependencies, all apart, none of them shut. -/
structure OwnG (w : World) (base b : Nat) (ws : List Wr) (γ : Nat → Nat) : Prop where
  lt : b < w.heap.size
  le : base ≤ b
  open_ : ∀ o, w.frozen? ⟨b, o, none⟩ = false
  at_ : ∀ i, i < ws.length → ∃ a cap, WrAt w b (i * 7) (ws.getD i wz) a cap ∧ (0 < (ws.getD i wz).xs.length → a = some ⟨γ i, 0, none⟩)
  deps : ∀ i, i < ws.length → 0 < (ws.getD i wz).xs.length → base ≤ γ i ∧ γ i < w.heap.size ∧ γ i ≠ b ∧ HoldsDeps w (γ i) 0 (ws.getD i wz).xs ∧ ∀ o, w.frozen? ⟨γ i, o, none⟩ = false
  inj : ∀ i j, i < ws.length → j < ws.length → 0 < (ws.getD i wz).xs.length → 0 < (ws.getD j wz).xs.length → γ i = γ j → i = j

theorem OwnWs.gen {w : World} {base b : Nat} {ws : List Wr} {γ : Nat → Nat} (h : OwnWs w base b ws γ) : OwnG w base b ws γ where
  lt := h.holds.1
  le := h.le
  open_ := h.open_
  at_ := fun i hi => by
    obtain ⟨⟨cap, h1⟩, _, _⟩ := h.holds.2 i hi
    exact ⟨_, cap, h1, fun _ => rfl⟩
  deps := fun i hi _ => ⟨(h.deps i hi).1, (h.holds.2 i hi).2.1, (h.deps i hi).2.1, (h.holds.2 i hi).2.2, (h.deps i hi).2.2⟩
  inj := fun i j hi hj _ _ e => h.inj i j hi hj e

theorem OwnG.below {w w' : World} {base b : Nat} {ws : List Wr} {γ : Nat → Nat} (h : OwnG w base b ws γ) (hb : Below w.heap.size w w') : OwnG w' base b ws γ where
  lt := Nat.lt_of_lt_of_le h.lt hb.size
  le := h.le
  open_ := fun o => (hb.frozen (p := ⟨b, o, none⟩) h.lt).trans (h.open_ o)
  at_ := fun i hi => by
    obtain ⟨a, cap, h1, h2⟩ := h.at_ i hi
    exact ⟨a, cap, h1.of_block (hb.block _ h.lt), h2⟩
  deps := fun i hi hp => by
    obtain ⟨h1, h2, h3, h4, h5⟩ := h.deps i hi hp
    exact ⟨h1, Nat.lt_of_lt_of_le h2 hb.size, h3, h4.below hb h2, fun o => (hb.frozen (p := ⟨γ i, o, none⟩) h2).trans (h5 o)⟩
  inj := h.inj

theorem OwnG.isWs {w : World} {base b : Nat} {ws : List Wr} {γ : Nat → Nat} (h : OwnG w base b ws γ) (hx : Few ws) : IsWs w (some ⟨b, 0, none⟩) ws := by
  refine .inr ⟨b, 0, rfl, h.lt, fun i hi => ?_⟩
  obtain ⟨a, cap, h1, h2⟩ := h.at_ i hi
  refine ⟨a, cap, by rw [Nat.zero_add]; exact h1, by have := hx i hi; unfold maxLen; omega, ?_⟩
  by_cases hp : 0 < (ws.getD i wz).xs.length
  · exact .inr ⟨_, _, h2 hp, (h.deps i hi hp).2.1, (h.deps i hi hp).2.2.2.1⟩
  · exact .inl (List.length_eq_zero_iff.1 (by omega))

/-- The blocks that a row of writes takes up. -/
def TakenUp (b : Nat) (ws : List Wr) (γ : Nat → Nat) (x : Nat) : Prop := x = b ∨ ∃ i, i < ws.length ∧ 0 < (ws.getD i wz).xs.length ∧ x = γ i

/-- While a row is being marked: of its writes the first j are. -/
structure MarkInv (w wr : World) (b : Nat) (ws : List Wr) (γ : Nat → Nat) (k : Int) (f : Nat → Value) (j : Nat) : Prop where
  row : CellsAre wr b (ws.length * 7) (fun o => if o < j * 7 then mkCell ws k f o else f o)
  deps : ∀ i, i < ws.length → 0 < (ws.getD i wz).xs.length → CellsAre wr (γ i) ((ws.getD i wz).xs.length * 4) (fun o => if i < j then markFn (markK ws k i + 1 + 1 + 1 + 1 + 1 + 1) o else .int .i64 (depCell (ws.getD i wz).xs o))
  only : Only (TakenUp b ws γ) w wr

theorem markInv_round {w wr w2 : World} {base b : Nat} {ws : List Wr} {γ : Nat → Nat} {k : Int} {f : Nat → Value} {j : Nat} (hO : OwnG w base b ws γ) (hj : j < ws.length) (h : MarkInv w wr b ws γ k f j)
    (h2 : CellsAre w2 (γ j) ((ws.getD j wz).xs.length * 4) (markFn (markK ws k j + 1 + 1 + 1 + 1 + 1 + 1))) (h3 : Only (fun x => 0 < (ws.getD j wz).xs.length ∧ x = γ j) (mark6 wr b (j * 7) (markK ws k j)) w2) : MarkInv w w2 b ws γ k f (j + 1) where
  row := by
    have h6 : CellsAre (mark6 wr b (j * 7) (markK ws k j)) b (ws.length * 7) (fun o => if o < (j + 1) * 7 then mkCell ws k f o else f o) :=
      ((((((h.row.set (by omega) _).set (by omega) _).set (by omega) _).set (by omega) _).set (by omega) _).set (by omega) _).congr (fun o _ => mk_step ws k f j o)
    exact h6.of_block (h3.block b (fun e => (hO.deps j hj e.1).2.2.1 e.2.symm))
  deps := by
    intro i hi hp
    by_cases hij : i = j
    · subst hij
      exact h2.congr (fun o _ => by rw [if_pos (by omega)])
    · have e : ¬ (0 < (ws.getD j wz).xs.length ∧ γ i = γ j) := fun e => hij (hO.inj i j hi hj hp e.1 e.2)
      refine ((h.deps i hi hp).of_block ((h3.block (γ i) e).trans (mark6_block _ _ _ _ (hO.deps i hi hp).2.2.1))).congr (fun o _ => ?_)
      by_cases hl : i < j
      · rw [if_pos hl, if_pos (by omega)]
      · rw [if_neg hl, if_neg (by omega)]
  only := by
    refine Only.trans ((((((h.only.set (.inl rfl) _ _).set (.inl rfl) _ _).set (.inl rfl) _ _).set (.inl rfl) _ _).set (.inl rfl) _ _).set (.inl rfl) _ _) h3 fun x hx => .inr ⟨j, hj, hx.1, hx.2⟩

theorem markInv_start {w : World} {base b : Nat} {ws : List Wr} {γ : Nat → Nat} (k : Int) (hO : OwnG w base b ws γ) : MarkInv w w b ws γ k (fun o => (w.cell? ⟨b, o, none⟩).getD undef) 0 where
  row := by
    intro o ho
    dsimp only
    rw [if_neg (by omega)]
    obtain ⟨a, cap, ⟨h0, h1, h2, h3, h4, h5, h6⟩, _⟩ := hO.at_ (o / 7) (by omega)
    have h7 : o % 7 = 0 ∨ o % 7 = 1 ∨ o % 7 = 2 ∨ o % 7 = 3 ∨ o % 7 = 4 ∨ o % 7 = 5 ∨ o % 7 = 6 := by omega
    have hx : ∃ v, w.cell? ⟨b, o, none⟩ = some v := by
      rcases h7 with e | e | e | e | e | e | e
      · exact ⟨_, by rw [show o = o / 7 * 7 by omega]; exact h0⟩
      · exact ⟨_, by rw [show o = o / 7 * 7 + 1 by omega]; exact h1⟩
      · exact ⟨_, by rw [show o = o / 7 * 7 + 2 by omega]; exact h2⟩
      · exact ⟨_, by rw [show o = o / 7 * 7 + 3 by omega]; exact h3⟩
      · exact ⟨_, by rw [show o = o / 7 * 7 + 4 by omega]; exact h4⟩
      · exact ⟨_, by rw [show o = o / 7 * 7 + 5 by omega]; exact h5⟩
      · exact ⟨_, by rw [show o = o / 7 * 7 + 6 by omega]; exact h6⟩
    obtain ⟨v, hv⟩ := hx
    simp [hv]
  deps := by
    intro i hi hp o ho
    dsimp only
    rw [if_neg (by omega)]
    have := holds_cells (hO.deps i hi hp).2.2.2.1 ho
    rwa [Nat.zero_add] at this
  only := Only.refl _ _

theorem markInv_slice {w wr : World} {base b : Nat} {ws : List Wr} {γ : Nat → Nat} {k : Int} {j i : Nat} (hO : OwnG w base b ws γ) (h : MarkInv w wr b ws γ k (fun o => (w.cell? ⟨b, o, none⟩).getD undef) j) (hi : i < ws.length) :
    ∃ a cp, wr.cell? ⟨b, i * 7 + 6, none⟩ = some (.slice a (ws.getD i wz).xs.length cp) ∧ (0 < (ws.getD i wz).xs.length → a = some ⟨γ i, 0, none⟩) := by
  obtain ⟨a, cap, ⟨_, _, _, _, _, _, h6⟩, ha⟩ := hO.at_ i hi
  refine ⟨a, cap, ?_, ha⟩
  rw [h.row (i * 7 + 6) (by omega)]
  have e : mkCell ws k (fun o => (w.cell? ⟨b, o, none⟩).getD undef) (i * 7 + 6) = (w.cell? ⟨b, i * 7 + 6, none⟩).getD undef := by
    unfold mkCell
    rw [if_neg (by omega), if_neg (by omega)]
  simp only [e, ite_self, h6]
  rfl

/-- A row of writes that is marked, from k on. -/
def MarkedWs (w : World) (b : Nat) (ws : List Wr) (γ : Nat → Nat) (k : Int) : Prop :=
  ∀ i, i < ws.length → (w.cell? ⟨b, i * 7, none⟩ = some (.int .i64 (markK ws k i)) ∧ w.cell? ⟨b, i * 7 + 1, none⟩ = some (.int .i64 (markK ws k i + 1)) ∧ w.cell? ⟨b, i * 7 + 1 + 1, none⟩ = some (.int .i64 (markK ws k i + 1 + 1)) ∧ w.cell? ⟨b, i * 7 + 1 + 2, none⟩ = some (.int .i64 (markK ws k i + 1 + 1 + 1)) ∧
    w.cell? ⟨b, i * 7 + 4, none⟩ = some (.int .i64 (markK ws k i + 1 + 1 + 1 + 1)) ∧ w.cell? ⟨b, i * 7 + 5, none⟩ = some (.bool ((markK ws k i + 1 + 1 + 1 + 1 + 1) % 3 == 0)) ∧ ∃ a cp, w.cell? ⟨b, i * 7 + 6, none⟩ = some (.slice a (ws.getD i wz).xs.length cp) ∧ (0 < (ws.getD i wz).xs.length → a = some ⟨γ i, 0, none⟩)) ∧
    (0 < (ws.getD i wz).xs.length → CellsAre w (γ i) ((ws.getD i wz).xs.length * 4) (markFn (markK ws k i + 1 + 1 + 1 + 1 + 1 + 1)))

theorem MarkedWs.below {w w' : World} {b : Nat} {ws : List Wr} {γ : Nat → Nat} {k : Int} {B : Nat} (h : MarkedWs w b ws γ k) (hb : Below B w w') (h1 : b < B) (h2 : ∀ i, i < ws.length → 0 < (ws.getD i wz).xs.length → γ i < B) : MarkedWs w' b ws γ k := by
  intro i hi
  obtain ⟨⟨e0, e1, e2, e3, e4, e5, a, cp, e6, e7⟩, hd⟩ := h i hi
  have c : ∀ o, w'.cell? ⟨b, o, none⟩ = w.cell? ⟨b, o, none⟩ := fun o => hb.cell (p := ⟨b, o, none⟩) h1
  exact ⟨⟨(c _).trans e0, (c _).trans e1, (c _).trans e2, (c _).trans e3, (c _).trans e4, (c _).trans e5, a, cp, (c _).trans e6, e7⟩, fun hp => (hd hp).of_block (hb.block _ (h2 i hi hp))⟩

theorem markInv_end {w wr : World} {base b : Nat} {ws : List Wr} {γ : Nat → Nat} {k : Int} (hO : OwnG w base b ws γ) (h : MarkInv w wr b ws γ k (fun o => (w.cell? ⟨b, o, none⟩).getD undef) ws.length) : MarkedWs wr b ws γ k := by
  intro i hi
  have r : ∀ c, c < 7 → wr.cell? ⟨b, i * 7 + c, none⟩ = some (mkCell ws k (fun o => (w.cell? ⟨b, o, none⟩).getD undef) (i * 7 + c)) := fun c hc => by
    rw [h.row _ (by omega)]
    dsimp only
    rw [if_pos (by omega)]
  refine ⟨⟨?_, ?_, ?_, ?_, ?_, ?_, markInv_slice hO h hi⟩, fun hp => (h.deps i hi hp).congr (fun o _ => by rw [if_pos hi])⟩
  · rw [show i * 7 = i * 7 + 0 from rfl, r 0 (by omega), mkCell_int ws k _ i (i * 7 + 0) 0 rfl (by omega) (markK ws k i) (by omega)]
  · rw [r 1 (by omega), mkCell_int ws k _ i (i * 7 + 1) 1 rfl (by omega) (markK ws k i + 1) (by omega)]
  · rw [show i * 7 + 1 + 1 = i * 7 + 2 from rfl, r 2 (by omega), mkCell_int ws k _ i (i * 7 + 2) 2 rfl (by omega) (markK ws k i + 1 + 1) (by omega)]
  · rw [show i * 7 + 1 + 2 = i * 7 + 3 from rfl, r 3 (by omega), mkCell_int ws k _ i (i * 7 + 3) 3 rfl (by omega) (markK ws k i + 1 + 1 + 1) (by omega)]
  · rw [r 4 (by omega), mkCell_int ws k _ i (i * 7 + 4) 4 rfl (by omega) (markK ws k i + 1 + 1 + 1 + 1) (by omega)]
  · rw [r 5 (by omega)]
    unfold mkCell
    rw [if_neg (by omega), if_pos (by omega), show (i * 7 + 5) / 7 = i by omega]

set_option maxHeartbeats 4000000 in
theorem markWriteS_any (base b n cap : Nat) (k : Int) (ws : List Wr) (γ : Nat → Nat) (w : World) (hn : ws.length = n) (hm : n ≤ 1048576) (hbk : bulk ws ≤ 1048576) (h0 : 0 ≤ k) (h1 : k ≤ 1073741824) (ho : OwnG w base b ws γ) :
    Calls Try.prog 15 #[.slice (some ⟨b, 0, none⟩) n cap, .int .i64 k] w fun e w' => e = .returned (.int .i64 (markK ws k n)) ∧ MarkedWs w' b ws γ k ∧ Only (TakenUp b ws γ) w w' := by
  have HO : Hid (OwnG w base b ws γ) := ho
  have HN : Hid (ws.length = n) := hn
  clear ho hn
  have HB : Hid (∀ i, i ≤ n → 0 ≤ markK ws k i ∧ markK ws k i ≤ 1099511627000) := fun i hi => markK_bounds ws k i h0 h1 (by omega) hbk
  go_enter Try.func15, Try.ntmps15
  go_wp2
  go_loopw [1, 5] (fun l i wr => ∃ (j : Nat), j ≤ n ∧ i = .int .i64 j ∧ l = .int .i64 (markK ws k j) ∧ Hid (MarkInv w wr b ws γ k (fun o => (w.cell? ⟨b, o, none⟩).getD undef) j)) (fun _ i _ => n - (intOf i).toNat)
  case atStart => exact ⟨0, Nat.zero_le _, rfl, by rw [markK_zero], markInv_start k HO.out⟩
  case round =>
    obtain ⟨j, hj, rfl, rfl, HI⟩ := hrel
    by_cases hj' : j < n
    · have hjw : j < ws.length := by rw [HN.out]; exact hj'
      have c0 := HI.out.row (j * 7) (by omega)
      have c1 := HI.out.row (j * 7 + 1) (by omega)
      have c2 := HI.out.row (j * 7 + 1 + 1) (by omega)
      have c3 := HI.out.row (j * 7 + 1 + 2) (by omega)
      have c4 := HI.out.row (j * 7 + 4) (by omega)
      have c5 := HI.out.row (j * 7 + 5) (by omega)
      obtain ⟨aj, cp, c6, haj⟩ := markInv_slice HO.out HI.out hjw
      have HAJ := Lib.hid haj
      clear haj
      have fz : ∀ o, wr.frozen? ⟨b, o, none⟩ = false := fun o => (HI.out.only.frozen _).trans (HO.out.open_ o)
      have i1 : (0 : Int) ≤ (j : Int) := by omega
      have i2 : (j : Int) < (n : Int) := by omega
      obtain ⟨m0, m1⟩ := HB.out j hj
      have HS : Hid (∀ w2, CellsAre w2 (γ j) ((ws.getD j wz).xs.length * 4) (markFn (markK ws k j + 1 + 1 + 1 + 1 + 1 + 1)) → Only (fun x => 0 < (ws.getD j wz).xs.length ∧ x = γ j) (mark6 wr b (j * 7) (markK ws k j)) w2 → MarkInv w w2 b ws γ k (fun o => (w.cell? ⟨b, o, none⟩).getD undef) (j + 1)) := fun w2 h2 h3 => markInv_round HO.out hjw HI.out h2 h3
      have HD : Hid (CellsAre (mark6 wr b (j * 7) (markK ws k j)) (γ j) ((ws.getD j wz).xs.length * 4) (fun o => .int .i64 (depCell (ws.getD j wz).xs o))) := by
        by_cases hp : 0 < (ws.getD j wz).xs.length
        · exact ((HI.out.deps j hjw hp).of_block (mark6_block _ _ _ _ (HO.out.deps j hjw hp).2.2.1)).congr (fun o _ => by rw [if_neg (Nat.lt_irrefl j)])
        · exact fun o ho => by omega
      have HZ : Hid (0 < (ws.getD j wz).xs.length → ∀ o, (mark6 wr b (j * 7) (markK ws k j)).frozen? ⟨γ j, o, none⟩ = false) := fun hp o => by
        simp only [World.frozen?_setCell]
        exact (HI.out.only.frozen _).trans ((HO.out.deps j hjw hp).2.2.2.2 o)
      have HK : Hid (markK ws k (j + 1) = markK ws k j + 6 + 4 * (ws.getD j wz).xs.length) := markK_next ws k j hjw
      have hln : (ws.getD j wz).xs.length ≤ 1048576 := Nat.le_trans (bulk_one ws j hjw) hbk
      clear HI
      generalize markK ws k j = m at *
      generalize (ws.getD j wz).xs = ys at *
      generalize γ j = gj at *
      go_wp2_with fail
      refine (markDepS_any _ _ _ _ _ _ _ hln (by omega) (by omega) HAJ.out HD.out HZ.out).mono ?_
      rintro e w2 ⟨rfl, h2, h3⟩
      have HI2 := Lib.hid (HS.out w2 h2 h3)
      clear h2 h3 HS HD HZ
      go_wp2
      exact ⟨⟨j + 1, by omega, by go_num, by rw [HK.out]; congr 1; omega, HI2⟩, by simp [intOf]; omega⟩
    · have hjj : j = n := by omega
      subst hjj
      go_wp2
      go_ret
      refine ⟨rfl, markInv_end HO.out ?_, HI.out.only⟩
      rw [HN.out]
      exact HI.out

set_option maxHeartbeats 4000000 in
theorem heldWriteS_any (b n cap : Nat) (k : Int) (ws : List Wr) (γ : Nat → Nat) (w : World) (hn : ws.length = n) (hm : n ≤ 1048576) (hbk : bulk ws ≤ 1048576) (h0 : 0 ≤ k) (h1 : k ≤ 1073741824) (ho : MarkedWs w b ws γ k) :
    Calls Try.prog 31 #[.slice (some ⟨b, 0, none⟩) n cap, .int .i64 k] w fun e w' => e = .returned (.int .i64 (markK ws k n)) ∧ w' = w := by
  have HO : Hid (MarkedWs w b ws γ k) := ho
  have HN : Hid (ws.length = n) := hn
  clear ho hn
  have HB : Hid (∀ i, i ≤ n → 0 ≤ markK ws k i ∧ markK ws k i ≤ 1099511627000) := fun i hi => markK_bounds ws k i h0 h1 (by omega) hbk
  go_enter Try.func31, Try.ntmps31
  go_wp2
  go_loopw [1, 5] (fun l i wr => ∃ (j : Nat), j ≤ n ∧ i = .int .i64 j ∧ l = .int .i64 (markK ws k j) ∧ wr = w) (fun _ i _ => n - (intOf i).toNat)
  case atStart => exact ⟨0, Nat.zero_le _, rfl, by rw [markK_zero], rfl⟩
  case round =>
    obtain ⟨j, hj, rfl, rfl, rfl⟩ := hrel
    by_cases hj' : j < n
    · have hjw : j < ws.length := by rw [HN.out]; exact hj'
      obtain ⟨⟨c0, c1, c2, c3, c4, c5, aj, cp, c6, haj⟩, hd⟩ := HO.out j hjw
      have HAJ := Lib.hid haj
      have HD : Hid (CellsAre wr (γ j) ((ws.getD j wz).xs.length * 4) (markFn (markK ws k j + 1 + 1 + 1 + 1 + 1 + 1))) := by
        by_cases hp : 0 < (ws.getD j wz).xs.length
        · exact hd hp
        · exact fun o ho => by omega
      clear hd haj
      have i1 : (0 : Int) ≤ (j : Int) := by omega
      have i2 : (j : Int) < (n : Int) := by omega
      obtain ⟨m0, m1⟩ := HB.out j hj
      have HK : Hid (markK ws k (j + 1) = markK ws k j + 6 + 4 * (ws.getD j wz).xs.length) := markK_next ws k j hjw
      have hln : (ws.getD j wz).xs.length ≤ 1048576 := Nat.le_trans (bulk_one ws j hjw) hbk
      generalize markK ws k j = m at *
      generalize (ws.getD j wz).xs.length = ln at *
      generalize γ j = gj at *
      go_wp2_with fail
      refine (heldDepS_any _ _ _ _ _ _ hln (by omega) (by omega) HAJ.out HD.out).mono ?_
      rintro e w2 ⟨rfl, rfl⟩
      go_wp2
      exact ⟨⟨j + 1, by omega, by go_num, by rw [HK.out]; congr 1; omega, trivial⟩, by simp [intOf]; omega⟩
    · have hjj : j = n := by omega
      subst hjj
      go_wp2
      go_ret
      exact ⟨rfl, rfl⟩

end Go.Proofs.Ytidpcjcnhklmpaj

/- A row of writes of one's own whose dependencies may be nil, and that grows. -/
namespace Go.Proofs.Ytidpcjcnhklmpaj
open Go.ChangeShapes Go.WideShapes Go.ChangeAt Go.RowKit Go.Joins

/-- A write, where its dependencies are said to lie, their block, their room. -/
structure EnG where
  x : Wr
  a : Option Addr
  g : Nat
  cp : Nat

def ezG : EnG := ⟨wz, none, 0, 0⟩

def wrValsG (e : EnG) : List Value := [.int .i64 e.x.k, .int .i64 e.x.c, .int .i64 e.x.s, .int .i64 e.x.q, .int .i64 e.x.v, .bool e.x.de, .slice e.a e.x.xs.length e.cp]

set_option maxRecDepth 100000 in
theorem valsG_len : ∀ es : List EnG, (es.flatMap wrValsG).length = es.length * 7
  | [] => rfl
  | e :: r => by
    rw [List.flatMap_cons, List.length_append, valsG_len r]
    simp [wrValsG]
    omega

set_option maxRecDepth 100000 in
theorem valsG_at : ∀ (es : List EnG) (i c : Nat), i < es.length → c < 7 → (es.flatMap wrValsG)[i * 7 + c]? = (wrValsG (es.getD i ezG))[c]?
  | [], i, c, hi, _ => by simp at hi
  | e :: r, 0, c, _, hc => by
    rw [List.flatMap_cons, List.getElem?_append_left (by simp [wrValsG]; omega)]
    simp
  | e :: r, i + 1, c, hi, hc => by
    rw [List.flatMap_cons, List.getElem?_append_right (by simp [wrValsG]; omega)]
    have := valsG_at r i c (by simpa using hi) hc
    rw [show (i + 1) * 7 + c - (wrValsG e).length = i * 7 + c by simp [wrValsG]; omega, this]
    simp

set_option maxRecDepth 100000 in
theorem valsG_one (es : List EnG) : ∀ u ∈ es.flatMap wrValsG, u.oneCell' = true := by
  intro u hu
  obtain ⟨e, _, h⟩ := List.mem_flatMap.1 hu
  simp only [wrValsG, List.mem_cons, List.not_mem_nil, or_false] at h
  rcases h with rfl | rfl | rfl | rfl | rfl | rfl | rfl <;> rfl

set_option maxRecDepth 100000 in
theorem frozen_of_block {w w' : World} {b o : Nat} (h : w'.heap[b]? = w.heap[b]?) : w'.frozen? ⟨b, o, none⟩ = w.frozen? ⟨b, o, none⟩ := by
  unfold World.frozen?
  simp only [h]

set_option maxRecDepth 100000 in
theorem FreshDeps.of_block {B : Nat} {w w' : World} {a : Option Addr} {g : Nat} {xs : List Dp} (h : FreshDeps B w a g xs) (hs : w.heap.size ≤ w'.heap.size) (hb : 0 < xs.length → w'.heap[g]? = w.heap[g]?) : FreshDeps B w' a g xs := fun hp => by
  obtain ⟨h1, h2, h3, h4, h5⟩ := h hp
  refine ⟨h1, h2, Nat.lt_of_lt_of_le h3 hs, fun i hi => ?_, fun o => (frozen_of_block (hb hp)).trans (h5 o)⟩
  have e' : ∀ o, w'.cell? ⟨g, o, none⟩ = w.cell? ⟨g, o, none⟩ := fun o => World.cell?_of_block (a := ⟨g, o, none⟩) (hb hp)
  obtain ⟨a0, a1, a2, a3⟩ := h4 i hi
  exact ⟨(e' _).trans a0, (e' _).trans a1, (e' _).trans a2, (e' _).trans a3⟩

/-- A row of writes of one's own, from block number base on; it may be nil. -/
structure RowG (w : World) (base : Nat) (v : Value) (es : List EnG) : Prop where
  own : w.ownsRow base 52 7 v es.length (es.flatMap wrValsG)
  deps : ∀ e ∈ es, FreshDeps base w e.a e.g e.x.xs ∧ (0 < e.x.xs.length → v.ownBlock ≠ some e.g)
  apart : es.Pairwise fun e e' => 0 < e.x.xs.length → 0 < e'.x.xs.length → e.g ≠ e'.g

set_option maxRecDepth 100000 in
theorem rowG_nil (w : World) (base : Nat) : RowG w base (.slice none 0 0) [] where
  own := World.ownsRow_nil w base _ _
  deps := fun e he => by simp at he
  apart := List.Pairwise.nil

set_option maxRecDepth 100000 in
theorem RowG.below {w w' : World} {base : Nat} {v : Value} {es : List EnG} (h : RowG w base v es) (hb : Below w.heap.size w w') : RowG w' base v es where
  own := h.own.kept (row := none) ⟨hb.os, hb.tape, hb.output, hb.size, fun k hk _ => hb.block k hk⟩ (by
    by_cases e : v.ownBlock = none
    · exact .inl e
    · exact .inr e)
  deps := fun e he => ⟨(h.deps e he).1.below hb, (h.deps e he).2⟩
  apart := h.apart

set_option maxRecDepth 100000 in
theorem RowG.mono {w : World} {base base' : Nat} {v : Value} {es : List EnG} (h : RowG w base v es) (hb : base' ≤ base) : RowG w base' v es where
  own := by
    refine ⟨h.own.1, ?_⟩
    rcases h.own.2 with h1 | ⟨g, cap, cur, h1, h2, h3⟩
    · exact .inl h1
    · exact .inr ⟨g, cap, cur, h1, Nat.le_trans hb h2, h3⟩
  deps := fun e he => ⟨(h.deps e he).1.mono hb, (h.deps e he).2⟩
  apart := h.apart

set_option maxRecDepth 100000 in
/-- One write more. -/
theorem RowG.more {w w5 : World} {base g5 cap5 : Nat} {v : Value} {es : List EnG} {e : EnG} (h : RowG w base v es) (he : FreshDeps base w e.a e.g e.x.xs) (hv : 0 < e.x.xs.length → v.ownBlock ≠ some e.g) (hap : ∀ d ∈ es, 0 < d.x.xs.length → 0 < e.x.xs.length → d.g ≠ e.g)
    (hown : w5.ownsRow base 52 7 (.slice (some ⟨g5, 0, none⟩) (es.length + 1) cap5) (es.length + 1) (es.flatMap wrValsG ++ wrValsG e)) (hgrow : w.grownBy w5 v.ownBlock) (hg : v.ownBlock = some g5 ∨ g5 = w.heap.size) : RowG w5 base (.slice (some ⟨g5, 0, none⟩) (es.length + 1) cap5) (es ++ [e]) where
  own := by
    rw [List.length_append, List.flatMap_append]
    simpa using hown
  deps := by
    have : ∀ d : EnG, FreshDeps base w d.a d.g d.x.xs → (0 < d.x.xs.length → v.ownBlock ≠ some d.g) → FreshDeps base w5 d.a d.g d.x.xs ∧ (0 < d.x.xs.length → (Value.slice (some ⟨g5, 0, none⟩) (es.length + 1) cap5).ownBlock ≠ some d.g) := fun d h1 h2 => by
      refine ⟨h1.of_block hgrow.size fun hp => hgrow.block d.g (h1 hp).2.2.1 (fun e => h2 hp e.symm), fun hp e => ?_⟩
      have e5 : g5 = d.g := by
        simp only [Value.ownBlock, Option.some.injEq] at e
        exact e
      rcases hg with hg | hg
      · exact h2 hp (by rw [hg, e5])
      · have := (h1 hp).2.2.1
        omega
    intro d hd
    rcases List.mem_append.1 hd with hd | hd
    · exact this d (h.deps d hd).1 (h.deps d hd).2
    · have hd : d = e := by simpa using hd
      subst hd
      exact this d he hv
  apart := by
    rw [List.pairwise_append]
    exact ⟨h.apart, by simp, fun d hd e' he' => by
      have : e' = e := by simpa using he'
      subst this
      exact hap d hd⟩

def gammaG (es : List EnG) (i : Nat) : Nat := (es.getD i ezG).g

set_option maxRecDepth 100000 in
theorem pairwise_getD {r : EnG → EnG → Prop} : ∀ {es : List EnG}, es.Pairwise r → ∀ i j, i < j → j < es.length → r (es.getD i ezG) (es.getD j ezG)
  | [], _, _, _, _, h => by simp at h
  | e :: es, hp, 0, j + 1, _, h => by
    have hj : j < es.length := by simpa using h
    have := (List.pairwise_cons.1 hp).1 (es.getD j ezG) (by simp [List.getD, hj])
    simpa using this
  | e :: es, hp, i + 1, j + 1, hij, h => by
    have := pairwise_getD (List.pairwise_cons.1 hp).2 i j (by omega) (by simpa using h)
    simpa using this

set_option maxRecDepth 100000 in
/-- The row as a slice that is the call's own. -/
theorem RowG.form {w : World} {base : Nat} {v : Value} {es : List EnG} (h : RowG w base v es) :
    ∃ a cap, v = .slice a es.length cap ∧ (es = [] ∨ ∃ b, a = some ⟨b, 0, none⟩ ∧ OwnG w base b (es.map (·.x)) (gammaG es)) := by
  rcases h.own.2 with ⟨h1, h2⟩ | ⟨g, cap, cur, h1, h2, h3, _⟩
  · exact ⟨none, 0, by rw [h1, h2], .inl (List.length_eq_zero_iff.1 h2)⟩
  · refine ⟨_, cap, h1, .inr ⟨g, rfl, ?_⟩⟩
    subst h1
    have hlt : g < w.heap.size := (h.own.lt g rfl).2
    have hm : ∀ i, i < es.length → es.getD i ezG ∈ es := fun i hi => by simp [List.getD, hi]
    have hx : ∀ i, i < es.length → (es.map (·.x)).getD i wz = (es.getD i ezG).x := fun i hi => by simp [List.getD, hi]
    have hl : (es.map (·.x)).length = es.length := by simp
    refine ⟨hlt, h2, fun o => h.own.frozenAt o, fun i hi => ?_, fun i hi hp => ?_, fun i j hi hj hp hq e => ?_⟩
    · rw [hl] at hi
      rw [hx i hi]
      have c : ∀ c, c < 7 → w.cell? ⟨g, i * 7 + c, none⟩ = (wrValsG (es.getD i ezG))[c]? := fun c hc => by rw [h.own.cellAt _ (by omega), valsG_at es i c hi hc]
      exact ⟨(es.getD i ezG).a, (es.getD i ezG).cp, ⟨c 0 (by omega), c 1 (by omega), c 2 (by omega), c 3 (by omega), c 4 (by omega), c 5 (by omega), c 6 (by omega)⟩, fun hp => ((h.deps _ (hm i hi)).1 hp).1⟩
    · rw [hl] at hi
      rw [hx i hi] at hp ⊢
      obtain ⟨_, h5, h6, h7, h8⟩ := (h.deps _ (hm i hi)).1 hp
      refine ⟨h5, h6, fun e => (h.deps _ (hm i hi)).2 hp (by rw [← e]; rfl), h7, h8⟩
    · rw [hl] at hi hj
      rw [hx i hi] at hp
      rw [hx j hj] at hq
      by_cases h1 : i < j
      · exact absurd e (pairwise_getD h.apart i j h1 hj hp hq)
      · by_cases h2 : j < i
        · exact absurd e.symm (pairwise_getD h.apart j i h2 hi hq hp)
        · omega

set_option maxRecDepth 100000 in
theorem oneG_cells (w : World) (t : Nat) (e : EnG) : ∀ j u, (wrValsG e)[j]? = some u → (w.alloc (.cells #[.int .i64 e.x.k, .int .i64 e.x.c, .int .i64 e.x.s, .int .i64 e.x.q, .int .i64 e.x.v, .bool e.x.de, .slice e.a e.x.xs.length e.cp] t)).cell? ((⟨w.heap.size, 0, none⟩ : Addr).add j) = some u := by
  intro j u hu
  have e1 : (⟨w.heap.size, 0, none⟩ : Addr).add j = ⟨w.heap.size, j, none⟩ := by
    unfold Addr.add
    split
    · rename_i h
      rw [h]
    · simp
  rw [e1, cell_of_row _ _ j _ t (0, 0) (heap_alloc_new w _), ← hu]
  simp [wrValsG]

set_option maxRecDepth 100000 in
/-- One write of a slice, in a later world; its dependencies in the world of the slice. -/
theorem IsWs.base {w w' : World} {a : Option Addr} {ws : List Wr} (h : IsWs w a ws) (hb : Below w.heap.size w w') {k n : Nat} (hn : ws.length = n) (hk : k < n) :
    ∃ b o a' cap, a = some ⟨b, o, none⟩ ∧ b < w'.heap.size ∧ WrAt w' b (o + k * 7) (ws.getD k wz) a' cap ∧ IsDeps w a' (ws.getD k wz).xs := by
  rcases h with h | ⟨b, o, ha, hlt, hh⟩
  · subst h
    simp at hn
    omega
  · obtain ⟨a', cap, h1, _, h3⟩ := hh k (by omega)
    exact ⟨b, o, a', cap, ha, Nat.lt_of_lt_of_le hlt hb.size, h1.of_block (hb.block _ hlt), h3⟩

end Go.Proofs.Ytidpcjcnhklmpaj

/- slices.SortFunc over writes, the latest tag first. -/
namespace Go.Proofs.Ytidpcjcnhklmpaj
open Go.ChangeShapes Go.WideShapes Go.ChangeAt Go.RowKit Go.Joins
attribute [local go_sem ↓] Go.wp_at_zero Go.wp_at_succ

/-- By tags, the latest first. -/
def laterC (x y : EnG) : Int := tcmp y.x.c y.x.s y.x.q x.x.c x.x.s x.x.q

/-- The row's cells hold these writes. -/
def HoldsE (w : World) (g : Nat) (es : List EnG) : Prop := @Go.Sort.HoldsK EnG ⟨ezG⟩ wrValsG 7 w g 0 es.toArray

theorem tcmp_ntrans {c s q c' s' q' c2 s2 q2 : Int} (h : 0 ≤ tcmp c s q c' s' q') (h' : 0 ≤ tcmp c' s' q' c2 s2 q2) : 0 ≤ tcmp c s q c2 s2 q2 := by
  have t := tcmp_three c2 s2 q2 c' s' q' c s q
  rw [tcmp_neg c' s' q' c2 s2 q2, tcmp_neg c s q c' s' q', tcmp_neg c s q c2 s2 q2] at t
  rcases t.on (by omega) (by omega) with h1 | h1 <;> omega

theorem laterC_swo : Go.Sort.SWO (Go.Proofs.ltOf laterC) where
  irrefl x := by
    unfold Go.Proofs.ltOf laterC
    rw [tcmp_self]
    rfl
  trans x y z h1 h2 := by
    unfold Go.Proofs.ltOf laterC at *
    rw [decide_eq_true_eq] at *
    rcases (tcmp_three z.x.c z.x.s z.x.q y.x.c y.x.s y.x.q x.x.c x.x.s x.x.q).on (by omega) (by omega) with h | h <;> omega
  ntrans x y z h1 h2 := by
    unfold Go.Proofs.ltOf laterC at *
    rw [decide_eq_false_iff_not] at *
    have := tcmp_ntrans (Int.not_lt.1 h2) (Int.not_lt.1 h1)
    omega

set_option maxHeartbeats 1000000 in
theorem laterF_any (x y : EnG) (w : World) :
    Calls Try.prog 91 #[.agg (wrValsG x).toArray, .agg (wrValsG y).toArray] w fun e w' => e = .returned (.int .i64 (laterC x y)) ∧ Laid w w' := by
  obtain ⟨⟨xk, xc, xs', xq, xv, xd, xx⟩, xa, xg, xcp⟩ := x
  obtain ⟨⟨yk, yc, ys, yq, yv, yd, yy⟩, ya, yg, ycp⟩ := y
  unfold laterC wrValsG
  simp only
  have HL : Hid (Laid w ((w.alloc (.cells #[.int .i64 xk, .int .i64 xc, .int .i64 xs', .int .i64 xq, .int .i64 xv, .bool xd, .slice xa xx.length xcp] 52)).alloc (.cells #[.int .i64 yk, .int .i64 yc, .int .i64 ys, .int .i64 yq, .int .i64 yv, .bool yd, .slice ya yy.length ycp] 52))) := ((Laid.refl _).alloc _).alloc _
  go_enter Try.func91, Try.ntmps91
  go_wp2_with fail
  refine (lTagCmp_any _ _ _ _ _ _ _).mono ?_
  rintro e w1 ⟨rfl, hl⟩
  have HL1 := Lib.hid (HL.out.trans hl)
  clear hl HL
  go_wp2
  go_ret
  exact ⟨rfl, HL1.out⟩

theorem grown_sorted (w : World) (g n : Nat) (d : Array EnG) (os : Array Obj) : w.grownBy (@sortWorldK EnG ⟨ezG⟩ wrValsG 7 w g 0 n d os) (some g) := by
  refine ⟨rfl, rfl, rfl, @size_sortWorldK_c EnG ⟨ezG⟩ wrValsG 7 w g 0 n d os, fun k hk hne => ?_⟩
  unfold sortWorldK
  rw [Go.Sort.heap_grow_old _ _ (by rw [@Go.Sort.size_putRowK EnG ⟨ezG⟩]; exact hk)]
  have : g ≠ k := fun e => hne (by rw [e])
  simp [Go.Sort.putRowK, Go.Sort.putRow, Go.Sort.mapBlock, Go.Sort.ahead, Array.getElem?_modify, this]

theorem sorted_pair {es : List EnG} (h : ∀ i j, i < j → j < es.length → 0 ≤ tcmp (es.getD i ezG).x.c (es.getD i ezG).x.s (es.getD i ezG).x.q (es.getD j ezG).x.c (es.getD j ezG).x.s (es.getD j ezG).x.q) : es.Pairwise fun x y => 0 ≤ tcmp x.x.c x.x.s x.x.q y.x.c y.x.s y.x.q := by
  rw [List.pairwise_iff_getElem]
  intro i j hi hj hij
  have := h i j hij hj
  simpa [List.getD, hi, hj] using this

theorem sortW_any (g n cap : Nat) (es : List EnG) (w : World) (hn : es.length = n) (hm : n ≤ 2097152) (hg : g < w.heap.size) (hH : HoldsE w g es) :
    Calls Try.prog 90 #[.slice (some ⟨g, 0, none⟩) n cap, .func (.func 91) #[] #[]] w fun e w' => e = .returned (.tuple #[]) ∧ ∃ es' : List EnG, es'.Perm es ∧ (es'.Pairwise fun x y => 0 ≤ tcmp x.x.c x.x.s x.x.q y.x.c y.x.s y.x.q) ∧ HoldsE w' g es' ∧ w.grownBy w' (some g) := by
  have eg : ∀ args w, (callFunc 91 args).run Try.prog w = .ok (.enter 91 args) w := enters_of Try.func91 (by kernel_rfl) rfl
  have hs : es.toArray.size = n := by simpa using hn
  have hc : @CmpLays EnG ⟨ezG⟩ Try.prog 91 #[] wrValsG 7 laterC g 0 es.toArray.size w := fun m os dk _ x y => by
    have := laterF_any x y (@sortWorldK EnG ⟨ezG⟩ wrValsG 7 w g 0 m dk os)
    simpa [Laid] using this
  have hcon := @AnyQ.slices_SortFunc Try.prog _ EnG ⟨ezG⟩ Try.sortW 7 Try.isAgg52 Try.sizeOf52 wrValsG (fun _ => rfl) (fun x v hv => valsG_one [x] v (by simpa using hv)) laterC laterC_swo 91 #[] g 0 cap es.toArray w eg hc hH hg (by rw [hs]; omega)
  rw [hs] at hcon
  refine Calls.mono (R := fun e w' => e = .returned (.tuple #[]) ∧ ∃ d' n' os, @Go.Sort.PermIn EnG ⟨ezG⟩ 0 n es.toArray d' ∧ @Go.Sort.SortedIn EnG ⟨ezG⟩ (Go.Proofs.ltOf laterC) 0 n d' ∧ w' = @sortWorldK EnG ⟨ezG⟩ wrValsG 7 w g 0 n' d' os) hcon ?_
  rintro e w' ⟨rfl, d', n', os, ⟨hp1, -, hp3⟩, hso, rfl⟩
  have hd : d'.size = n := by rw [hp1]; exact hs
  refine ⟨rfl, d'.toList, ?_, ?_, ?_, grown_sorted w g n' d' os⟩
  · have e1 : d'.extract 0 n = d' := by rw [← hd]; simp
    have e2 : es.toArray.extract 0 n = es.toArray := by rw [← hs]; simp
    rw [e1, e2] at hp3
    exact hp3
  · refine sorted_pair fun i j hij hj => ?_
    have hj' : j < d'.size := by simpa using hj
    have h := hso i j (Nat.zero_le _) hij (by omega)
    unfold Go.Proofs.ltOf laterC at h
    rw [decide_eq_false_iff_not, Int.not_lt] at h
    have gi : @getElem! (Array EnG) Nat EnG _ _ ⟨ezG⟩ d' i = d'.toList.getD i ezG := by
      rw [@getElem!_pos _ _ _ _ _ _ ⟨ezG⟩ d' i (by omega)]
      simp [List.getD, show i < d'.size by omega]
    have gj : @getElem! (Array EnG) Nat EnG _ _ ⟨ezG⟩ d' j = d'.toList.getD j ezG := by
      rw [@getElem!_pos _ _ _ _ _ _ ⟨ezG⟩ d' j (by omega)]
      simp [List.getD, hj']
    rw [gi, gj] at h
    exact h
  · exact @holdsK_sortWorldK_c EnG ⟨ezG⟩ wrValsG 7 w g 0 es.toArray d' n' os hH hg (by rw [hd, hs])

end Go.Proofs.Ytidpcjcnhklmpaj

/- Six rows of writes that grow, a row a key; what they are behind an append and a store. -/
namespace Go.Proofs.Ytidpcjcnhklmpaj
open Go.ChangeShapes Go.WideShapes Go.ChangeAt Go.RowKit Go.Joins

def updF {α : Type} (f : Nat → α) (k : Nat) (x : α) : Nat → α := fun i => if i = k then x else f i

theorem updF_at {α : Type} (f : Nat → α) (k : Nat) (x : α) : updF f k x k = x := if_pos rfl

theorem updF_off {α : Type} (f : Nat → α) {k i : Nat} (x : α) (h : i ≠ k) : updF f k x i = f i := if_neg h

/-- Six rows of writes of one's own; their dependencies lie in the world w0. -/
structure SixR (w0 w : World) (base : Nat) (V : Nat → Value) (E : Nat → List EnG) : Prop where
  own : ∀ k, k < 6 → w.ownsRow base 52 7 (V k) (E k).length ((E k).flatMap wrValsG)
  deps : ∀ k, k < 6 → ∀ e ∈ E k, IsDeps w0 e.a e.x.xs ∧ e.x.xs.length ≤ 1048576
  apart : ∀ i j, i < 6 → j < 6 → i ≠ j → ∀ b, (V i).ownBlock = some b → (V j).ownBlock ≠ some b

/-- The cells of block A hold the six slices. -/
structure SixA (w : World) (A : Nat) (V : Nat → Value) : Prop where
  lt : A < w.heap.size
  cells : CellsAre w A 6 V
  nf : ∀ o, w.frozen? ⟨A, o, none⟩ = false
  off : ∀ k, k < 6 → (V k).ownBlock ≠ some A

theorem SixR.below {w0 w w' : World} {base : Nat} {V : Nat → Value} {E : Nat → List EnG} (h : SixR w0 w base V E) (hb : Below w.heap.size w w') : SixR w0 w' base V E where
  own k hk := (h.own k hk).kept (row := none) (grown_of_below hb none) (by
    by_cases e : (V k).ownBlock = none
    · exact .inl e
    · exact .inr e)
  deps := h.deps
  apart := h.apart

theorem SixA.below {w w' : World} {A : Nat} {V : Nat → Value} (h : SixA w A V) (hb : Below w.heap.size w w') : SixA w' A V where
  lt := Nat.lt_of_lt_of_le h.lt hb.size
  cells := h.cells.of_block (hb.block A h.lt)
  nf o := (frozen_of_block (hb.block A h.lt)).trans (h.nf o)
  off := h.off

/-- One write more, in the row j. -/
theorem six_put {w0 W w4 : World} {base A j g3 cp3 : Nat} {V : Nat → Value} {E : Nat → List EnG} {e : EnG} (hj : j < 6) (h : SixR w0 W base V E) (hA : SixA W A V) (he : IsDeps w0 e.a e.x.xs ∧ e.x.xs.length ≤ 1048576) (hG : W.grownBy w4 (V j).ownBlock)
    (hrow : w4.ownsRow base 52 7 (.slice (some ⟨g3, 0, none⟩) ((E j).length + 1) cp3) ((E j).length + 1) ((E j).flatMap wrValsG ++ wrValsG e)) (hg3 : (V j).ownBlock = some g3 ∨ W.heap.size ≤ g3) :
    SixR w0 (w4.setCell ⟨A, j, none⟩ (.slice (some ⟨g3, 0, none⟩) ((E j).length + 1) cp3)) base (updF V j (.slice (some ⟨g3, 0, none⟩) ((E j).length + 1) cp3)) (updF E j (E j ++ [e])) ∧ SixA (w4.setCell ⟨A, j, none⟩ (.slice (some ⟨g3, 0, none⟩) ((E j).length + 1) cp3)) A (updF V j (.slice (some ⟨g3, 0, none⟩) ((E j).length + 1) cp3)) := by
  have hA4 : w4.heap[A]? = W.heap[A]? := hG.block A hA.lt (fun e => hA.off j hj e.symm)
  have hgA : g3 ≠ A := fun e => by
    rcases hg3 with h1 | h1
    · exact hA.off j hj (by rw [h1, e])
    · have := hA.lt
      omega
  have hnew : ∀ i, i < 6 → i ≠ j → (V i).ownBlock ≠ some g3 := fun i hi hne e => by
    rcases hg3 with h1 | h1
    · exact h.apart i j hi hj hne g3 e h1
    · have := ((h.own i hi).lt g3 e).2
      omega
  constructor
  · constructor
    · intro k hk
      by_cases e1 : k = j
      · subst e1
        rw [updF_at, updF_at]
        have h1 := World.ownsRow.kept hrow (grown_set w4 A k _) (.inr (by simpa [Value.ownBlock] using hgA)) (w' := w4.setCell ⟨A, k, none⟩ (.slice (some ⟨g3, 0, none⟩) ((E k).length + 1) cp3))
        rw [List.length_append, List.flatMap_append]
        simpa using h1
      · rw [updF_off _ _ e1, updF_off _ _ e1]
        refine ((h.own k hk).kept hG ?_).kept (grown_set w4 A j _) (.inr (hA.off k hk))
        by_cases e2 : (V k).ownBlock = none
        · exact .inl e2
        · refine .inr fun e3 => ?_
          cases hb : (V k).ownBlock with
          | none => exact e2 hb
          | some b => exact h.apart k j hk hj e1 b hb (by rw [← e3, hb])
    · intro k hk d hd
      by_cases e1 : k = j
      · subst e1
        rw [updF_at] at hd
        rcases List.mem_append.1 hd with hd | hd
        · exact h.deps k hk d hd
        · have : d = e := by simpa using hd
          rw [this]
          exact he
      · rw [updF_off _ _ e1] at hd
        exact h.deps k hk d hd
    · intro i k hi hk hne b hb
      by_cases e1 : i = j
      · subst e1
        rw [updF_at] at hb
        rw [updF_off _ _ (fun e => hne e.symm)]
        have : g3 = b := by simpa [Value.ownBlock] using hb
        rw [← this]
        exact hnew k hk (fun e => hne e.symm)
      · rw [updF_off _ _ e1] at hb
        by_cases e2 : k = j
        · subst e2
          rw [updF_at]
          intro e3
          have : g3 = b := by simpa [Value.ownBlock] using e3
          rw [← this] at hb
          exact hnew i hi e1 hb
        · rw [updF_off _ _ e2]
          exact h.apart i k hi hk hne b hb
  · constructor
    · have h1 := hG.size
      have h2 := hA.lt
      simp
      omega
    · exact (hA.cells.of_block hA4).set hj _
    · intro o
      rw [World.frozen?_setCell]
      exact (frozen_of_block hA4).trans (hA.nf o)
    · intro k hk
      by_cases e1 : k = j
      · subst e1
        rw [updF_at]
        simpa [Value.ownBlock] using hgA
      · rw [updF_off _ _ e1]
        exact hA.off k hk

/-- One write, in a new block. -/
def WrNew (ob : Option Nat) (e : EnG) : Fact := fun v w => ∃ g', v = .slice (some ⟨g', 0, none⟩) 1 1 ∧ g' < w.heap.size ∧ ob ≠ some g' ∧ ∀ j u, (wrValsG e)[j]? = some u → w.cell? ((⟨g', 0, none⟩ : Addr).add j) = some u

theorem lasts_wrNew (U : Tmp → Option Tmp) (s : Tmp) (dst : Option Tmp) (ob : Option Nat) (e : EnG) : lastsU U (AppS s ob) dst (WrNew ob e) := by
  rintro d' _ _ v w w' ⟨g', h1, h2, h3, h4⟩ hr
  have hr' := appS_any hr
  have hb := hr'.block g' h2 (fun e => h3 e.symm)
  refine ⟨g', h1, Nat.lt_of_lt_of_le h2 hr'.size, h3, fun j u hu => ?_⟩
  have := h4 j u hu
  rw [add_block] at this ⊢
  exact (World.cell?_of_block (a := ⟨g', j, none⟩) hb).trans this

/-- The row with one write more. -/
def WrRow (base B o : Nat) (ob : Option Nat) (xs : List Value) : Fact := fun v w => ∃ g3 cp3, v = .slice (some ⟨g3, 0, none⟩) (o + 1) cp3 ∧ w.ownsRow base 52 7 (.slice (some ⟨g3, 0, none⟩) (o + 1) cp3) (o + 1) xs ∧ (ob = some g3 ∨ B ≤ g3)

theorem lasts_wrRow (U : Tmp → Option Tmp) (s : Tmp) (ob : Option Nat) (base B o : Nat) (xs : List Value) : lastsU U (AppS s ob) (some s) (WrRow base B o ob xs) := by
  rintro d' hd _ v w w' ⟨g3, cp3, h1, h2, h3⟩ hr
  exact ⟨g3, cp3, h1, h2.kept (row := none) (grown_of_below (appS_below hd hr) none) (.inr (by simp [Value.ownBlock])), h3⟩

theorem ownsRow_below {w w' : World} {base t sz n : Nat} {v : Value} {xs : List Value} (h : w.ownsRow base t sz v n xs) (hb : Below w.heap.size w w') : w'.ownsRow base t sz v n xs :=
  h.kept (row := none) (grown_of_below hb none) (by
    by_cases e : v.ownBlock = none
    · exact .inl e
    · exact .inr e)

end Go.Proofs.Ytidpcjcnhklmpaj

/- The contract of impl.latestFirst: of each key its writes, the latest first. -/
namespace Go.Proofs.Ytidpcjcnhklmpaj
open Go.ChangeShapes Go.WideShapes Go.ChangeAt Go.RowKit Go.Joins
attribute [local go_sem ↓] Go.wp_at_zero Go.wp_at_succ

abbrev six (V : Nat → Value) : Array Value := #[V 0, V 1, V 2, V 3, V 4, V 5]

def nilS : Nat → Value := fun _ => .slice none 0 0

def ofKey (ws : List Wr) (k : Nat) : List Wr := ws.filter fun x => x.k == (k : Int)

theorem six_start (w0 w : World) (base A : Nat) (o : Obj) (hA : w.heap.size = A) (ho : o = .cells (six nilS) 99) : SixR w0 (w.alloc o) base nilS (fun _ => []) ∧ SixA (w.alloc o) A nilS := by
  subst ho hA
  refine ⟨⟨fun k _ => World.ownsRow_nil _ _ _ _, fun k _ e he => by simp at he, fun i j _ _ _ b hb => by simp [nilS, Value.ownBlock] at hb⟩, ⟨by simp, fun k hk => ?_, fun o => frozen_of_row _ _ o _ _ (heap_alloc_new w _), fun k _ => by simp [nilS, Value.ownBlock]⟩⟩
  rw [cell_of_row _ _ k _ _ (0, 0) (heap_alloc_new w _)]
  match k, hk with
  | 0, _ => rfl
  | 1, _ => rfl
  | 2, _ => rfl
  | 3, _ => rfl
  | 4, _ => rfl
  | 5, _ => rfl

theorem ofKey_take {ws : List Wr} {k j : Nat} (hk : k < ws.length) (hj : (ws.getD k wz).k = (j : Int)) (i : Nat) : ofKey (ws.take (k + 1)) i = if i = j then ofKey (ws.take k) i ++ [ws.getD k wz] else ofKey (ws.take k) i := by
  unfold ofKey
  have e : ws.take (k + 1) = ws.take k ++ [ws.getD k wz] := by
    rw [List.take_add_one, List.getElem?_eq_getElem hk]
    simp [List.getD, hk]
  rw [e, List.filter_append]
  generalize ws.getD k wz = x at *
  by_cases h : i = j
  · rw [if_pos h]
    have : (x.k == (i : Int)) = true := by rw [hj, h]; simp
    simp [this]
  · rw [if_neg h]
    have : (x.k == (i : Int)) = false := by
      rw [hj, beq_eq_false_iff_ne]
      omega
    simp [this]

theorem ofKey_len (ws : List Wr) (k j : Nat) : (ofKey (ws.take k) j).length ≤ k := by
  unfold ofKey
  have h1 := List.length_filter_le (fun x : Wr => x.k == (j : Int)) (ws.take k)
  have h2 : (ws.take k).length ≤ k := by simp; omega
  omega

theorem startL_eq (us vs : List Wr) (k : Nat) : startL us vs k = (ofKey us k).map strip ++ ofKey vs k := rfl

/-- The box of a write of which the first four cells are read, and the cell of its key's row, while the row grows. -/
theorem put_cells {W : World} {A B j : Nat} {V : Nat → Value} (hA : SixA W A V) (hj : j < 6) (hB : B < W.heap.size) (hob : (V j).ownBlock ≠ some B) {x0 x1 x2 x3 x4 x5 x6 : Value} (h0 : W.cell? ⟨B, 0, none⟩ = some x0) (h1 : W.cell? ⟨B, 1, none⟩ = some x1) (h2 : W.cell? ⟨B, 2, none⟩ = some x2) (h3 : W.cell? ⟨B, 3, none⟩ = some x3) (h4 : W.cell? ⟨B, 4, none⟩ = some x4) (h5 : W.cell? ⟨B, 5, none⟩ = some x5) (h6 : W.cell? ⟨B, 6, none⟩ = some x6) :
    ∀ w', W.grownBy w' (V j).ownBlock → w'.cell? ⟨B, 0, none⟩ = some x0 ∧ w'.cell? ⟨B, 1, none⟩ = some x1 ∧ w'.cell? ⟨B, 2, none⟩ = some x2 ∧ w'.cell? ⟨B, 3, none⟩ = some x3 ∧ w'.cell? ⟨B, 4, none⟩ = some x4 ∧ w'.cell? ⟨B, 5, none⟩ = some x5 ∧ w'.cell? ⟨B, 6, none⟩ = some x6 ∧ w'.cell? ⟨A, j, none⟩ = some (V j) := fun w' hG => by
  have hb := hG.block B hB (fun e => hob e.symm)
  have ha := hG.block A hA.lt (fun e => hA.off j hj e.symm)
  have c : ∀ o, w'.cell? ⟨B, o, none⟩ = W.cell? ⟨B, o, none⟩ := fun o => World.cell?_of_block (a := ⟨B, o, none⟩) hb
  exact ⟨(c _).trans h0, (c _).trans h1, (c _).trans h2, (c _).trans h3, (c _).trans h4, (c _).trans h5, (c _).trans h6, (World.cell?_of_block (a := ⟨A, j, none⟩) ha).trans (hA.cells j hj)⟩

/-- The box of the result, as it was made. -/
def RBox (w : World) (R : Nat) : Prop := R < w.heap.size ∧ CellsAre w R 6 nilS ∧ ∀ o, w.frozen? ⟨R, o, none⟩ = false

theorem RBox.of_block {w w' : World} {R : Nat} (h : RBox w R) (hs : w.heap.size ≤ w'.heap.size) (hb : w'.heap[R]? = w.heap[R]?) : RBox w' R :=
  ⟨Nat.lt_of_lt_of_le h.1 hs, h.2.1.of_block hb, fun o => (frozen_of_block hb).trans (h.2.2 o)⟩

theorem RBox.below {w w' : World} {R : Nat} (h : RBox w R) (hb : Below w.heap.size w w') : RBox w' R := h.of_block hb.size (hb.block R h.1)

theorem rbox_start (w : World) (o : Obj) (ho : o = .cells (six nilS) 99) : RBox (w.alloc o) w.heap.size :=
  ⟨(six_start w w 0 _ o rfl ho).2.lt, (six_start w w 0 _ o rfl ho).2.cells, (six_start w w 0 _ o rfl ho).2.nf⟩

/-- .. behind an append and a store. -/
theorem RBox.put {W w4 : World} {R A base j : Nat} {V : Nat → Value} {E : Nat → List EnG} {w0 : World} (h : RBox W R) (hj : j < 6) (hR : SixR w0 W base V E) (hb : R < base) (hA : A ≠ R) (hG : W.grownBy w4 (V j).ownBlock) (v : Value) : RBox (w4.setCell ⟨A, j, none⟩ v) R := by
  have h1 : RBox w4 R := h.of_block hG.size (hG.block R h.1 fun e => by have := ((hR.own j hj).lt R e.symm).1; omega)
  exact h1.of_block (by simp) ((grown_set w4 A j v).block R h1.1 (by simpa using Ne.symm hA))

theorem HoldsE.of_block {w w' : World} {g : Nat} {es : List EnG} (h : HoldsE w g es) (hb : w'.heap[g]? = w.heap[g]?) : HoldsE w' g es := fun j hj => by
  obtain ⟨h1, h2⟩ := h j hj
  exact ⟨(World.cell?_of_block (a := ⟨g, 0 + j, none⟩) hb).trans h1, (frozen_of_block hb).trans h2⟩

theorem get_es (es : List EnG) {i : Nat} (h : i < es.length) : @getElem! (Array EnG) Nat EnG _ _ ⟨ezG⟩ es.toArray i = es.getD i ezG := by
  rw [@getElem!_pos _ _ _ _ _ _ ⟨ezG⟩ es.toArray i (by simpa using h)]
  simp [List.getD, h]

theorem vals_bang (e : EnG) {c : Nat} (h : c < 7) : (wrValsG e)[c]? = some (wrValsG e)[c]! := by
  match c, h with
  | 0, _ => rfl
  | 1, _ => rfl
  | 2, _ => rfl
  | 3, _ => rfl
  | 4, _ => rfl
  | 5, _ => rfl
  | 6, _ => rfl

theorem holdsE_of_own {w : World} {base g n cap : Nat} {es : List EnG} (h : w.ownsRow base 52 7 (.slice (some ⟨g, 0, none⟩) n cap) n (es.flatMap wrValsG)) (hn : es.length = n) : HoldsE w g es := by
  intro t ht
  have ht' : t < es.length * 7 := by simpa using ht
  rw [Nat.zero_add]
  refine ⟨?_, h.frozenAt t⟩
  have hd : t / 7 < es.length := by omega
  have hm : t % 7 < 7 := by omega
  rw [h.cellAt t (by omega)]
  show _ = some (@getElem! (Array Value) Nat Value _ _ _ (@Go.Sort.flatK EnG ⟨ezG⟩ wrValsG 7 es.toArray) t)
  rw [@Go.Sort.get_flatK EnG ⟨ezG⟩ wrValsG 7 es.toArray t (by simpa using ht'), get_es es hd]
  have e := valsG_at es (t / 7) (t % 7) hd hm
  rw [show t / 7 * 7 + t % 7 = t by omega] at e
  rw [e, vals_bang _ hm]

theorem holdsE_isWs {w : World} {g : Nat} {es : List EnG} (h : HoldsE w g es) (hg : g < w.heap.size) (hd : ∀ e ∈ es, IsDeps w e.a e.x.xs ∧ e.x.xs.length ≤ 1048576) : IsWs w (some ⟨g, 0, none⟩) (es.map (·.x)) := by
  refine .inr ⟨g, 0, rfl, hg, fun i hi => ?_⟩
  have hi' : i < es.length := by simpa using hi
  have hx : (es.map (·.x)).getD i wz = (es.getD i ezG).x := by simp [List.getD, hi']
  have hm : es.getD i ezG ∈ es := by simp [List.getD, hi']
  rw [hx]
  have c : ∀ c, c < 7 → w.cell? ⟨g, 0 + i * 7 + c, none⟩ = (wrValsG (es.getD i ezG))[c]? := fun c hc => by
    have := (@Go.Sort.HoldsK.cell EnG ⟨ezG⟩ wrValsG 7 w g 0 es.toArray h i c (by simpa using hi') hc).1
    rw [this, get_es es hi', vals_bang _ hc]
  have hl : (es.getD i ezG).x.xs.length ≤ maxLen := by have := (hd _ hm).2; unfold maxLen; omega
  exact ⟨_, _, ⟨c 0 (by omega), c 1 (by omega), c 2 (by omega), c 3 (by omega), c 4 (by omega), c 5 (by omega), c 6 (by omega)⟩, hl, (hd _ hm).1⟩

/-- A row to be sorted. -/
def RowS (w : World) (v : Value) (es : List EnG) : Prop := (es = [] ∧ ∃ p c, v = .slice p 0 c) ∨ ∃ g c, v = .slice (some ⟨g, 0, none⟩) es.length c ∧ es.length ≤ c ∧ g < w.heap.size ∧ HoldsE w g es

theorem rowS_of_own {w : World} {base : Nat} {v : Value} {es : List EnG} (h : w.ownsRow base 52 7 v es.length (es.flatMap wrValsG)) : RowS w v es := by
  rcases h.2 with ⟨h1, h2⟩ | ⟨g, cap, cur, h1, h2, h3, h4, _⟩
  · exact .inl ⟨List.length_eq_zero_iff.1 h2, none, 0, h1⟩
  · subst h1
    exact .inr ⟨g, cap, rfl, h4, (Array.getElem?_eq_some_iff.1 h3).1, holdsE_of_own h rfl⟩

theorem RowS.grown {w w' : World} {v : Value} {es : List EnG} {ob : Option Nat} (h : RowS w v es) (hg : w.grownBy w' ob) (hv : ∀ b, v.ownBlock = some b → ob ≠ some b) : RowS w' v es := by
  rcases h with h | ⟨g, c, h1, h0, h2, h3⟩
  · exact .inl h
  · exact .inr ⟨g, c, h1, h0, Nat.lt_of_lt_of_le h2 hg.size, h3.of_block (hg.block g h2 fun e => hv g (by rw [h1]; rfl) e.symm)⟩

def sP : Value → Option Addr
  | .slice p _ _ => p
  | _ => none

def sC : Value → Nat
  | .slice _ _ c => c
  | _ => 0

theorem RowS.form {w : World} {v : Value} {es : List EnG} (h : RowS w v es) : v = .slice (sP v) es.length (sC v) := by
  rcases h with ⟨rfl, p, c, rfl⟩ | ⟨g, c, rfl, _⟩
  · rfl
  · rfl

theorem RowS.le {w : World} {v : Value} {es : List EnG} (h : RowS w v es) : es.length ≤ sC v := by
  rcases h with ⟨rfl, p, c, rfl⟩ | ⟨g, c, rfl, h1, _⟩
  · exact Nat.zero_le _
  · exact h1

theorem RowS.isWs {w : World} {v : Value} {es : List EnG} (h : RowS w v es) (hd : ∀ e ∈ es, IsDeps w e.a e.x.xs ∧ e.x.xs.length ≤ 1048576) : IsWs w (sP v) (es.map (·.x)) := by
  rcases h with ⟨rfl, p, c, rfl⟩ | ⟨g, c, rfl, -, h2, h3⟩
  · exact .inl rfl
  · exact holdsE_isWs h3 h2 hd

theorem six_at (V : Nat → Value) {k : Nat} (h : k < 6) : (six V)[k]? = some (V k) := by
  match k, h with
  | 0, _ => rfl
  | 1, _ => rfl
  | 2, _ => rfl
  | 3, _ => rfl
  | 4, _ => rfl
  | 5, _ => rfl

theorem run_index6 (V : Nat → Value) {q : Nat} (h : q < 6) (v : Value) (hv : V q = v) (w : World) : (Instr.index 99 (.agg #[V 0, V 1, V 2, V 3, V 4, V 5]) (.int .i64 (q : Int))).run Try.prog w = .ok v w := by
  have hix : [V 0, V 1, V 2, V 3, V 4, V 5][q]? = some v := by
    rw [← hv]
    have := six_at V h
    simpa using this
  simp [Instr.index, go_sem, Go.part, Try.isAgg26, Try.sizeOf26, h]
  exact (List.getElem?_eq_some_iff.1 hix).2

theorem six_congr {V V' : Nat → Value} (h : ∀ k, k < 6 → V k = V' k) : six V = six V' := by
  unfold six
  rw [h 0 (by omega), h 1 (by omega), h 2 (by omega), h 3 (by omega), h 4 (by omega), h 5 (by omega)]

end Go.Proofs.Ytidpcjcnhklmpaj

/- slices.SortFunc over no writes. -/
namespace Go.Proofs.Ytidpcjcnhklmpaj
open Go.ChangeShapes Go.WideShapes Go.ChangeAt Go.RowKit Go.Joins

theorem sortN_any (a : Option Addr) (cap : Nat) (w : World) :
    Calls Try.prog 90 #[.slice a 0 cap, .func (.func 91) #[] #[]] w fun e w' => e = .returned (.tuple #[]) ∧ w' = w :=
  AnyF.slices_SortFunc_none Try.sortW a cap _ w

end Go.Proofs.Ytidpcjcnhklmpaj
