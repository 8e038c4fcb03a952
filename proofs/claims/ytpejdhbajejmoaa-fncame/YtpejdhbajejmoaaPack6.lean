import Derived.Test.YtpejdhbajejmoaaPack5
import Derived.Lib.Hide
import Derived.Test.YtpejdhbajejmoaaPack4
import Derived.Test.YtpejdhbajejmoaaPack1
import Derived.Deep.AppendLies
import Derived.OwnWalk
import Derived.Deep.Upon
import Derived.Laws.NewBlocks
import Derived.Deep.AppendSrc
/- Lists of posts in memory; the contracts of szPostS, toPostS, eqPostS. -/
namespace Go.Proofs.Ytpejdhbajejmoaa
open Go.ChangeShapes Go.WideShapes Go.ChangeAt Go.RowKit Go.Joins
attribute [local go_sem ↓] Go.wp_at_zero Go.wp_at_succ

structure Pst where
  f : Int
  xs : List Int
  y : Int

def pz : Pst := ⟨0, [], 0⟩

/-- A post's cells from place o of block b on, its numbers at a. -/
def PstAt (w : World) (b o : Nat) (x : Pst) (a : Option Addr) (cap : Nat) : Prop :=
  w.cell? ⟨b, o, none⟩ = some (.int .i64 x.f) ∧ w.cell? ⟨b, o + 1, none⟩ = some (.slice a x.xs.length cap) ∧ w.cell? ⟨b, o + 2, none⟩ = some (.int .i64 x.y)

theorem PstAt.of_block {w w' : World} {b o : Nat} {x : Pst} {a : Option Addr} {cap : Nat} (h : PstAt w b o x a cap) (hb : w'.heap[b]? = w.heap[b]?) : PstAt w' b o x a cap := by
  obtain ⟨h0, h1, h2⟩ := h
  have e : ∀ i, w'.cell? ⟨b, i, none⟩ = w.cell? ⟨b, i, none⟩ := fun i => World.cell?_of_block (a := ⟨b, i, none⟩) hb
  exact ⟨(e _).trans h0, (e _).trans h1, (e _).trans h2⟩

/-- What a slice of posts leads to, wherever its posts' numbers lie. -/
def IsPs (w : World) (a : Option Addr) (ps : List Pst) : Prop :=
  ps = [] ∨ ∃ b o, a = some ⟨b, o, none⟩ ∧ b < w.heap.size ∧ ∀ i, i < ps.length → ∃ a' cap, PstAt w b (o + i * 3) (ps.getD i pz) a' cap ∧ (ps.getD i pz).xs.length ≤ maxLen ∧ IsIs w a' (ps.getD i pz).xs

theorem IsPs.below {w w' : World} {a : Option Addr} {ps : List Pst} (h : IsPs w a ps) (hb : Below w.heap.size w w') : IsPs w' a ps := by
  rcases h with h | ⟨b, o, ha, hlt, hh⟩
  · exact .inl h
  · refine .inr ⟨b, o, ha, Nat.lt_of_lt_of_le hlt hb.size, fun i hi => ?_⟩
    obtain ⟨a', cap, h1, h2, h3⟩ := hh i hi
    exact ⟨a', cap, h1.of_block (hb.block _ hlt), h2, h3.below hb⟩

/-- How much a list of posts is: the numbers of its posts. -/
def bulkP : List Pst → Nat
  | [] => 0
  | x :: r => x.xs.length + bulkP r

theorem bulkP_take (ps : List Pst) (k : Nat) (h : k < ps.length) : bulkP (ps.take (k + 1)) = bulkP (ps.take k) + (ps.getD k pz).xs.length := by
  induction ps generalizing k with
  | nil => simp at h
  | cons x r ih =>
    cases k with
    | zero => simp [bulkP]
    | succ k =>
      have := ih k (by simpa using h)
      simp only [List.take_succ_cons, bulkP, List.getD_cons_succ] at this ⊢
      omega

theorem bulkP_one (ps : List Pst) (k : Nat) (h : k < ps.length) : (ps.getD k pz).xs.length ≤ bulkP ps := by
  induction ps generalizing k with
  | nil => simp at h
  | cons x r ih =>
    cases k with
    | zero => simp [bulkP]
    | succ k =>
      have := ih k (by simpa using h)
      simp only [bulkP, List.getD_cons_succ]
      omega

theorem ps_at {w w' : World} {a : Option Addr} {ps : List Pst} {n : Nat} (h : IsPs w a ps) (hb : Below w.heap.size w w') (hn : ps.length = n) {k : Nat} (hk : k < n) :
    ∃ b o a' cap, a = some ⟨b, o, none⟩ ∧ b < w'.heap.size ∧ PstAt w' b (o + k * 3) (ps.getD k pz) a' cap ∧ (ps.getD k pz).xs.length ≤ maxLen ∧ IsIs w' a' (ps.getD k pz).xs := by
  rcases h.below hb with h | ⟨b, o, ha, hlt, hh⟩
  · subst h
    simp at hn
    omega
  · obtain ⟨a', cap, h1, h2, h3⟩ := hh k (by omega)
    exact ⟨b, o, a', cap, ha, hlt, h1, h2, h3⟩

/-- Cell j of a row of posts. -/
def psCell (ps : List Pst) (γ : Nat → Nat) (j : Nat) : Value :=
  if j % 3 = 0 then .int .i64 (ps.getD (j / 3) pz).f else if j % 3 = 1 then .slice (some ⟨γ (j / 3), 0, none⟩) (ps.getD (j / 3) pz).xs.length (ps.getD (j / 3) pz).xs.length else .int .i64 (ps.getD (j / 3) pz).y

/-- Cell j of a row of zero posts. -/
def zeroP (j : Nat) : Value := if j % 3 = 1 then .slice none 0 0 else .int .i64 0

def psFill (ps : List Pst) (γ : Nat → Nat) (k j : Nat) : Value := if j < k * 3 then psCell ps γ j else zeroP j

def updP (γ : Nat → Nat) (k g : Nat) : Nat → Nat := fun i => if i = k then g else γ i

theorem updP_at (γ : Nat → Nat) (k g : Nat) : updP γ k g k = g := by simp [updP]

theorem updP_off (γ : Nat → Nat) {k i : Nat} (g : Nat) (h : i ≠ k) : updP γ k g i = γ i := by simp [updP, h]

theorem psCell0 (ps : List Pst) (γ : Nat → Nat) (k : Nat) : psCell ps γ (k * 3) = .int .i64 (ps.getD k pz).f := by
  unfold psCell
  rw [if_pos (by omega), show k * 3 / 3 = k by omega]

theorem psCell1 (ps : List Pst) (γ : Nat → Nat) (k : Nat) : psCell ps γ (k * 3 + 1) = .slice (some ⟨γ k, 0, none⟩) (ps.getD k pz).xs.length (ps.getD k pz).xs.length := by
  unfold psCell
  rw [if_neg (by omega), if_pos (by omega), show (k * 3 + 1) / 3 = k by omega]

theorem psCell2 (ps : List Pst) (γ : Nat → Nat) (k : Nat) : psCell ps γ (k * 3 + 2) = .int .i64 (ps.getD k pz).y := by
  unfold psCell
  rw [if_neg (by omega), if_neg (by omega), show (k * 3 + 2) / 3 = k by omega]

theorem psCell_off (ps : List Pst) (γ : Nat → Nat) (k g j : Nat) (h : j < k * 3) : psCell ps (updP γ k g) j = psCell ps γ j := by
  unfold psCell
  rw [updP_off γ g (show j / 3 ≠ k by omega)]

theorem psFill_step (ps : List Pst) (γ : Nat → Nat) (k g j : Nat) :
    (if j = k * 3 + 2 then Value.int .i64 (ps.getD k pz).y else if j = k * 3 + 1 then Value.slice (some ⟨g, 0, none⟩) (ps.getD k pz).xs.length (ps.getD k pz).xs.length else if j = k * 3 then Value.int .i64 (ps.getD k pz).f else psFill ps γ k j) = psFill ps (updP γ k g) (k + 1) j := by
  unfold psFill
  by_cases h2 : j = k * 3 + 2
  · rw [if_pos h2, if_pos (by omega), h2, psCell2]
  rw [if_neg h2]
  by_cases h1 : j = k * 3 + 1
  · rw [if_pos h1, if_pos (by omega), h1, psCell1, updP_at]
  rw [if_neg h1]
  by_cases h0 : j = k * 3
  · rw [if_pos h0, if_pos (by omega), h0, psCell0]
  rw [if_neg h0]
  by_cases hl : j < k * 3
  · rw [if_pos hl, if_pos (by omega), psCell_off _ _ _ _ _ hl]
  · rw [if_neg hl, if_neg (by omega)]

theorem pstAt_of_row {w : World} {b t n : Nat} {ps : List Pst} {γ : Nat → Nat} (h : w.rowIs b t (n * 3) (psFill ps γ n)) {i : Nat} (hi : i < n) : PstAt w b (i * 3) (ps.getD i pz) (some ⟨γ i, 0, none⟩) (ps.getD i pz).xs.length := by
  refine ⟨?_, ?_, ?_⟩
  · rw [h.cell (by omega), psFill, if_pos (by omega), psCell0]
  · rw [h.cell (by omega), psFill, if_pos (by omega), psCell1]
  · rw [h.cell (by omega), psFill, if_pos (by omega), psCell2]

theorem prow_start (w : World) (t n : Nat) (ps : List Pst) (γ : Nat → Nat) : (w.alloc (.cells (madeCells #[.int .i64 0, .slice none 0 0, .int .i64 0] (n * 3)) t)).rowIs w.heap.size t (n * 3) (psFill ps γ 0) := by
  refine ⟨_, Go.Deep.blk_alloc_new _ _, size_madeCells _ _, fun i hi => ?_⟩
  have e : psFill ps γ 0 i = zeroP i := by unfold psFill; rw [if_neg (by omega)]
  rw [e]
  have h3 : i % 3 = 0 ∨ i % 3 = 1 ∨ i % 3 = 2 := by omega
  rcases h3 with h | h | h <;> simp [madeCells, zeroP, hi, h]

abbrev set3 (w : World) (g o : Nat) (x : Pst) (a : Option Addr) (len cap : Nat) : World :=
  ((w.setCell ⟨g, o, none⟩ (.int .i64 x.f)).setCell ⟨g, o + 1, none⟩ (.slice a len cap)).setCell ⟨g, o + 2, none⟩ (.int .i64 x.y)

theorem prow_step {w : World} {b t n : Nat} {ps : List Pst} {γ : Nat → Nat} {k : Nat} (g : Nat) (h : w.rowIs b t n (psFill ps γ k)) :
    (set3 w b (k * 3) (ps.getD k pz) (some ⟨g, 0, none⟩) (ps.getD k pz).xs.length (ps.getD k pz).xs.length).rowIs b t n (psFill ps (updP γ k g) (k + 1)) :=
  (((h.set _ _).set _ _).set _ _).congr (fun j _ => psFill_step ps γ k g j)

theorem below_set3 {B : Nat} {a w : World} {g : Nat} (h : Below B a w) (hg : B ≤ g) (o : Nat) (x : Pst) (ad : Option Addr) (len cap : Nat) : Below B a (set3 w g o x ad len cap) :=
  ((h.setCell (p := ⟨g, o, none⟩) hg _).setCell (p := ⟨g, o + 1, none⟩) hg _).setCell (p := ⟨g, o + 2, none⟩) hg _

theorem set3_block (w : World) (g o : Nat) (x : Pst) (a : Option Addr) (len cap : Nat) {b : Nat} (hb : b ≠ g) : (set3 w g o x a len cap).heap[b]? = w.heap[b]? := by
  unfold set3
  simp only [Below.heap_setCell _ _ _ _ (show b ≠ (⟨g, _, none⟩ : Addr).block from hb)]

theorem infoPst : (Try.prog.info? 33).map (fun i => (i.zero, i.size, i.bytes)) = some (some (postV 0 none 0 0 0), 3, 40) := by kernel_rfl

theorem run_make_ps (n : Nat) (hn : n ≤ 1048576) (w : World) :
    (Instr.makeSlice 24 (.int .i64 (n : Int)) (.int .i64 (n : Int))).run Try.prog w = .ok (.slice (some ⟨w.heap.size, 0, none⟩) n n) (w.alloc (.cells (madeCells #[.int .i64 0, .slice none 0 0, .int .i64 0] (n * 3)) 33)) := by
  obtain ⟨i, hi, hzz⟩ := Option.map_eq_some_iff.1 infoPst
  simp only [Prod.mk.injEq] at hzz
  obtain ⟨hz, hs, hb⟩ := hzz
  have hr := run_make (P := Try.prog) w 24 33 i _ Try.underlying24 hi hz .i64 .i64 n n (by omega) (Int.le_refl _) (by rw [hb]; omega) (by omega)
  simp only [Int.toNat_natCast, hs] at hr
  exact hr

/-- A list of numbers that lies at a block's begin, open. -/
def NumsAt (w : World) (g : Nat) (xs : List Int) : Prop := g < w.heap.size ∧ (∀ i, i < xs.length → w.cell? ⟨g, i, none⟩ = some (.int .i64 (xs.getD i 0))) ∧ ∀ o, w.frozen? ⟨g, o, none⟩ = false

theorem NumsAt.of_block {w w' : World} {g : Nat} {xs : List Int} (h : NumsAt w g xs) (hb : w'.heap[g]? = w.heap[g]?) (hs : g < w'.heap.size) : NumsAt w' g xs :=
  ⟨hs, fun i hi => (World.cell?_of_block (a := ⟨g, i, none⟩) hb).trans (h.2.1 i hi), fun o => (World.frozen?_of_block (a := ⟨g, o, none⟩) hb).trans (h.2.2 o)⟩

/-- The blocks of the numbers of the first k posts: each of its own, behind block B, where there are some. -/
def Rows3 (w : World) (B : Nat) (ps : List Pst) (γ : Nat → Nat) (k : Nat) : Prop :=
  (∀ i, i < k → 0 < (ps.getD i pz).xs.length → B < γ i ∧ NumsAt w (γ i) (ps.getD i pz).xs) ∧ ∀ i j, i < k → j < k → 0 < (ps.getD i pz).xs.length → 0 < (ps.getD j pz).xs.length → γ i = γ j → i = j

theorem Rows3.below {w w' : World} {B : Nat} {ps : List Pst} {γ : Nat → Nat} {k : Nat} (h : Rows3 w B ps γ k) (hb : Below w.heap.size w w') : Rows3 w' B ps γ k :=
  ⟨fun i hi hp => ⟨(h.1 i hi hp).1, (h.1 i hi hp).2.of_block (hb.block _ (h.1 i hi hp).2.1) (Nat.lt_of_lt_of_le (h.1 i hi hp).2.1 hb.size)⟩, h.2⟩

theorem Rows3.step {w w' : World} {B : Nat} {ps : List Pst} {γ : Nat → Nat} {k g lo hi : Nat} (h : Rows3 w B ps γ k) (hb : Below w.heap.size w w') (hB : B < w.heap.size) (hlo : w.heap.size ≤ lo) (ho : OwnI w' lo hi (some ⟨g, 0, none⟩) (ps.getD k pz).xs) (o : Nat) (x : Pst) (a : Option Addr) (len cap : Nat) :
    Rows3 (set3 w' B o x a len cap) B ps (updP γ k g) (k + 1) := by
  have h' := h.below hb
  have hk : 0 < (ps.getD k pz).xs.length → w.heap.size ≤ g ∧ NumsAt w' g (ps.getD k pz).xs := fun hp => by
    rcases ho with h0 | ⟨b, he, h1, h2, h3, h4, h5⟩
    · rw [h0] at hp
      simp at hp
    · injection he with he
      injection he with he
      subst he
      exact ⟨by omega, h3, h4, h5⟩
  have hs : ∀ b, b ≠ B → b < w'.heap.size → ∀ xs, NumsAt w' b xs → NumsAt (set3 w' B o x a len cap) b xs := fun b hb' hs' xs hx => hx.of_block (set3_block _ _ _ _ _ _ _ hb') (by simpa using hs')
  refine ⟨fun i hi hp => ?_, fun i j hi hj hp hq he => ?_⟩
  · by_cases hik : i = k
    · subst hik
      rw [updP_at]
      obtain ⟨h1, h2⟩ := hk hp
      exact ⟨by omega, hs _ (by omega) h2.1 _ h2⟩
    · rw [updP_off γ g hik]
      obtain ⟨h1, h2⟩ := h'.1 i (by omega) hp
      exact ⟨h1, hs _ (by omega) h2.1 _ h2⟩
  · by_cases hik : i = k
    · by_cases hjk : j = k
      · omega
      · rw [hik, updP_at, updP_off γ g hjk] at he
        rw [hik] at hp
        have h1 := (hk hp).1
        have h2 := (h.1 j (by omega) hq).2.1
        omega
    · by_cases hjk : j = k
      · rw [hjk, updP_at, updP_off γ g hik] at he
        rw [hjk] at hq
        have h1 := (hk hq).1
        have h2 := (h.1 i (by omega) hp).2.1
        omega
      · rw [updP_off γ g hik, updP_off γ g hjk] at he
        exact h.2 i j (by omega) (by omega) hp hq he

/-- Posts of one's own, from block number base on: the row's block and, where there are some, those of the numbers, all apart, none of them shut. -/
structure OwnP (w : World) (base b : Nat) (ps : List Pst) (γ : Nat → Nat) : Prop where
  lt : b < w.heap.size
  le : base ≤ b
  open_ : ∀ o, w.frozen? ⟨b, o, none⟩ = false
  at_ : ∀ i, i < ps.length → ∃ a cap, PstAt w b (i * 3) (ps.getD i pz) a cap ∧ (0 < (ps.getD i pz).xs.length → a = some ⟨γ i, 0, none⟩)
  nums : ∀ i, i < ps.length → 0 < (ps.getD i pz).xs.length → base ≤ γ i ∧ γ i ≠ b ∧ NumsAt w (γ i) (ps.getD i pz).xs
  inj : ∀ i j, i < ps.length → j < ps.length → 0 < (ps.getD i pz).xs.length → 0 < (ps.getD j pz).xs.length → γ i = γ j → i = j

theorem OwnP.below {w w' : World} {base b : Nat} {ps : List Pst} {γ : Nat → Nat} (h : OwnP w base b ps γ) (hb : Below w.heap.size w w') : OwnP w' base b ps γ where
  lt := Nat.lt_of_lt_of_le h.lt hb.size
  le := h.le
  open_ := fun o => (hb.frozen (p := ⟨b, o, none⟩) h.lt).trans (h.open_ o)
  at_ := fun i hi => by
    obtain ⟨a, cap, h1, h2⟩ := h.at_ i hi
    exact ⟨a, cap, h1.of_block (hb.block _ h.lt), h2⟩
  nums := fun i hi hp => by
    obtain ⟨h1, h2, h3⟩ := h.nums i hi hp
    exact ⟨h1, h2, h3.of_block (hb.block _ h3.1) (Nat.lt_of_lt_of_le h3.1 hb.size)⟩
  inj := h.inj

theorem OwnP.isPs {w : World} {base b : Nat} {ps : List Pst} {γ : Nat → Nat} (h : OwnP w base b ps γ) (hx : ∀ i, i < ps.length → (ps.getD i pz).xs.length ≤ maxLen) : IsPs w (some ⟨b, 0, none⟩) ps := by
  refine .inr ⟨b, 0, rfl, h.lt, fun i hi => ?_⟩
  obtain ⟨a, cap, h1, h2⟩ := h.at_ i hi
  refine ⟨a, cap, by rw [Nat.zero_add]; exact h1, hx i hi, ?_⟩
  by_cases hp : 0 < (ps.getD i pz).xs.length
  · obtain ⟨h3, h4, h5⟩ := h.nums i hi hp
    exact .inr ⟨_, 0, h2 hp, h5.1, fun j hj => by rw [Nat.zero_add]; exact h5.2.1 j hj⟩
  · exact .inl (List.length_eq_zero_iff.1 (by omega))

/-- What a slice of posts leads to, where its posts' numbers lie at blocks' begins. -/
def IsPn (w : World) (a : Option Addr) (ps : List Pst) : Prop :=
  ps = [] ∨ ∃ b, a = some ⟨b, 0, none⟩ ∧ b < w.heap.size ∧ ∀ i, i < ps.length → ∃ a' cap, PstAt w b (i * 3) (ps.getD i pz) a' cap ∧ IsInts w a' (ps.getD i pz).xs

theorem IsPn.below {w w' : World} {a : Option Addr} {ps : List Pst} (h : IsPn w a ps) (hb : Below w.heap.size w w') : IsPn w' a ps := by
  rcases h with h | ⟨b, ha, hlt, hh⟩
  · exact .inl h
  · refine .inr ⟨b, ha, Nat.lt_of_lt_of_le hlt hb.size, fun i hi => ?_⟩
    obtain ⟨a', cap, h1, h3⟩ := hh i hi
    exact ⟨a', cap, h1.of_block (hb.block _ hlt), h3.below hb⟩

theorem pn_at {w w' : World} {a : Option Addr} {ps : List Pst} {n : Nat} (h : IsPn w a ps) (hb : Below w.heap.size w w') (hn : ps.length = n) {k : Nat} (hk : k < n) :
    ∃ b a' cap, a = some ⟨b, 0, none⟩ ∧ b < w'.heap.size ∧ PstAt w' b (k * 3) (ps.getD k pz) a' cap ∧ IsInts w' a' (ps.getD k pz).xs := by
  rcases h.below hb with h | ⟨b, ha, hlt, hh⟩
  · subst h
    simp at hn
    omega
  · obtain ⟨a', cap, h1, h3⟩ := hh k (by omega)
    exact ⟨b, a', cap, ha, hlt, h1, h3⟩

theorem OwnP.isPn {w : World} {base b : Nat} {ps : List Pst} {γ : Nat → Nat} (h : OwnP w base b ps γ) : IsPn w (some ⟨b, 0, none⟩) ps := by
  refine .inr ⟨b, rfl, h.lt, fun i hi => ?_⟩
  obtain ⟨a, cap, h1, h2⟩ := h.at_ i hi
  refine ⟨a, cap, h1, ?_⟩
  by_cases hp : 0 < (ps.getD i pz).xs.length
  · obtain ⟨h3, h4, h5⟩ := h.nums i hi hp
    exact .inr ⟨_, h2 hp, h5.1, h5.2.1⟩
  · exact .inl (List.length_eq_zero_iff.1 (by omega))

theorem IsPn.isPs {w : World} {a : Option Addr} {ps : List Pst} (h : IsPn w a ps) (hx : ∀ i, i < ps.length → (ps.getD i pz).xs.length ≤ maxLen) : IsPs w a ps := by
  rcases h with h | ⟨b, ha, hlt, hh⟩
  · exact .inl h
  · refine .inr ⟨b, 0, ha, hlt, fun i hi => ?_⟩
    obtain ⟨a', cap, h1, h3⟩ := hh i hi
    exact ⟨a', cap, by rw [Nat.zero_add]; exact h1, hx i hi, h3.isIs⟩

end Go.Proofs.Ytpejdhbajejmoaa

/- The contract of the cursor's deps. -/
namespace Go.Proofs.Ytpejdhbajejmoaa
open Go.ChangeShapes Go.WideShapes Go.ChangeAt Go.RowKit Go.Joins

theorem Cur.belowAt {w w' : World} {B c : Nat} {a : Option Addr} {len cap : Nat} {N : Int} (h : Cur w B a len cap N) (hb : Below c w w') (hB : B < c) : Cur w' B a len cap N := by
  obtain ⟨at_, seed, hc, hN, hk, hl⟩ := h
  have hcell : ∀ b o, b < c → w'.cell? ⟨b, o, none⟩ = w.cell? ⟨b, o, none⟩ := fun b o h => hb.cell (p := ⟨b, o, none⟩) h
  refine ⟨at_, seed, ⟨Nat.lt_of_lt_of_le hc.lt hb.size, (hcell _ _ hB).trans hc.c0, (hcell _ _ hB).trans hc.c1, (hcell _ _ hB).trans hc.c2, fun o => (hb.frozen (p := ⟨B, o, none⟩) hB).trans (hc.fz o), hc.p0, hc.s0, hc.s1⟩, hN, ?_, hl⟩
  rcases hk with h0 | ⟨b, o, ha, hlt, hz⟩
  · exact .inl h0
  · refine .inr ⟨b, o, ha, hlt, fun i hi => ?_⟩
    obtain ⟨z, z0, z1, hcz⟩ := hz i hi
    exact ⟨z, z0, z1, (hcell _ _ (by omega)).trans hcz⟩

theorem Hole.belowAt {B : Nat} {w0 w w' : World} (h : Hole B w0 w) (hb : Below w0.heap.size w w') : Hole B w0 w' :=
  ⟨hb.os.trans h.os, hb.tape.trans h.tape, hb.output.trans h.output, Nat.le_trans h.size hb.size, fun k hk hn => (hb.block k hk).trans (h.block k hk hn)⟩

def flat (ds : List Dp) : List Value := ds.flatMap fun d => [.int .i64 d.k, .int .i64 d.c, .int .i64 d.s, .int .i64 d.q]

theorem flat_length : ∀ ds : List Dp, (flat ds).length = ds.length * 4
  | [] => rfl
  | d :: r => by
    have := flat_length r
    simp only [flat, List.flatMap_cons, List.length_append, List.length_cons, List.length_nil] at this ⊢
    omega

theorem flat_snoc (ds : List Dp) (d : Dp) : flat (ds ++ [d]) = flat ds ++ [.int .i64 d.k, .int .i64 d.c, .int .i64 d.s, .int .i64 d.q] := by
  simp [flat]

theorem flat_at : ∀ (ds : List Dp) (i : Nat), i < ds.length → (flat ds)[i * 4]? = some (.int .i64 (ds.getD i dz).k) ∧ (flat ds)[i * 4 + 1]? = some (.int .i64 (ds.getD i dz).c) ∧ (flat ds)[i * 4 + 2]? = some (.int .i64 (ds.getD i dz).s) ∧ (flat ds)[i * 4 + 3]? = some (.int .i64 (ds.getD i dz).q)
  | [], _, h => by simp at h
  | d :: r, 0, _ => by simp [flat]
  | d :: r, i + 1, h => by
    have ih := flat_at r i (by simpa using h)
    have e : flat (d :: r) = [.int .i64 d.k, .int .i64 d.c, .int .i64 d.s, .int .i64 d.q] ++ flat r := by simp [flat]
    rw [e]
    have g : (d :: r).getD (i + 1) dz = r.getD i dz := by simp
    rw [g]
    refine ⟨?_, ?_, ?_, ?_⟩
    · rw [List.getElem?_append_right (by simp; omega)]
      simpa [show (i + 1) * 4 - 4 = i * 4 by omega] using ih.1
    · rw [List.getElem?_append_right (by simp; omega)]
      simpa [show (i + 1) * 4 + 1 - 4 = i * 4 + 1 by omega] using ih.2.1
    · rw [List.getElem?_append_right (by simp; omega)]
      simpa [show (i + 1) * 4 + 2 - 4 = i * 4 + 2 by omega] using ih.2.2.1
    · rw [List.getElem?_append_right (by simp; omega)]
      simpa [show (i + 1) * 4 + 3 - 4 = i * 4 + 3 by omega] using ih.2.2.2

end Go.Proofs.Ytpejdhbajejmoaa

/- The contract of the cursor's write. -/
namespace Go.Proofs.Ytpejdhbajejmoaa
open Go.ChangeShapes Go.WideShapes Go.ChangeAt Go.RowKit Go.Joins

/-- A write in a block of its own. -/
structure WBox (w : World) (b : Nat) (k c s q v : Int) (de : Bool) (x : Option Addr) (len cap : Nat) : Prop where
  lt : b < w.heap.size
  c0 : w.cell? ⟨b, 0, none⟩ = some (.int .i64 k)
  c1 : w.cell? ⟨b, 1, none⟩ = some (.int .i64 c)
  c2 : w.cell? ⟨b, 2, none⟩ = some (.int .i64 s)
  c3 : w.cell? ⟨b, 3, none⟩ = some (.int .i64 q)
  c4 : w.cell? ⟨b, 4, none⟩ = some (.int .i64 v)
  c5 : w.cell? ⟨b, 5, none⟩ = some (.bool de)
  c6 : w.cell? ⟨b, 6, none⟩ = some (.slice x len cap)
  fz : ∀ o, w.frozen? ⟨b, o, none⟩ = false

theorem WBox.start (w : World) (k c s q v : Int) (de : Bool) (x : Option Addr) (len cap : Nat) (t : Nat) : WBox (w.alloc (.cells #[.int .i64 k, .int .i64 c, .int .i64 s, .int .i64 q, .int .i64 v, .bool de, .slice x len cap] t)) w.heap.size k c s q v de x len cap :=
  ⟨by simp, by simp [go_sem], by simp [go_sem], by simp [go_sem], by simp [go_sem], by simp [go_sem], by simp [go_sem], by simp [go_sem], fun o => by simp [go_sem]⟩

theorem WBox.hole {w w' : World} {B b : Nat} {k c s q v : Int} {de : Bool} {x : Option Addr} {len cap : Nat} (h : WBox w b k c s q v de x len cap) (hh : Hole B w w') (hn : b ≠ B) : WBox w' b k c s q v de x len cap :=
  ⟨Nat.lt_of_lt_of_le h.lt hh.size, (hh.cell h.lt hn).trans h.c0, (hh.cell h.lt hn).trans h.c1, (hh.cell h.lt hn).trans h.c2, (hh.cell h.lt hn).trans h.c3, (hh.cell h.lt hn).trans h.c4, (hh.cell h.lt hn).trans h.c5, (hh.cell h.lt hn).trans h.c6, fun o => (hh.frozen h.lt hn).trans (h.fz o)⟩

theorem WBox.other {w : World} {R b : Nat} {k c s q v : Int} {de : Bool} {x : Option Addr} {len cap : Nat} (h : WBox w b k c s q v de x len cap) (hn : R ≠ b) (o : Nat) (y : Value) : WBox (w.setCell ⟨R, o, none⟩ y) b k c s q v de x len cap := by
  have hne : ∀ o', (Addr.mk R o none) ≠ ⟨b, o', none⟩ := fun o' e => hn (by injection e)
  exact ⟨by simpa [World.setCell] using h.lt, (World.cell?_setCell_other _ _ _ _ (hne _)).trans h.c0, (World.cell?_setCell_other _ _ _ _ (hne _)).trans h.c1, (World.cell?_setCell_other _ _ _ _ (hne _)).trans h.c2, (World.cell?_setCell_other _ _ _ _ (hne _)).trans h.c3, (World.cell?_setCell_other _ _ _ _ (hne _)).trans h.c4, (World.cell?_setCell_other _ _ _ _ (hne _)).trans h.c5, (World.cell?_setCell_other _ _ _ _ (hne _)).trans h.c6, fun o => by rw [World.frozen?_setCell]; exact h.fz o⟩

theorem WBox.set0 {w : World} {b : Nat} {k c s q v : Int} {de : Bool} {x : Option Addr} {len cap : Nat} (h : WBox w b k c s q v de x len cap) (y : Int) : WBox (w.setCell ⟨b, 0, none⟩ (.int .i64 y)) b y c s q v de x len cap :=
  ⟨by simpa [World.setCell] using h.lt, cell_set_same h.c0, cell_set_off h.c1 (by omega), cell_set_off h.c2 (by omega), cell_set_off h.c3 (by omega), cell_set_off h.c4 (by omega), cell_set_off h.c5 (by omega), cell_set_off h.c6 (by omega), fun o => by rw [World.frozen?_setCell]; exact h.fz o⟩

theorem WBox.set1 {w : World} {b : Nat} {k c s q v : Int} {de : Bool} {x : Option Addr} {len cap : Nat} (h : WBox w b k c s q v de x len cap) (y : Int) : WBox (w.setCell ⟨b, 1, none⟩ (.int .i64 y)) b k y s q v de x len cap :=
  ⟨by simpa [World.setCell] using h.lt, cell_set_off h.c0 (by omega), cell_set_same h.c1, cell_set_off h.c2 (by omega), cell_set_off h.c3 (by omega), cell_set_off h.c4 (by omega), cell_set_off h.c5 (by omega), cell_set_off h.c6 (by omega), fun o => by rw [World.frozen?_setCell]; exact h.fz o⟩

theorem WBox.set4 {w : World} {b : Nat} {k c s q v : Int} {de : Bool} {x : Option Addr} {len cap : Nat} (h : WBox w b k c s q v de x len cap) (y : Int) : WBox (w.setCell ⟨b, 4, none⟩ (.int .i64 y)) b k c s q y de x len cap :=
  ⟨by simpa [World.setCell] using h.lt, cell_set_off h.c0 (by omega), cell_set_off h.c1 (by omega), cell_set_off h.c2 (by omega), cell_set_off h.c3 (by omega), cell_set_same h.c4, cell_set_off h.c5 (by omega), cell_set_off h.c6 (by omega), fun o => by rw [World.frozen?_setCell]; exact h.fz o⟩

theorem WBox.set5 {w : World} {b : Nat} {k c s q v : Int} {de : Bool} {x : Option Addr} {len cap : Nat} (h : WBox w b k c s q v de x len cap) (y : Bool) : WBox (w.setCell ⟨b, 5, none⟩ (.bool y)) b k c s q v y x len cap :=
  ⟨by simpa [World.setCell] using h.lt, cell_set_off h.c0 (by omega), cell_set_off h.c1 (by omega), cell_set_off h.c2 (by omega), cell_set_off h.c3 (by omega), cell_set_off h.c4 (by omega), cell_set_same h.c5, cell_set_off h.c6 (by omega), fun o => by rw [World.frozen?_setCell]; exact h.fz o⟩

theorem WBox.set6 {w : World} {b : Nat} {k c s q v : Int} {de : Bool} {x : Option Addr} {len cap : Nat} (h : WBox w b k c s q v de x len cap) (y : Option Addr) (l' c' : Nat) : WBox (w.setCell ⟨b, 6, none⟩ (.slice y l' c')) b k c s q v de y l' c' :=
  ⟨by simpa [World.setCell] using h.lt, cell_set_off h.c0 (by omega), cell_set_off h.c1 (by omega), cell_set_off h.c2 (by omega), cell_set_off h.c3 (by omega), cell_set_off h.c4 (by omega), cell_set_off h.c5 (by omega), cell_set_same h.c6, fun o => by rw [World.frozen?_setCell]; exact h.fz o⟩

theorem HoldsDeps.hole {w w' : World} {B g : Nat} {ds : List Dp} (h : HoldsDeps w g 0 ds) (hh : Hole B w w') (hg : g < w.heap.size) (hn : g ≠ B) : HoldsDeps w' g 0 ds := by
  intro i hi
  obtain ⟨h0, h1, h2, h3⟩ := h i hi
  exact ⟨(hh.cell hg hn).trans h0, (hh.cell hg hn).trans h1, (hh.cell hg hn).trans h2, (hh.cell hg hn).trans h3⟩

/-- What is carried through the drawing of a write: the cursor, what was there, the two boxes, the dependencies. -/
structure Draw (w W : World) (B R T g : Nat) (a : Option Addr) (len cap : Nat) (N : Int) (k c s q v : Int) (de : Bool) (ds : List Dp) (cp : Nat) : Prop where
  cur : Cur W B a len cap N
  hole : Hole B w W
  box : WBox W T k c s q v de (some ⟨g, 0, none⟩) ds.length cp
  res : WBox W R 0 0 0 0 0 false none 0 0
  deps : HoldsDeps W g 0 ds
  glt : g < W.heap.size

theorem Draw.step {w W W' : World} {B R T g : Nat} {a : Option Addr} {len cap : Nat} {N M : Int} {k c s q v : Int} {de : Bool} {ds : List Dp} {cp : Nat} (h : Draw w W B R T g a len cap N k c s q v de ds cp) (hc : Cur W' B a len cap M) (hh : Hole B W W') (hT : T ≠ B) (hR : R ≠ B) (hg : g ≠ B) : Draw w W' B R T g a len cap M k c s q v de ds cp :=
  ⟨hc, h.hole.trans hh, h.box.hole hh hT, h.res.hole hh hR, h.deps.hole hh h.glt hg, Nat.lt_of_lt_of_le h.glt hh.size⟩

theorem Draw.set {w W : World} {B R T g : Nat} {a : Option Addr} {len cap : Nat} {N : Int} {k c s q v k' c' s' q' v' : Int} {de de' : Bool} {ds : List Dp} {cp : Nat} (h : Draw w W B R T g a len cap N k c s q v de ds cp) (o : Nat) (y : Value) (hb : WBox (W.setCell ⟨T, o, none⟩ y) T k' c' s' q' v' de' (some ⟨g, 0, none⟩) ds.length cp) (hT : B < T) (hw : w.heap.size ≤ T) (hR : T ≠ R) (hg : T ≠ g) : Draw w (W.setCell ⟨T, o, none⟩ y) B R T g a len cap N k' c' s' q' v' de' ds cp :=
  ⟨h.cur.setOther hT o y, h.hole.setNew hw o y, hb, h.res.other hR o y, h.deps.set hg y, by simpa [World.setCell] using h.glt⟩

theorem write_end {w W : World} {B R T g : Nat} {a : Option Addr} {len cap : Nat} {N M : Int} {k c s q v : Int} {de : Bool} {ds : List Dp} {cp : Nat} (h : Draw w W B R T g a len cap N k c s q v de ds cp) (hR : w.heap.size ≤ R) (hB : B < w.heap.size) (hg : R ≠ g) (hM : N ≤ M) :
    let W' := ((((((W.setCell ⟨R, 0, none⟩ (.int .i64 k)).setCell ⟨R, 1, none⟩ (.int .i64 c)).setCell ⟨R, 2, none⟩ (.int .i64 s)).setCell ⟨R, 3, none⟩ (.int .i64 q)).setCell ⟨R, 4, none⟩ (.int .i64 v)).setCell ⟨R, 5, none⟩ (.bool de)).setCell ⟨R, 6, none⟩ (.slice (some ⟨g, 0, none⟩) ds.length cp)
    g < W'.heap.size ∧ HoldsDeps W' g 0 ds ∧ Cur W' B a len cap M ∧ Hole B w W' :=
  ⟨by simpa [World.setCell] using h.glt, ((((((h.deps.set hg _).set hg _).set hg _).set hg _).set hg _).set hg _).set hg _,
    (((((((h.cur.setOther (by omega) _ _).setOther (by omega) _ _).setOther (by omega) _ _).setOther (by omega) _ _).setOther (by omega) _ _).setOther (by omega) _ _).setOther (by omega) _ _).more hM,
    ((((((h.hole.setNew hR _ _).setNew hR _ _).setNew hR _ _).setNew hR _ _).setNew hR _ _).setNew hR _ _).setNew hR _ _⟩

end Go.Proofs.Ytpejdhbajejmoaa

/- The contract of the cursor's size. -/
namespace Go.Proofs.Ytpejdhbajejmoaa
open Go.ChangeShapes Go.WideShapes Go.ChangeAt Go.RowKit Go.Joins

set_option maxHeartbeats 1000000 in
theorem size_any (B : Nat) (a : Option Addr) (len cap : Nat) (N n : Int) (w : World) (hN : N ≤ 1000000) (hn : 1 ≤ n) (hn' : n ≤ 1000) (h : Cur w B a len cap N) :
    Calls Try.prog 23 #[.pointer (some ⟨B, 0, none⟩), .int .i64 n] w fun e w' => ∃ r : Int, e = .returned (.int .i64 r) ∧ 0 ≤ r ∧ r ≤ n ∧ Cur w' B a len cap (N + 1) ∧ Hole B w w' := by
  have HC : Hid (Cur w B a len cap N) := h
  obtain ⟨at_, seed, hc, _, _, hl⟩ := h
  have c0 := hc.c0
  clear hc
  go_enter Try.func23, Try.ntmps23
  by_cases hb : n < 1 + ((len / 8 : Nat) : Int)
  · go_wp2_with fail
    refine (pick_any B a len cap N (n + 1) _ hN (by omega) (by omega) HC.out).mono ?_
    rintro e w1 ⟨r, rfl, r0, r1, hc1, hh1⟩
    have HC1 := Lib.hid hc1
    have HH1 := Lib.hid hh1
    clear hc1 hh1
    go_wp2
    go_ret
    exact ⟨r, rfl, r0, by omega, HC1.out, HH1.out⟩
  · go_wp2_with fail
    refine (pick_any B a len cap N _ _ hN (by omega) (by omega) HC.out).mono ?_
    rintro e w1 ⟨r, rfl, r0, r1, hc1, hh1⟩
    have HC1 := Lib.hid hc1
    have HH1 := Lib.hid hh1
    clear hc1 hh1
    go_wp2
    go_ret
    exact ⟨r, rfl, r0, by omega, HC1.out, HH1.out⟩

end Go.Proofs.Ytpejdhbajejmoaa

/- The draw of posts: what lies where while it goes. -/
namespace Go.Proofs.Ytpejdhbajejmoaa
open Go.ChangeShapes Go.WideShapes Go.ChangeAt Go.RowKit Go.Joins

set_option maxRecDepth 100000 in
set_option maxHeartbeats 1000000 in
theorem pick1_any (B : Nat) (a : Option Addr) (len cap : Nat) (N n : Int) (w : World) (hN : N ≤ 1000000) (hn : 1 ≤ n) (hn' : n ≤ 100000) (h : Cur w B a len cap N) :
    Calls Try.prog 24 #[.pointer (some ⟨B, 0, none⟩), .int .i64 n] w fun e w' => ∃ r : Nat, e = .returned (.int .i64 (r : Int)) ∧ (r : Int) < n ∧ Cur w' B a len cap (N + 1) ∧ Hole B w w' := by
  by_cases h1 : n = 1
  · subst h1
    have HC := Lib.hid (h.more (show N ≤ N + 1 by omega))
    clear h
    go_enter Try.func24, Try.ntmps24
    go_wp2
    go_ret
    exact ⟨0, rfl, by omega, HC.out, Hole.refl _ _⟩
  · refine (pick_any B a len cap N n w hN (by omega) hn' h).mono ?_
    rintro e w' ⟨r, rfl, r0, r1, hc, hh⟩
    exact ⟨r.toNat, by rw [Int.toNat_of_nonneg r0], by omega, hc, hh⟩

theorem pick1_curK (c : Int) (hc : 1 ≤ c) (B : Nat) (a : Option Addr) (len cap : Nat) (M n : Int) (w : World) (hM : M ≤ 90000) (hn : 1 ≤ n) (hn' : n ≤ 1000) (h : Cur w B a len cap M) :
    Calls Try.prog 24 #[.pointer (some ⟨B, 0, none⟩), .int .i64 n] w fun e w' => ∃ r : Nat, e = .returned (.int .i64 (r : Int)) ∧ (r : Int) < n ∧ CurK c B a len cap w w' := by
  obtain ⟨at_, seed, hcur, hN', hk, hl⟩ := h
  have h0 : Cur w B a len cap at_ := ⟨at_, seed, hcur, Int.le_refl _, hk, hl⟩
  refine (pick1_any B a len cap at_ n w (by omega) hn (by omega) h0).mono ?_
  rintro e w' ⟨r, rfl, r1, hc', hh⟩
  refine ⟨r, rfl, r1, hh, fun K _ hK => hc'.more ?_⟩
  obtain ⟨at2, seed2, hc2, h2, _⟩ := hK
  have e1 : at2 = at_ := by
    have h3 := hc2.c1
    rw [hcur.c1] at h3
    injection h3 with h3
    injection h3 with _ h3
    exact h3.symm
  omega

/-- Numbers that lie at no block that is written to. -/
def Vs (w : World) (base ob : Nat) (a : Option Addr) (xs : List Int) : Prop :=
  xs = [] ∨ ∃ g, a = some ⟨g, 0, none⟩ ∧ base ≤ g ∧ g ≠ ob ∧ g < w.heap.size ∧ ∀ i, i < xs.length → w.cell? ⟨g, i, none⟩ = some (.int .i64 (xs.getD i 0))

theorem Vs.isIs {w : World} {base ob : Nat} {a : Option Addr} {xs : List Int} (h : Vs w base ob a xs) : IsIs w a xs := by
  rcases h with h | ⟨g, h1, h2, h3, h4, h5⟩
  · exact .inl h
  · exact .inr ⟨g, 0, h1, h4, fun i hi => by rw [Nat.zero_add]; exact h5 i hi⟩

theorem Vs.of_blocks {w w' : World} {base ob ob' : Nat} {a : Option Addr} {xs : List Int} (h : Vs w base ob a xs) (hs : w.heap.size ≤ w'.heap.size) (hb : ∀ g, base ≤ g → g ≠ ob → g < w.heap.size → w'.heap[g]? = w.heap[g]?) (ho : ob' = ob ∨ w.heap.size ≤ ob') : Vs w' base ob' a xs := by
  rcases h with h | ⟨g, h1, h2, h3, h4, h5⟩
  · exact .inl h
  · exact .inr ⟨g, h1, h2, by omega, by omega, fun i hi => (World.cell?_of_block (a := ⟨g, i, none⟩) (hb g h2 h3 h4)).trans (h5 i hi)⟩

theorem Vs.off {w w' : World} {B base ob : Nat} {a : Option Addr} {xs : List Int} (h : Vs w base ob a xs) (hh : Hole B w w') (hB : B < base) : Vs w' base ob a xs :=
  h.of_blocks hh.size (fun g h1 _ h3 => hh.block g h3 (by omega)) (.inl rfl)

theorem Vs.set {w : World} {base ob : Nat} {a : Option Addr} {xs : List Int} (h : Vs w base ob a xs) (p : Addr) (hp : p.block < base ∨ p.block = ob) (u : Value) : Vs (w.setCell p u) base ob a xs :=
  h.of_blocks (by simp) (fun g h1 h2 _ => Below.heap_setCell _ _ _ _ (by omega)) (.inl rfl)

theorem Vs.grown {w w' : World} {base ob ob' : Nat} {a : Option Addr} {xs : List Int} (h : Vs w base ob a xs) (hg : w.grownBy w' (some ob)) (ho : ob' = ob ∨ w.heap.size ≤ ob') : Vs w' base ob' a xs :=
  h.of_blocks hg.size (fun g _ h2 h3 => hg.block g h3 (by simp; omega)) ho

theorem Vs.own {w : World} {base ob lo hi : Nat} {a : Option Addr} {xs : List Int} (h : OwnI w lo hi a xs) (hlo : base ≤ lo) (hob : ob < lo) : Vs w base ob a xs := by
  rcases h with h | ⟨b, h1, h2, h3, h4, h5, h6⟩
  · exact .inl h
  · exact .inr ⟨b, h1, by omega, by omega, h4, h5⟩

theorem Vs.row {w : World} {base ob lo g n cap : Nat} {xs : List Int} (h : RowI w lo (.slice (some ⟨g, 0, none⟩) n cap) xs) (hl : xs.length = n) (hlo : base ≤ lo) (hob : ob < lo) : Vs w base ob (some ⟨g, 0, none⟩) xs := by
  have hlt := World.ownsRow.lt h g rfl
  refine .inr ⟨g, rfl, by omega, by omega, hlt.2, fun i hi => ?_⟩
  unfold RowI at h
  rw [hl] at h
  rw [World.ownsRow.cellAt h i (by omega)]
  simp [intV, List.getD, hi]

theorem Vs.ptr {w : World} {base ob : Nat} {a : Option Addr} {xs : List Int} (h : Vs w base ob a xs) (hx : 0 < xs.length) : ∃ g, a = some ⟨g, 0, none⟩ ∧ base ≤ g ∧ g ≠ ob ∧ g < w.heap.size := by
  rcases h with h | ⟨g, h1, h2, h3, h4, h5⟩
  · subst h
    simp at hx
  · exact ⟨g, h1, h2, h3, h4⟩

/-- As what is appended. -/
theorem Vs.news {w : World} {base ob g : Nat} {xs : List Int} (h : Vs w base ob (some ⟨g, 0, none⟩) xs) (w' : World) (hb : Below w.heap.size w w') : ∀ j u, (xs.map intV)[j]? = some u → w'.cell? ((⟨g, 0, none⟩ : Addr).add j) = some u := by
  intro j u hu
  have hj : j < xs.length := by have := (List.getElem?_eq_some_iff.1 hu).1; simpa using this
  rcases h with h | ⟨g', h1, h2, h3, h4, h5⟩
  · subst h
    simp at hj
  · have e : g' = g := by
      injection h1 with h1
      injection h1 with h1
      exact h1.symm
    subst e
    rw [add_at, Nat.zero_add]
    refine ((hb.cell (p := ⟨g', j, none⟩) h4).trans (h5 j hj)).trans ?_
    rw [← hu]
    simp [intV, List.getD, hj]

/-- A post, where its numbers lie, their room. -/
structure EnQ where
  f : Int
  xs : List Int
  y : Int
  a : Option Addr
  cp : Nat

def ezQ : EnQ := ⟨0, [], 0, none, 0⟩

def pqVals (e : EnQ) : List Value := [.int .i64 e.f, .slice e.a e.xs.length e.cp, .int .i64 e.y]

theorem pqVals_len : ∀ es : List EnQ, (es.flatMap pqVals).length = es.length * 3
  | [] => rfl
  | e :: r => by
    rw [List.flatMap_cons, List.length_append, pqVals_len r]
    simp [pqVals]
    omega

theorem pqVals_one (e : EnQ) : ∀ u ∈ pqVals e, u.oneCell' = true := by
  intro u h
  simp only [pqVals, List.mem_cons, List.not_mem_nil, or_false] at h
  rcases h with rfl | rfl | rfl <;> rfl

theorem pqVals_at : ∀ (es : List EnQ) (i c : Nat), i < es.length → c < 3 → (es.flatMap pqVals)[i * 3 + c]? = (pqVals (es.getD i ezQ))[c]?
  | [], i, c, hi, _ => by simp at hi
  | e :: r, 0, c, _, hc => by
    rw [List.flatMap_cons, List.getElem?_append_left (by simp [pqVals]; omega)]
    simp
  | e :: r, i + 1, c, hi, hc => by
    rw [List.flatMap_cons, List.getElem?_append_right (by simp [pqVals]; omega)]
    have := pqVals_at r i c (by simpa using hi) hc
    rw [show (i + 1) * 3 + c - (pqVals e).length = i * 3 + c by simp [pqVals]; omega, this]
    simp

theorem pqVals_set : ∀ (es : List EnQ) (i : Nat) (e : EnQ), i < es.length → ((((es.flatMap pqVals).set (i * 3) (.int .i64 e.f)).set (i * 3 + 1) (.slice e.a e.xs.length e.cp)).set (i * 3 + 2) (.int .i64 e.y)) = (es.set i e).flatMap pqVals
  | [], i, e, hi => by simp at hi
  | d :: r, 0, e, _ => by
    simp [pqVals]
  | d :: r, i + 1, e, hi => by
    have := pqVals_set r i e (by simpa using hi)
    rw [List.set_cons_succ, List.flatMap_cons, List.flatMap_cons, ← this]
    have l3 : (pqVals d).length = 3 := rfl
    rw [List.set_append_right _ _ (by omega), List.set_append_right _ _ (by omega), List.set_append_right _ _ (by omega), l3, show (i + 1) * 3 - 3 = i * 3 by omega, show (i + 1) * 3 + 1 - 3 = i * 3 + 1 by omega, show (i + 1) * 3 + 2 - 3 = i * 3 + 2 by omega]

/-- What lies where while posts are drawn: what sites have seen at the first block, the posts at block g. -/
structure PS (w wr : World) (B : Nat) (a : Option Addr) (len cap : Nat) (N : Int) (g k c : Nat) (es : List EnQ) : Prop where
  hole : Hole B w wr
  cur : Cur wr B a len cap N
  lt : w.heap.size < wr.heap.size
  fz : ∀ o, wr.frozen? ⟨w.heap.size, o, none⟩ = false
  seen : ∀ i, i < 4 → ∃ a' xs cp, wr.cell? ⟨w.heap.size, i, none⟩ = some (.slice a' xs.length cp) ∧ xs.length ≤ 4 ∧ Vs wr (w.heap.size + 1) g a' xs
  own : wr.ownsRow (w.heap.size + 1) 33 3 (.slice (some ⟨g, 0, none⟩) k c) k (es.flatMap pqVals)
  vs : ∀ e ∈ es, e.xs.length ≤ 5 ∧ Vs wr (w.heap.size + 1) g e.a e.xs
  len : es.length = k

variable {w wr w' : World} {B : Nat} {a : Option Addr} {len cap : Nat} {N M : Int} {g k c : Nat} {es : List EnQ}

theorem PS.glt (h : PS w wr B a len cap N g k c es) : w.heap.size + 1 ≤ g ∧ g < wr.heap.size := World.ownsRow.lt h.own g rfl

theorem PS.move (h : PS w wr B a len cap N g k c es) (hB : B < w.heap.size) (hh : Hole B wr w') (hc : Cur w' B a len cap M) : PS w w' B a len cap M g k c es where
  hole := h.hole.trans hh
  cur := hc
  lt := Nat.lt_of_lt_of_le h.lt hh.size
  fz := fun o => (hh.frozen h.lt (by omega)).trans (h.fz o)
  seen := fun i hi => by
    obtain ⟨a', xs, cp, h1, h2, h3⟩ := h.seen i hi
    exact ⟨a', xs, cp, (hh.cell h.lt (by omega)).trans h1, h2, h3.off hh (by omega)⟩
  own := World.ownsRow.kept (row := some B) h.own ⟨hh.os, hh.tape, hh.output, hh.size, fun k hk hn => hh.block k hk (fun e => hn (by rw [e]))⟩ (.inr fun e2 => by
    have := World.ownsRow.lt h.own B e2
    omega)
  vs := fun e he => ⟨(h.vs e he).1, (h.vs e he).2.off hh (by omega)⟩
  len := h.len

theorem PS.more (h : PS w wr B a len cap N g k c es) (hM : N ≤ M) : PS w wr B a len cap M g k c es :=
  ⟨h.hole, h.cur.more hM, h.lt, h.fz, h.seen, h.own, h.vs, h.len⟩

/-- New memory. -/
theorem PS.below (h : PS w wr B a len cap N g k c es) (hB : B < w.heap.size) (hb : Below wr.heap.size wr w') : PS w w' B a len cap N g k c es := h.move hB (Hole.of_below hb) (h.cur.below hb)

/-- What one site has seen is another. -/
theorem PS.see (h : PS w wr B a len cap N g k c es) (hB : B < w.heap.size) (i : Nat) {a' : Option Addr} {xs : List Int} {cp : Nat} (hx : xs.length ≤ 4) (hv : Vs wr (w.heap.size + 1) g a' xs) : PS w (wr.setCell ⟨w.heap.size, i, none⟩ (.slice a' xs.length cp)) B a len cap N g k c es where
  hole := h.hole.setNew (Nat.le_refl _) i _
  cur := h.cur.setOther hB i _
  lt := by simpa using h.lt
  fz := fun o => by rw [World.frozen?_setCell]; exact h.fz o
  seen := fun j hj => by
    obtain ⟨a2, ys, cp2, h1, h2, h3⟩ := h.seen j hj
    by_cases e : i = j
    · subst e
      exact ⟨a', xs, cp, cell_set_same h1, hx, hv.set _ (.inl (Nat.lt_succ_self _)) _⟩
    · exact ⟨a2, ys, cp2, cell_set_off h1 e, h2, h3.set _ (.inl (Nat.lt_succ_self _)) _⟩
  own := ownsRow_setCell_below h.own (Nat.lt_succ_self _) _
  vs := fun e he => ⟨(h.vs e he).1, (h.vs e he).2.set _ (.inl (Nat.lt_succ_self _)) _⟩
  len := h.len

/-- A store of one cell into the row. -/
theorem PS.cell (h : PS w wr B a len cap N g k c es) (j : Nat) (u : Value) : (wr.setCell ⟨g, j, none⟩ u).ownsRow (w.heap.size + 1) 33 3 (.slice (some ⟨g, 0, none⟩) k c) k ((es.flatMap pqVals).set j u) :=
  (World.ownsRow.stored h.own j u).1

/-- Another post at a place. -/
theorem PS.put (h : PS w wr B a len cap N g k c es) (hB : B < w.heap.size) (i : Nat) (hi : i < k) (e : EnQ) (he : e.xs.length ≤ 5 ∧ Vs wr (w.heap.size + 1) g e.a e.xs) :
    PS w (((wr.setCell ⟨g, i * 3, none⟩ (.int .i64 e.f)).setCell ⟨g, i * 3 + 1, none⟩ (.slice e.a e.xs.length e.cp)).setCell ⟨g, i * 3 + 2, none⟩ (.int .i64 e.y)) B a len cap N g k c (es.set i e) where
  hole := by
    have hg := h.glt.1
    exact ((h.hole.setNew (by omega) _ _).setNew (by omega) _ _).setNew (by omega) _ _
  cur := by
    have hg := h.glt.1
    exact ((h.cur.setOther (by omega) _ _).setOther (by omega) _ _).setOther (by omega) _ _
  lt := by simpa using h.lt
  fz := fun o => by rw [World.frozen?_setCell, World.frozen?_setCell, World.frozen?_setCell]; exact h.fz o
  seen := fun j hj => by
    have hg := h.glt.1
    obtain ⟨a2, ys, cp2, h1, h2, h3⟩ := h.seen j hj
    have e1 : ∀ (W : World) (o : Nat) (u : Value), (W.setCell ⟨g, o, none⟩ u).cell? ⟨w.heap.size, j, none⟩ = W.cell? ⟨w.heap.size, j, none⟩ := fun W o u => World.cell?_of_block (a := ⟨w.heap.size, j, none⟩) (Below.heap_setCell _ _ _ _ (by show w.heap.size ≠ g; omega))
    exact ⟨a2, ys, cp2, by rw [e1, e1, e1]; exact h1, h2, ((h3.set _ (.inr rfl) _).set _ (.inr rfl) _).set _ (.inr rfl) _⟩
  own := by
    have h1 := (World.ownsRow.stored h.own (i * 3) (.int .i64 e.f)).1
    have h2 := (World.ownsRow.stored h1 (i * 3 + 1) (.slice e.a e.xs.length e.cp)).1
    have h3 := (World.ownsRow.stored h2 (i * 3 + 2) (.int .i64 e.y)).1
    rw [pqVals_set es i e (by rw [h.len]; exact hi)] at h3
    exact h3
  vs := fun d hd => by
    have : ∀ d : EnQ, d.xs.length ≤ 5 ∧ Vs wr (w.heap.size + 1) g d.a d.xs → d.xs.length ≤ 5 ∧ Vs (((wr.setCell ⟨g, i * 3, none⟩ (.int .i64 e.f)).setCell ⟨g, i * 3 + 1, none⟩ (.slice e.a e.xs.length e.cp)).setCell ⟨g, i * 3 + 2, none⟩ (.int .i64 e.y)) (w.heap.size + 1) g d.a d.xs := fun d hd => ⟨hd.1, ((hd.2.set _ (.inr rfl) _).set _ (.inr rfl) _).set _ (.inr rfl) _⟩
    rcases List.mem_or_eq_of_mem_set hd with hd | rfl
    · exact this d (h.vs d hd)
    · exact this d he
  len := by rw [List.length_set]; exact h.len

/-- One post more. -/
theorem PS.app (h : PS w wr B a len cap N g k c es) (hB : B < w.heap.size) {g' c' : Nat} (hg : wr.grownBy w' (some g)) (hn : g' = g ∨ g' = wr.heap.size) (e : EnQ) (he : e.xs.length ≤ 5 ∧ Vs wr (w.heap.size + 1) g e.a e.xs)
    (ho : w'.ownsRow (w.heap.size + 1) 33 3 (.slice (some ⟨g', 0, none⟩) (k + 1) c') (k + 1) (es.flatMap pqVals ++ pqVals e)) : PS w w' B a len cap N g' (k + 1) c' (es ++ [e]) where
  hole := by
    have hl := h.glt
    exact ⟨hg.os.trans h.hole.os, hg.tape.trans h.hole.tape, hg.output.trans h.hole.output, Nat.le_trans h.hole.size hg.size, fun j hj hne => (hg.block j (Nat.lt_of_lt_of_le hj h.hole.size) (by simp; omega)).trans (h.hole.block j hj hne)⟩
  cur := h.cur.grown hg (fun j hj => by have := h.glt; injection hj; omega)
  lt := Nat.lt_of_lt_of_le h.lt hg.size
  fz := fun o => by
    have hl := h.glt
    exact (World.frozen?_of_block (a := ⟨w.heap.size, o, none⟩) (hg.block w.heap.size h.lt (by simp; omega))).trans (h.fz o)
  seen := fun j hj => by
    have hl := h.glt
    obtain ⟨a2, ys, cp2, h1, h2, h3⟩ := h.seen j hj
    exact ⟨a2, ys, cp2, (World.cell?_of_block (a := ⟨w.heap.size, j, none⟩) (hg.block w.heap.size h.lt (by simp; omega))).trans h1, h2, h3.grown hg (by omega)⟩
  own := by
    rw [List.flatMap_append]
    simpa using ho
  vs := fun d hd => by
    have : ∀ d : EnQ, d.xs.length ≤ 5 ∧ Vs wr (w.heap.size + 1) g d.a d.xs → d.xs.length ≤ 5 ∧ Vs w' (w.heap.size + 1) g' d.a d.xs := fun d hd => ⟨hd.1, hd.2.grown hg (by omega)⟩
    rcases List.mem_append.1 hd with hd | hd
    · exact this d (h.vs d hd)
    · obtain rfl : d = e := by simpa using hd
      exact this d he
  len := by simp [h.len]

/-- A post's cells. -/
theorem PS.at (h : PS w wr B a len cap N g k c es) {i : Nat} (hi : i < k) : ∃ e : EnQ, e = es.getD i ezQ ∧ wr.cell? ⟨g, i * 3, none⟩ = some (.int .i64 e.f) ∧ wr.cell? ⟨g, i * 3 + 1, none⟩ = some (.slice e.a e.xs.length e.cp) ∧ wr.cell? ⟨g, i * 3 + 2, none⟩ = some (.int .i64 e.y) ∧ e.xs.length ≤ 5 ∧ Vs wr (w.heap.size + 1) g e.a e.xs := by
  have hl := h.len
  have hm : es.getD i ezQ ∈ es := by simp [List.getD, show i < es.length by omega]
  have hc : ∀ o, o < 3 → wr.cell? ⟨g, i * 3 + o, none⟩ = (pqVals (es.getD i ezQ))[o]? := fun o ho => by rw [h.own.cellAt _ (by omega), pqVals_at es i o (by omega) ho]
  exact ⟨_, rfl, hc 0 (by omega), hc 1 (by omega), hc 2 (by omega), (h.vs _ hm).1, (h.vs _ hm).2⟩

/-- The posts as a list that may be looked at. -/
theorem PS.isPs (h : PS w wr B a len cap N g k c es) : IsPs wr (some ⟨g, 0, none⟩) (es.map fun e => ⟨e.f, e.xs, e.y⟩) := by
  have hl := h.len
  refine .inr ⟨g, 0, rfl, h.glt.2, fun i hi => ?_⟩
  have hi' : i < es.length := by simpa using hi
  obtain ⟨e, he, h1, h2, h3, h4, h5⟩ := h.at (i := i) (by omega)
  have hx : (es.map fun e => (⟨e.f, e.xs, e.y⟩ : Pst)).getD i pz = ⟨e.f, e.xs, e.y⟩ := by
    rw [he]
    simp [List.getD, hi']
  rw [hx]
  refine ⟨e.a, e.cp, ⟨?_, ?_, ?_⟩, by show e.xs.length ≤ maxLen; unfold maxLen; omega, h5.isIs⟩
  · rw [Nat.zero_add]; exact h1
  · rw [Nat.zero_add]; exact h2
  · rw [Nat.zero_add]; exact h3

/-- What lies where ahead of the posts. -/
structure S1 (w wr : World) (B : Nat) (a : Option Addr) (len cap : Nat) (N : Int) : Prop where
  hole : Hole B w wr
  cur : Cur wr B a len cap N
  lt : w.heap.size < wr.heap.size
  fz : ∀ o, wr.frozen? ⟨w.heap.size, o, none⟩ = false
  seen : ∀ i, i < 4 → ∃ a' xs cp, wr.cell? ⟨w.heap.size, i, none⟩ = some (.slice a' xs.length cp) ∧ xs.length ≤ 4 ∧ Vs wr (w.heap.size + 1) w.heap.size a' xs

theorem S1.start (h : Cur w B a len cap N) : S1 w (w.alloc (.cells #[.slice none 0 0, .slice none 0 0, .slice none 0 0, .slice none 0 0] 28)) B a len cap N where
  hole := (Hole.refl B w).alloc _
  cur := h.below ((Below.refl _ _).alloc (Nat.le_refl _) _)
  lt := by simp
  fz := fun o => by go_simp
  seen := fun i hi => by
    refine ⟨none, [], 0, ?_, by simp, .inl rfl⟩
    rw [cell_of_row _ _ i _ _ (0, 0) (heap_alloc_new w _)]
    match i, hi with
    | 0, _ => rfl
    | 1, _ => rfl
    | 2, _ => rfl
    | 3, _ => rfl

/-- What one site has seen: noughts in new memory. -/
theorem S1.see (h : S1 w wr B a len cap N) (hB : B < w.heap.size) (i : Nat) : S1 w ((wr.alloc (.cells #[.int .i64 0, .int .i64 0, .int .i64 0, .int .i64 0] 3)).setCell ⟨w.heap.size, i, none⟩ (.slice (some ⟨wr.heap.size, 0, none⟩) 4 4)) B a len cap N := by
  have hlt := h.lt
  have hb : Below wr.heap.size wr (wr.alloc (.cells #[.int .i64 0, .int .i64 0, .int .i64 0, .int .i64 0] 3)) := (Below.refl _ _).alloc (Nat.le_refl _) _
  have hv : Vs ((wr.alloc (.cells #[.int .i64 0, .int .i64 0, .int .i64 0, .int .i64 0] 3)).setCell ⟨w.heap.size, i, none⟩ (.slice (some ⟨wr.heap.size, 0, none⟩) 4 4)) (w.heap.size + 1) w.heap.size (some ⟨wr.heap.size, 0, none⟩) [0, 0, 0, 0] := by
    refine Vs.set ?_ _ (.inr rfl) _
    refine .inr ⟨wr.heap.size, rfl, by omega, by show wr.heap.size ≠ w.heap.size; omega, by simp, fun j hj => ?_⟩
    rw [cell_of_row _ _ j _ _ (0, 0) (heap_alloc_new wr _)]
    match j, hj with
    | 0, _ => rfl
    | 1, _ => rfl
    | 2, _ => rfl
    | 3, _ => rfl
  refine ⟨(h.hole.alloc _).setNew (Nat.le_refl _) i _, (h.cur.below hb).setOther hB i _, by simp; omega, fun o => ?_, fun j hj => ?_⟩
  · rw [World.frozen?_setCell]
    exact (hb.frozen (p := ⟨w.heap.size, o, none⟩) hlt).trans (h.fz o)
  · obtain ⟨a2, ys, cp2, h1, h2, h3⟩ := h.seen j hj
    have h1' := (hb.cell (p := ⟨w.heap.size, j, none⟩) hlt).trans h1
    by_cases e : i = j
    · subst e
      exact ⟨_, [0, 0, 0, 0], 4, cell_set_same h1', by simp, hv⟩
    · exact ⟨a2, ys, cp2, cell_set_off h1' e, h2, (h3.of_blocks (by simp) (fun g h1 h2 h3 => hb.block g h3) (.inl rfl)).set _ (.inr rfl) _⟩

theorem S1.see2 (h : S1 w wr B a len cap N) (hB : B < w.heap.size) (i : Nat) : S1 w ((wr.setCell ⟨w.heap.size, i, none⟩ (.slice (some ⟨wr.heap.size, 0, none⟩) 4 4)).alloc (.cells #[.int .i64 0, .int .i64 0, .int .i64 0, .int .i64 0] 3)) B a len cap N := by
  have h2 := h.see hB i
  rw [World.setCell_alloc_past _ _ _ _ h.lt] at h2
  exact h2

/-- No post yet. -/
theorem S1.row (h : S1 w wr B a len cap N) : PS w (wr.alloc (.cells #[] 33)) B a len cap N wr.heap.size 0 0 [] := by
  have hlt := h.lt
  have hb : Below wr.heap.size wr (wr.alloc (.cells #[] 33)) := (Below.refl _ _).alloc (Nat.le_refl _) _
  refine ⟨h.hole.alloc _, h.cur.below hb, by simp; omega, fun o => (hb.frozen (p := ⟨w.heap.size, o, none⟩) hlt).trans (h.fz o), fun j hj => ?_, World.ownsRow_made wr #[] 0 (by omega) (by simp [maxLen]) (by simp), by simp, rfl⟩
  obtain ⟨a2, ys, cp2, h1, h2, h3⟩ := h.seen j hj
  exact ⟨a2, ys, cp2, (hb.cell (p := ⟨w.heap.size, j, none⟩) hlt).trans h1, h2, h3.of_blocks hb.size (fun g h1 h2 h3 => hb.block g h3) (.inr (Nat.le_refl _))⟩

/-- What a site has seen, as a value; and a slice of numbers. -/
def SeenF (base g m : Nat) : Fact := fun v w => ∃ a' xs cp, v = .agg #[.slice a' xs.length cp] ∧ xs.length ≤ m ∧ Vs w base g a' xs

def SeenL (base g m : Nat) : Fact := fun v w => ∃ a' xs cp, v = .slice a' xs.length cp ∧ xs.length ≤ m ∧ Vs w base g a' xs

theorem lasts_seenF {q : Int} {base g' m : Nat} (B : Nat) (hB : B < base) : lasts (CurK q B a len cap) (SeenF base g' m) := by
  rintro v w w' ⟨a', xs, cp, h1, h2, h3⟩ hr
  exact ⟨a', xs, cp, h1, h2, h3.off hr.1 hB⟩

theorem lasts_seenL {q : Int} {base g' m : Nat} (B : Nat) (hB : B < base) : lasts (CurK q B a len cap) (SeenL base g' m) := by
  rintro v w w' ⟨a', xs, cp, h1, h2, h3⟩ hr
  exact ⟨a', xs, cp, h1, h2, h3.off hr.1 hB⟩

end Go.Proofs.Ytpejdhbajejmoaa

/- The draw of posts: the posts as they stand at any place of a block; one more behind them. -/
namespace Go.Proofs.Ytpejdhbajejmoaa
open Go.ChangeShapes Go.WideShapes Go.ChangeAt Go.RowKit Go.Joins

def toPst (e : EnQ) : Pst := ⟨e.f, e.xs, e.y⟩

theorem isPs_of {w : World} {b o : Nat} {es : List EnQ} (hlt : b < w.heap.size) (hc : ∀ j, j < es.length * 3 → w.cell? ⟨b, o + j, none⟩ = (es.flatMap pqVals)[j]?) (hv : ∀ e ∈ es, e.xs.length ≤ 5 ∧ IsIs w e.a e.xs) : IsPs w (some ⟨b, o, none⟩) (es.map toPst) := by
  refine .inr ⟨b, o, rfl, hlt, fun i hi => ?_⟩
  have hi' : i < es.length := by simpa using hi
  have hm : es.getD i ezQ ∈ es := by simp [List.getD, hi']
  have hx : (es.map toPst).getD i pz = toPst (es.getD i ezQ) := by simp [List.getD, hi']
  rw [hx]
  have h3 : ∀ c, c < 3 → w.cell? ⟨b, o + (i * 3 + c), none⟩ = (pqVals (es.getD i ezQ))[c]? := fun c hc' => by rw [hc _ (by omega), pqVals_at es i c hi' hc']
  refine ⟨(es.getD i ezQ).a, (es.getD i ezQ).cp, ⟨?_, ?_, ?_⟩, ?_, (hv _ hm).2⟩
  · exact h3 0 (by omega)
  · exact h3 1 (by omega)
  · exact h3 2 (by omega)
  · have := (hv _ hm).1
    show (es.getD i ezQ).xs.length ≤ maxLen
    unfold maxLen
    omega

theorem small_of {es : List EnQ} (h : ∀ e ∈ es, e.xs.length ≤ 5) : ∀ i, i < (es.map toPst).length → ((es.map toPst).getD i pz).xs.length ≤ 5 := by
  intro i hi
  have hi' : i < es.length := by simpa using hi
  have hm : es.getD i ezQ ∈ es := by simp [List.getD, hi']
  rw [show (es.map toPst).getD i pz = toPst (es.getD i ezQ) by simp [List.getD, hi']]
  exact h _ hm

/-- The posts from place o of block g on. -/
structure OutP (w W : World) (B : Nat) (a : Option Addr) (len cap : Nat) (N : Int) (g o n c : Nat) (es : List EnQ) : Prop where
  hole : Hole B w W
  cur : Cur W B a len cap N
  lo : w.heap.size + 1 ≤ g
  gl : g < W.heap.size
  cells : ∀ j, j < n * 3 → W.cell? ⟨g, o + j, none⟩ = (es.flatMap pqVals)[j]?
  spare : ∀ j, j < c * 3 → (W.cell? ⟨g, o + j, none⟩).isSome = true ∧ W.frozen? ⟨g, o + j, none⟩ = false
  le : n ≤ c
  cm : c ≤ maxLen
  vs : ∀ e ∈ es, e.xs.length ≤ 5 ∧ Vs W (w.heap.size + 1) g e.a e.xs
  len : es.length = n

variable {w wr w' W : World} {B : Nat} {a : Option Addr} {len cap : Nat} {N M : Int} {g k c o n : Nat} {es : List EnQ}

theorem OutP.isPs (h : OutP w W B a len cap N g o n c es) : IsPs W (some ⟨g, o, none⟩) (es.map toPst) :=
  isPs_of h.gl (fun j hj => h.cells j (by rw [← h.len]; exact hj)) (fun e he => ⟨(h.vs e he).1, (h.vs e he).2.isIs⟩)

theorem OutP.move (h : OutP w W B a len cap N g o n c es) (hB : B < w.heap.size) (hh : Hole B W w') (hc : Cur w' B a len cap M) : OutP w w' B a len cap M g o n c es where
  hole := h.hole.trans hh
  cur := hc
  lo := h.lo
  gl := Nat.lt_of_lt_of_le h.gl hh.size
  cells := fun j hj => (hh.cell h.gl (by have := h.lo; omega)).trans (h.cells j hj)
  spare := fun j hj => ⟨by rw [hh.cell h.gl (by have := h.lo; omega)]; exact (h.spare j hj).1, (hh.frozen h.gl (by have := h.lo; omega)).trans (h.spare j hj).2⟩
  le := h.le
  cm := h.cm
  vs := fun e he => ⟨(h.vs e he).1, (h.vs e he).2.off hh (by omega)⟩
  len := h.len

theorem PS.form (h : PS w wr B a len cap N g k c es) : k ≤ c ∧ c ≤ maxLen ∧ ∀ j, j < c * 3 → (wr.cell? ⟨g, j, none⟩).isSome = true ∧ wr.frozen? ⟨g, j, none⟩ = false := by
  rcases h.own.2 with ⟨h1, -⟩ | ⟨g', c', cur, h1, -, h3, h4, h5, h6, -⟩
  · injection h1 with h1
    cases h1
  · injection h1 with h1 h2 h2'
    injection h1 with h1
    injection h1 with h1
    subst h1
    subst h2'
    refine ⟨h4, h5, fun j hj => ⟨?_, h.own.frozenAt j⟩⟩
    rw [cell_of_row _ _ j _ _ (0, 0) h3, Array.getElem?_eq_getElem (by omega)]
    rfl

theorem PS.out (h : PS w wr B a len cap N g k c es) : OutP w wr B a len cap N g 0 k c es where
  hole := h.hole
  cur := h.cur
  lo := h.glt.1
  gl := h.glt.2
  cells := fun j hj => by rw [Nat.zero_add]; exact h.own.cellAt j hj
  spare := fun j hj => by rw [Nat.zero_add]; exact h.form.2.2 j hj
  le := h.form.1
  cm := h.form.2.1
  vs := h.vs
  len := h.len

/-- All but the first. -/
theorem PS.tail (h : PS w wr B a len cap N g (k + 1) c es) : OutP w wr B a len cap N g 3 k (c - 1) es.tail := by
  obtain ⟨f1, f2, f3⟩ := h.form
  have hl := h.len
  match es, hl, h with
  | e :: r, hl, h =>
    refine ⟨h.hole, h.cur, h.glt.1, h.glt.2, fun j hj => ?_, fun j hj => f3 _ (by omega), by omega, by omega, fun d hd => h.vs d (by simp at hd ⊢; exact .inr hd), by simpa using hl⟩
    rw [h.own.cellAt (3 + j) (by omega), List.flatMap_cons, List.getElem?_append_right (by show 3 ≤ 3 + j; omega)]
    show _ = (r.flatMap pqVals)[j]?
    congr 1
    show 3 + j - 3 = j
    omega

/-- None of them, and no room. -/
theorem PS.none (h : PS w wr B a len cap N g k c es) : OutP w wr B a len cap N g 0 0 0 [] :=
  ⟨h.hole, h.cur, h.glt.1, h.glt.2, fun j hj => by omega, fun j hj => by omega, Nat.le_refl _, Nat.zero_le _, fun e he => by simp at he, rfl⟩

set_option maxRecDepth 100000 in
/-- One post more behind them. -/
theorem OutP.app (h : OutP w W B a len cap N g o n c es) (hB : B < w.heap.size) (hn : n ≤ 100) (t ty : TypeId) (i : TypeInfo) (z : Value) (ht : Try.prog.underlying t = some (.slice 33)) (hi : Try.prog.info? 33 = some i) (hz : i.zero = some z) (hsize : i.size = 3) (hby : i.bytes = 40)
    (X : Nat) (e : EnQ) (hnews : ∀ j u, (pqVals e)[j]? = some u → W.cell? ((⟨X, 0, none⟩ : Addr).add j) = some u) (he : e.xs.length ≤ 5 ∧ Vs W (w.heap.size + 1) g e.a e.xs) :
    ∃ x cp w', (Builtin.append_ #[t, t] ty #[.slice (some ⟨g, o, none⟩) n c, .slice (some ⟨X, 0, none⟩) 1 1]).run Try.prog W = .ok (.slice x (n + 1) cp) w' ∧ n + 1 ≤ cp ∧ IsPs w' x ((es ++ [e]).map toPst) ∧ Cur w' B a len cap N ∧ Hole B w w' := by
  have hl := h.len
  have hlo := h.lo
  have hgl := h.gl
  have hs : Src Try.prog i.size t (.slice (some ⟨X, 0, none⟩) 1 1) 1 (pqVals e) W := by
    rw [hsize]
    exact Src.ofSlice W ht ⟨X, 0, none⟩ 1 1 _ (by rfl) hnews (pqVals_one e)
  have h3 : (pqVals e).length = 3 := rfl
  have hlen : (es.flatMap pqVals).length = n * 3 := by rw [pqVals_len, hl]
  have hall : ∀ d ∈ es ++ [e], d.xs.length ≤ 5 ∧ Vs W (w.heap.size + 1) g d.a d.xs := fun d hd => by
    rcases List.mem_append.1 hd with hd | hd
    · exact h.vs d hd
    · obtain rfl : d = e := by simpa using hd
      exact he
  by_cases hfit : n + 1 ≤ c
  · have hsome : ∀ j, j < (pqVals e).length → (W.cell? ⟨g, o + n * 3 + j, none⟩).isSome = true := fun j hj => by
      rw [Nat.add_assoc]
      exact (h.spare (n * 3 + j) (by omega)).1
    have hrun := run_append_room_src (P := Try.prog) W t t ty 33 i ht hi g o n c _ 1 (pqVals e) hs hfit (by rw [hsize]; exact hsome) (fun j hj => by rw [hsize, Nat.add_assoc]; exact (h.spare (n * 3 + j) (by omega)).2)
    rw [hsize] at hrun
    refine ⟨_, _, _, hrun, hfit, ?_, ?_, ?_⟩
    · refine isPs_of ?_ (fun j hj => ?_) (fun d hd => ⟨(hall d hd).1, ?_⟩)
      · show g < (((W.setCell _ _).setCell _ _).setCell _ _).heap.size
        simpa using hgl
      · rw [List.length_append, hl] at hj
        simp only [List.length_cons, List.length_nil] at hj
        rw [List.flatMap_append]
        by_cases hj' : j < n * 3
        · rw [List.getElem?_append_left (by omega), World.cell?_setCells_out g _ _ _ _ (fun _ _ => Or.inl (by show o + j < o + n * 3; omega))]
          exact h.cells j hj'
        · have hj3 : j - n * 3 < (pqVals e).length := by omega
          have := World.cell?_setCells_in g (pqVals e) (o + n * 3) W hsome (j - n * 3) hj3
          rw [show o + n * 3 + (j - n * 3) = o + j by omega] at this
          rw [this, List.getElem?_append_right (by omega), hlen]
          simp only [List.flatMap_cons, List.flatMap_nil, List.append_nil]
          exact (List.getElem?_eq_getElem hj3).symm
      · exact ((((hall d hd).2.set ⟨g, o + n * 3, none⟩ (.inr rfl) _).set ⟨g, o + n * 3 + 1, none⟩ (.inr rfl) _).set ⟨g, o + n * 3 + 1 + 1, none⟩ (.inr rfl) _).isIs
    · exact ((h.cur.setOther (R := g) (by omega) _ _).setOther (by omega) _ _).setOther (by omega) _ _
    · exact ((h.hole.setNew (R := g) (by omega) _ _).setNew (by omega) _ _).setNew (by omega) _ _
  · have hc : c < n + 1 := by omega
    have hold : (Builtin.firstCells i.size n (.slice (some ⟨g, o, none⟩) n c)).run Try.prog W.drew = .ok (es.flatMap pqVals).toArray W.drew := by
      rw [hsize]
      refine run_firstCells_some W.drew 3 n ⟨g, o, none⟩ n c _ hlen (fun j u hu => ?_)
      have hj : j < n * 3 := by rw [← hlen]; exact (List.getElem?_eq_some_iff.1 hu).1
      rw [add_at]
      exact (h.cells j hj).trans hu
    have hrun := run_append_grow_src (P := Try.prog) W t t ty 33 i z ht hi hz (some ⟨g, o, none⟩) n c (es.flatMap pqVals) hold _ 1 (pqVals e) hs hc (by omega) (growslice_fits hc (by rw [hby]; omega))
    have hb : Below W.heap.size W (W.drew.alloc (.cells ((es.flatMap pqVals ++ pqVals e).toArray ++ Builtin.zeroCells z.cells (grownCap W (n + 1) c 33 - (n + 1))) 33)) := (Below.refl _ _).drew.alloc (Nat.le_refl _) _
    refine ⟨_, _, _, hrun, grownCap_ge W (n + 1) c _, ?_, h.cur.below hb, h.hole.trans (Hole.of_below hb)⟩
    refine isPs_of (by simp) (fun j hj => ?_) (fun d hd => ⟨(hall d hd).1, ((hall d hd).2.off (Hole.of_below (B := B) hb) (by omega)).isIs⟩)
    rw [Nat.zero_add]
    have e1 : (W.drew.alloc (.cells ((es.flatMap pqVals ++ pqVals e).toArray ++ Builtin.zeroCells z.cells (grownCap W (n + 1) c 33 - (n + 1))) 33)).cell? ⟨W.heap.size, j, none⟩ = _ := World.cell?_alloc_new W.drew _ _ j
    rw [List.length_append, hl] at hj
    simp only [List.length_cons, List.length_nil] at hj
    rw [e1, Array.getElem?_append_left (by simp only [List.size_toArray, List.length_append, hlen, h3]; omega), List.getElem?_toArray, List.flatMap_append]
    simp only [List.flatMap_cons, List.flatMap_nil, List.append_nil]

theorem wpList_app {w W : World} {B : Nat} {a0 : Option Addr} {len cap : Nat} {N : Int} {g o n c : Nat} {es : List EnQ} {ops : Array Oper} {rest : List Oper} {q : Oper} {a : Act} {Q : Exit → Act → World → Prop} (h : OutP w W B a0 len cap N g o n c es) (hB : B < w.heap.size) (hn : n ≤ 100) (hgd : q.guard = none) (s x : Operand) (t : TypeId)
    (ho : q.op = .call { callee := .builtin .append, args := #[s, x], argTypes := #[t, t] }) (i : TypeInfo) (z : Value) (ht : Try.prog.underlying t = some (.slice 33)) (hi : Try.prog.info? 33 = some i) (hz : i.zero = some z) (hsize : i.size = 3) (hby : i.bytes = 40)
    (hv : a.eval s = .slice (some ⟨g, o, none⟩) n c) (X : Nat) (hx : a.eval x = .slice (some ⟨X, 0, none⟩) 1 1) (e : EnQ) (hnews : ∀ j u, (pqVals e)[j]? = some u → W.cell? ((⟨X, 0, none⟩ : Addr).add j) = some u) (he : e.xs.length ≤ 5 ∧ Vs W (w.heap.size + 1) g e.a e.xs)
    (hK : ∀ x cp w', n + 1 ≤ cp → IsPs w' x ((es ++ [e]).map toPst) → Cur w' B a0 len cap N → Hole B w w' → wpList Try.prog ops Q rest (a.put q.dst (.slice x (n + 1) cp)) w') : wpList Try.prog ops Q (q :: rest) a W := by
  refine wpList_plain hgd fun K hK' => ?_
  obtain ⟨x', cp, w', hrun, h0, h1, h2, h3⟩ := h.app hB hn t q.type i z ht hi hz hsize hby X e hnews he
  unfold Oper.wp
  simp [execOp, ho, resolve, invoke, builtin, hv, hx, hrun, Result.andThen]
  exact hK' _ _ (hK x' cp w' h0 h1 h2 h3)

end Go.Proofs.Ytpejdhbajejmoaa
