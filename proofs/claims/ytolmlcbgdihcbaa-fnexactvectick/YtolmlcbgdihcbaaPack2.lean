import Derived.Test.YtolmlcbgdihcbaaPack1
import Derived.ChangeSlices
import Derived.Deep.OwnRows
import Derived.Laws.Cover3
import Derived.BigQuiet
import Derived.Deep.Slices
import Derived.Deep.Strs
import Derived.LoopN
import Derived.Lib.MinMax
/- Lists of numbers that come in: opened, and copied by toIntS. -/
namespace Go.Proofs.Ytolmlcbgdihcbaa
open Go.ChangeShapes Go.WideShapes Go.ChangeAt Go.RowKit Go.Joins
attribute [local go_sem ↓] Go.wp_at_zero Go.wp_at_succ

def Rng64 (z : Int) : Prop := -9223372036854775808 ≤ z ∧ z ≤ 9223372036854775807

/-- What a slice of numbers, from whatever place of its block on, leads to. -/
def IsIs (w : World) (a : Option Addr) (zs : List Int) : Prop :=
  zs = [] ∨ ∃ b o, a = some ⟨b, o, none⟩ ∧ b < w.heap.size ∧ ∀ i, i < zs.length → w.cell? ⟨b, o + i, none⟩ = some (.int .i64 (zs.getD i 0))

set_option maxRecDepth 100000 in
theorem IsIs.below {w w' : World} {a : Option Addr} {zs : List Int} (h : IsIs w a zs) (hb : Below w.heap.size w w') : IsIs w' a zs := by
  rcases h with h | ⟨b, o, ha, hlt, hh⟩
  · exact .inl h
  · exact .inr ⟨b, o, ha, Nat.lt_of_lt_of_le hlt hb.size, fun i hi => (hb.cell (p := ⟨b, o + i, none⟩) hlt).trans (hh i hi)⟩

set_option maxRecDepth 100000 in
theorem IsIs.at {w w' : World} {a : Option Addr} {zs : List Int} (h : IsIs w a zs) (hb : Below w.heap.size w w') {k : Nat} (hk : k < zs.length) : ∃ b o, a = some ⟨b, o, none⟩ ∧ b < w'.heap.size ∧ w'.cell? ⟨b, o + k, none⟩ = some (.int .i64 (zs.getD k 0)) := by
  rcases h.below hb with h | ⟨b, o, ha, hlt, hh⟩
  · subst h
    simp at hk
  · exact ⟨b, o, ha, hlt, hh k hk⟩

set_option maxRecDepth 100000 in
theorem IsInts.isIs {w : World} {a : Option Addr} {zs : List Int} (h : IsInts w a zs) : IsIs w a zs := by
  rcases h with h | ⟨b, ha, hlt, hh⟩
  · exact .inl h
  · exact .inr ⟨b, 0, ha, hlt, fun i hi => by rw [Nat.zero_add]; exact hh i hi⟩

set_option maxRecDepth 100000 in
theorem open_intS {H : Type} {enc : TypeId × Value → H} {w : World} {base b0 : Nat} {held : Bool} {r : Go.Reach} {v : Value} {d : DataW H} {p : List MemPlace} (hv : Value.okWide Try.prog w r b0 22 v) (h : DataW.Trod enc Try.prog w base (fun _ => true) held 22 v d p) :
    ∃ (a : Option Addr) (len cap : Nat) (zs : List Int), v = .slice a len cap ∧ (zs.length = len ∧ len ≤ maxLen ∧ IsIs w a zs ∧ ∀ z ∈ zs, Rng64 z) := by
  obtain ⟨a, len, cap, rfl⟩ := okWide_slice Try.underlying22 hv
  obtain ⟨fuel, hf⟩ := h
  rcases open_ints Try.underlying22 Try.underlying3 (by kernel_rfl) hf with ⟨hcs, _⟩ | ⟨x, l, c, zs, hcs, _, hl, hm, hz, _, hcell, hwz⟩
  · simp [Value.cells] at hcs
    obtain ⟨rfl, rfl, rfl⟩ := hcs
    exact ⟨_, _, _, [], rfl, rfl, Nat.zero_le _, .inl rfl, fun z hz => by simp at hz⟩
  · simp [Value.cells] at hcs
    obtain ⟨rfl, rfl, rfl⟩ := hcs
    have hzl : zs.length = cap := by simpa using hz
    refine ⟨_, _, _, zs.take len, rfl, by rw [List.length_take]; omega, by omega, ?_, fun z hz => ?_⟩
    · by_cases h0 : len = 0
      · subst h0
        exact .inl (by simp)
      · have hx : x = ⟨x.block, x.off, none⟩ := by
          have h1 := hcell 0 (by omega)
          simp [Addr.add] at h1
          cases x with
          | mk b o s =>
            cases s with
            | none => rfl
            | some s =>
              simp only [World.cell?] at h1
              split at h1 <;> simp at h1
        refine .inr ⟨x.block, x.off, by rw [← hx], ?_, fun i hi => ?_⟩
        · have h1 := hcell 0 (by omega)
          have := World.block_lt_of_cell? w _ h1
          simpa [Addr.add] using this
        · have hi' : i < len := by rw [List.length_take] at hi; omega
          have h1 := hcell i (by omega)
          have e1 : x.add i = ⟨x.block, x.off + i, none⟩ := by
            rw [hx]
            unfold Addr.add
            split
            · rename_i h
              rw [h]
              rfl
            · rfl
          rw [e1] at h1
          rw [h1]
          simp [List.getD, hi']
    · have hw := hwz z (List.mem_of_mem_take hz)
      simp only [Lit.wf, Bool.and_eq_true, decide_eq_true_eq] at hw
      exact hw

def intFill (zs : List Int) (k j : Nat) : Value := .int .i64 (if j < k then zs.getD j 0 else 0)

set_option maxRecDepth 100000 in
theorem intFill_step (zs : List Int) (k j : Nat) : (if j = k then Value.int .i64 (zs.getD k 0) else intFill zs k j) = intFill zs (k + 1) j := by
  unfold intFill
  by_cases h : j = k
  · rw [if_pos h, if_pos (by omega), h]
  · rw [if_neg h]
    by_cases hl : j < k
    · rw [if_pos hl, if_pos (by omega)]
    · rw [if_neg hl, if_neg (by omega)]

set_option maxRecDepth 100000 in
theorem rowInt_start (w : World) (t n : Nat) (zs : List Int) : (w.alloc (.cells (madeCells #[.int .i64 0] n) t)).rowIs w.heap.size t n (intFill zs 0) := by
  refine ⟨_, Go.Deep.blk_alloc_new _ _, size_madeCells _ _, fun i hi => ?_⟩
  have e : intFill zs 0 i = .int .i64 0 := by unfold intFill; rw [if_neg (by omega)]
  rw [e]
  have h1 : i % 1 = 0 := by omega
  simp [madeCells, hi, h1]

set_option maxRecDepth 100000 in
theorem run_make_ints (n : Nat) (hn : n ≤ 1048576) (w : World) :
    (Instr.makeSlice 22 (.int .i64 (n : Int)) (.int .i64 (n : Int))).run Try.prog w = .ok (.slice (some ⟨w.heap.size, 0, none⟩) n n) (w.alloc (.cells (madeCells #[.int .i64 0] n) 3)) := by
  obtain ⟨i, hi, hzz⟩ := Option.map_eq_some_iff.1 infoInt
  simp only [Prod.mk.injEq] at hzz
  obtain ⟨hz, hs, hb⟩ := hzz
  have hr := run_make (P := Try.prog) w 22 3 i _ Try.underlying22 hi hz .i64 .i64 n n (by omega) (Int.le_refl _) (by rw [hb]; omega) (by omega)
  simp only [Int.toNat_natCast, hs, Nat.mul_one] at hr
  exact hr

set_option maxRecDepth 100000 in
set_option maxHeartbeats 1000000 in
theorem toIntS_lt (a : Option Addr) (n cap : Nat) (zs : List Int) (w : World) (hl : zs.length = n) (hn : n ≤ 1048576) (hh : IsIs w a zs) :
    Calls Try.prog 36 #[.slice a n cap] w fun e w' => e = .returned (.slice (some ⟨w.heap.size, 0, none⟩) n n) ∧ w.heap.size < w'.heap.size ∧ OwnI w' w.heap.size (w.heap.size + 1) (some ⟨w.heap.size, 0, none⟩) zs ∧ Below w.heap.size w w' := by
  have HH : Hid (IsIs w a zs) := hh
  have HL : Hid (zs.length = n) := hl
  clear hh hl
  have hmk := run_make_ints n hn
  go_enter Try.func36, Try.ntmps36
  go_wp2
  clear hmk
  go_loopw [4] (fun i wr => ∃ k : Nat, k ≤ n ∧ i = .int .i64 k ∧ Hid (wr.rowIs w.heap.size 3 n (intFill zs k)) ∧ Hid (Below w.heap.size w wr)) (fun i _ => n - (intOf i).toNat)
  case atStart => exact ⟨0, Nat.zero_le _, rfl, rowInt_start _ _ _ _, (Below.refl _ _).alloc (Nat.le_refl _) _⟩
  case round =>
    obtain ⟨k, hk, rfl, HR, HB⟩ := hrel
    by_cases hk' : k < n
    · obtain ⟨b, o, rfl, hz, e0⟩ := HH.out.at HB.out (show k < zs.length by rw [HL.out]; exact hk')
      have i1 : (0 : Int) ≤ (k : Int) := by omega
      have i2 : (k : Int) < (n : Int) := by omega
      have HS : Hid (∀ w2 : World, w2.rowIs w.heap.size 3 n (intFill zs k) → (w2.setCell ⟨w.heap.size, k, none⟩ (.int .i64 (zs.getD k 0))).rowIs w.heap.size 3 n (intFill zs (k + 1))) := fun w2 h2 => (h2.set _ _).congr (fun j _ => intFill_step zs k j)
      have c0 := HR.out.cell (i := k) hk'
      have fz := HR.out.frozen
      clear HH
      generalize zs.getD k 0 = x at *
      go_wp2
      exact ⟨⟨k + 1, by omega, by go_num, HS.out _ HR.out, HB.out.setCell (p := ⟨w.heap.size, k, none⟩) (Nat.le_refl _) _⟩, by simp [intOf]; omega⟩
    · have hkk : k = n := by omega
      subst hkk
      go_wp2
      go_ret
      refine ⟨rfl, HR.out.lt, .inr ⟨_, rfl, Nat.le_refl _, Nat.lt_succ_self _, HR.out.lt, fun i hi => ?_, HR.out.frozen⟩, HB.out⟩
      have hi' : i < k := by rw [← HL.out]; exact hi
      rw [HR.out.cell hi', intFill, if_pos hi']

set_option maxRecDepth 100000 in
theorem toIntS_own (a : Option Addr) (n cap : Nat) (zs : List Int) (w : World) (hl : zs.length = n) (hn : n ≤ 1048576) (hh : IsIs w a zs) :
    Calls Try.prog 36 #[.slice a n cap] w fun e w' => e = .returned (.slice (some ⟨w.heap.size, 0, none⟩) n n) ∧ OwnI w' w.heap.size (w.heap.size + 1) (some ⟨w.heap.size, 0, none⟩) zs ∧ Below w.heap.size w w' :=
  (toIntS_lt a n cap zs w hl hn hh).mono fun _ _ ⟨h1, _, h2, h3⟩ => ⟨h1, h2, h3⟩

end Go.Proofs.Ytolmlcbgdihcbaa

/- Vectors: which are VecOk; the contracts of VecOk of both sides, of the program's ticksOf, and of the laws' szVec, toVec, eqVec. -/
namespace Go.Proofs.Ytolmlcbgdihcbaa
open Go.ChangeShapes Go.WideShapes Go.ChangeAt Go.RowKit Go.Joins
attribute [local go_sem ↓] Go.wp_at_zero Go.wp_at_succ

abbrev vecV (a : Option Addr) (n cap : Nat) : Value := .agg #[.slice a n cap]

abbrev tkV (x0 x1 x2 x3 : Int) : Value := .agg #[.int .i64 x0, .int .i64 x1, .int .i64 x2, .int .i64 x3]

/-- Four numbers, all in 0 .. m. -/
def perB (m : Int) (zs : List Int) : Bool := decide (zs.length = 4) && zs.all fun z => btw z 0 m

def okT (z : Int) : Bool := btw z 0 1000000

def vecB (zs : List Int) : Bool := perB 1000000 zs

theorem okT_iff (z : Int) : okT z = true ↔ 0 ≤ z ∧ z ≤ 1000000 := by
  unfold okT btw
  simp

theorem perB_four {m : Int} {zs : List Int} (h : perB m zs = true) : ∃ x0 x1 x2 x3, zs = [x0, x1, x2, x3] ∧ (0 ≤ x0 ∧ x0 ≤ m) ∧ (0 ≤ x1 ∧ x1 ≤ m) ∧ (0 ≤ x2 ∧ x2 ≤ m) ∧ (0 ≤ x3 ∧ x3 ≤ m) := by
  unfold perB at h
  rw [Bool.and_eq_true, decide_eq_true_iff] at h
  obtain ⟨hl, ha⟩ := h
  match zs, hl, ha with
  | [x0, x1, x2, x3], _, ha =>
    simp only [List.all_cons, List.all_nil, Bool.and_true, Bool.and_eq_true, btw, decide_eq_true_iff] at ha
    exact ⟨x0, x1, x2, x3, rfl, ha⟩

theorem vecB_four {zs : List Int} (h : vecB zs = true) : ∃ x0 x1 x2 x3, zs = [x0, x1, x2, x3] ∧ (0 ≤ x0 ∧ x0 ≤ 1000000) ∧ (0 ≤ x1 ∧ x1 ≤ 1000000) ∧ (0 ≤ x2 ∧ x2 ≤ 1000000) ∧ (0 ≤ x3 ∧ x3 ≤ 1000000) := perB_four h

theorem perB_is (m x0 x1 x2 x3 : Int) : perB m [x0, x1, x2, x3] = true ↔ (0 ≤ x0 ∧ x0 ≤ m) ∧ (0 ≤ x1 ∧ x1 ≤ m) ∧ (0 ≤ x2 ∧ x2 ≤ m) ∧ (0 ≤ x3 ∧ x3 ≤ m) := by
  unfold perB
  simp only [List.length_cons, List.length_nil, List.all_cons, List.all_nil, Bool.and_true, Bool.and_eq_true, btw, decide_eq_true_iff]
  simp

theorem vecB_is (x0 x1 x2 x3 : Int) : vecB [x0, x1, x2, x3] = true ↔ (0 ≤ x0 ∧ x0 ≤ 1000000) ∧ (0 ≤ x1 ∧ x1 ≤ 1000000) ∧ (0 ≤ x2 ∧ x2 ≤ 1000000) ∧ (0 ≤ x3 ∧ x3 ≤ 1000000) := perB_is _ _ _ _ _

theorem perB_len {m : Int} {zs : List Int} (h : zs.length ≠ 4) : perB m zs = false := by
  unfold perB
  rw [decide_eq_false h, Bool.false_and]

theorem vecB_len {zs : List Int} (h : zs.length ≠ 4) : vecB zs = false := perB_len h

theorem perB_bad {m : Int} {zs : List Int} {k : Nat} (hk : k < zs.length) (h : btw (zs.getD k 0) 0 m = false) : perB m zs = false := by
  unfold perB
  have : zs.all (fun z => btw z 0 m) = false := List.all_eq_false.2 ⟨zs.getD k 0, by simp [List.getD, hk], by rw [h]; simp⟩
  rw [this, Bool.and_false]

theorem vecB_bad {zs : List Int} {k : Nat} (hk : k < zs.length) (h : okT (zs.getD k 0) = false) : vecB zs = false := perB_bad hk h

theorem perB_good {m : Int} {zs : List Int} (hl : zs.length = 4) (h : ∀ k, k < 4 → btw (zs.getD k 0) 0 m = true) : perB m zs = true := by
  unfold perB
  rw [decide_eq_true hl, Bool.true_and, List.all_eq_true]
  intro z hz
  obtain ⟨i, hi, rfl⟩ := List.getElem_of_mem hz
  have := h i (by omega)
  simpa [List.getD, hi] using this

theorem vecB_good {zs : List Int} (hl : zs.length = 4) (h : ∀ k, k < 4 → okT (zs.getD k 0) = true) : vecB zs = true := perB_good hl h

theorem perB_next {m : Int} {zs : List Int} {k : Nat} (h : ∀ j, j < k → btw (zs.getD j 0) 0 m = true) (hk : btw (zs.getD k 0) 0 m = true) : ∀ j, j < k + 1 → btw (zs.getD j 0) 0 m = true := fun j hj => by
  by_cases h' : j < k
  · exact h j h'
  · have : j = k := by omega
    rw [this]
    exact hk

theorem okT_next {zs : List Int} {k : Nat} (h : ∀ j, j < k → okT (zs.getD j 0) = true) (hk : okT (zs.getD k 0) = true) : ∀ j, j < k + 1 → okT (zs.getD j 0) = true := perB_next h hk

set_option maxRecDepth 100000 in
theorem inRangeM (m n : Int) (v : Bool) (h : btw n 0 m = v) (w : World) :
    Calls Try.prog 50 #[.int .i64 n, .int .i64 0, .int .i64 m] w fun e w' => e = .returned (.bool v) ∧ w' = w := by
  rw [← h]
  exact inRange_any n 0 m w

set_option maxRecDepth 100000 in
theorem betweenT (n : Int) (v : Bool) (h : okT n = v) (w : World) :
    Calls Try.prog 35 #[.int .i64 n, .int .i64 0, .int .i64 1000000] w fun e w' => e = .returned (.bool v) ∧ w' = w := by
  rw [← h]
  exact between_any n 0 1000000 w

set_option maxRecDepth 100000 in
set_option maxHeartbeats 2000000 in
theorem specVecOk_any (a : Option Addr) (n cap : Nat) (zs : List Int) (w : World) (hl : zs.length = n) (hn : n ≤ maxLen) (hh : IsIs w a zs) :
    Calls Try.prog 10 #[vecV a n cap] w fun e w' => e = .returned (.bool (vecB zs)) ∧ Below w.heap.size w w' := by
  have HH : Hid (IsIs w a zs) := hh
  have HN : Hid (zs.length = n) := hl
  have HB : Hid (Below w.heap.size w (w.alloc (.cells #[.slice a n cap] 27))) := (Below.refl _ _).alloc (Nat.le_refl _) _
  clear hh hl
  by_cases h4 : n = 4
  · subst h4
    go_enter Try.func10, Try.ntmps10
    go_wp2
    go_loopw [3] (fun i wr => ∃ k : Nat, k ≤ 4 ∧ i = .int .i64 k ∧ Hid (∀ j, j < k → okT (zs.getD j 0) = true) ∧ wr = w.alloc (.cells #[.slice a 4 cap] 27)) (fun i _ => 4 - (intOf i).toNat)
    case atStart => exact ⟨0, Nat.zero_le _, rfl, fun j hj => by omega, rfl⟩
    case round =>
      obtain ⟨k, hk, rfl, HG, rfl⟩ := hrel
      by_cases hk' : k < 4
      · have hkz : k < zs.length := by rw [HN.out]; exact hk'
        obtain ⟨b, o, rfl, hz, e0⟩ := HH.out.at (Below.refl _ _) hkz
        have hz : b < w.heap.size := hz
        have i1 : (0 : Int) ≤ (k : Int) := by omega
        have i2 : (k : Int) < 4 := by omega
        clear HH
        cases h1 : okT (zs.getD k 0)
        · have HF : Hid (vecB zs = false) := vecB_bad hkz h1
          generalize zs.getD k 0 = x at *
          go_wp2_with (go_at_call 35; refine (betweenT _ false h1 _).mono ?_; rintro e w' ⟨rfl, rfl⟩)
          go_ret
          exact ⟨ret_bool HF.out.symm, HB.out⟩
        · have HG2 : Hid (∀ j, j < k + 1 → okT (zs.getD j 0) = true) := okT_next HG.out h1
          generalize zs.getD k 0 = x at *
          go_wp2_with (go_at_call 35; refine (betweenT _ true h1 _).mono ?_; rintro e w' ⟨rfl, rfl⟩)
          exact ⟨⟨k + 1, by omega, by go_num, HG2, trivial⟩, by simp [intOf]; omega⟩
      · have hkk : k = 4 := by omega
        subst hkk
        have HF : Hid (vecB zs = true) := vecB_good HN.out HG.out
        go_wp2
        go_ret
        exact ⟨ret_bool HF.out.symm, HB.out⟩
  · have HF : Hid (vecB zs = false) := vecB_len (by rw [HN.out]; exact h4)
    have h4' : ¬ (n : Int) = 4 := by omega
    go_enter Try.func10, Try.ntmps10
    go_wp2
    go_ret
    exact ⟨ret_bool HF.out.symm, HB.out⟩

set_option maxRecDepth 100000 in
set_option maxHeartbeats 2000000 in
theorem perSiteOf_any (m : Int) (a : Option Addr) (n cap : Nat) (zs : List Int) (w : World) (hl : zs.length = n) (hn : n ≤ maxLen) (hh : IsIs w a zs) :
    Calls Try.prog 49 #[.slice a n cap, .int .i64 m] w fun e w' => (∃ x0 x1 x2 x3, e = .returned (.tuple #[tkV x0 x1 x2 x3, .bool (perB m zs)]) ∧ (perB m zs = true → zs = [x0, x1, x2, x3])) ∧ Below w.heap.size w w' := by
  have HH : Hid (IsIs w a zs) := hh
  have HN : Hid (zs.length = n) := hl
  have hres : Try.f49.results = #[.cell 4 59, .tmp 5] := by kernel_rfl
  clear hh hl
  by_cases h4 : n = 4
  · subst h4
    have HB : Hid (Below w.heap.size w (w.alloc (.cells #[.int .i64 0, .int .i64 0, .int .i64 0, .int .i64 0] 59))) := (Below.refl _ _).alloc (Nat.le_refl _) _
    go_enter Try.func49, Try.ntmps49
    go_wp2
    go_loopw [14] (fun i wr => ∃ k : Nat, k ≤ 4 ∧ i = .int .i64 k ∧ Hid (∀ j, j < k → btw (zs.getD j 0) 0 m = true) ∧ wr = w.alloc (.cells #[.int .i64 0, .int .i64 0, .int .i64 0, .int .i64 0] 59)) (fun i _ => 4 - (intOf i).toNat)
    case atStart => exact ⟨0, Nat.zero_le _, rfl, fun j hj => by omega, rfl⟩
    case round =>
      obtain ⟨k, hk, rfl, HG, rfl⟩ := hrel
      by_cases hk' : k < 4
      · have hkz : k < zs.length := by rw [HN.out]; exact hk'
        obtain ⟨b, o, rfl, hz, e0⟩ := HH.out.at (Below.refl _ _) hkz
        have i1 : (0 : Int) ≤ (k : Int) := by omega
        have i2 : (k : Int) < 4 := by omega
        clear HH
        cases h1 : btw (zs.getD k 0) 0 m
        · have HF : Hid (perB m zs = false) := perB_bad hkz h1
          generalize zs.getD k 0 = x at *
          go_wp2_with (go_at_call 50; refine (inRangeM m _ false h1 _).mono ?_; rintro e w' ⟨rfl, rfl⟩)
          refine bodyPost_ret (v := .tuple #[tkV 0 0 0 0, .bool false]) (by simp only [results, hres]; go_simp) rfl ⟨⟨0, 0, 0, 0, by rw [HF.out], fun h => by rw [HF.out] at h; cases h⟩, HB.out⟩
        · have HG2 : Hid (∀ j, j < k + 1 → btw (zs.getD j 0) 0 m = true) := perB_next HG.out h1
          generalize zs.getD k 0 = x at *
          go_wp2_with (go_at_call 50; refine (inRangeM m _ true h1 _).mono ?_; rintro e w' ⟨rfl, rfl⟩)
          exact ⟨⟨k + 1, by omega, by go_num, HG2, trivial⟩, by simp [intOf]; omega⟩
      · have hkk : k = 4 := by omega
        subst hkk
        have hF : perB m zs = true := perB_good HN.out HG.out
        obtain ⟨x0, x1, x2, x3, rfl, -⟩ := perB_four hF
        have HF := Lib.hid hF
        obtain ⟨b, o, rfl, hz, e0⟩ := HH.out.at (Below.refl _ _) (k := 0) (by simp)
        obtain ⟨_, _, he, -, e1⟩ := HH.out.at (Below.refl _ _) (k := 1) (by simp)
        injection he with he
        injection he with he1 he2
        subst he1
        subst he2
        obtain ⟨_, _, he, -, e2⟩ := HH.out.at (Below.refl _ _) (k := 2) (by simp)
        injection he with he
        injection he with he1 he2
        subst he1
        subst he2
        obtain ⟨_, _, he, -, e3⟩ := HH.out.at (Below.refl _ _) (k := 3) (by simp)
        injection he with he
        injection he with he1 he2
        subst he1
        subst he2
        simp only [Nat.add_zero, List.getD_cons_zero, List.getD_cons_succ] at e0 e1 e2 e3
        have hat : ∀ w, (Instr.arrayAt 59 (.slice (some ⟨b, o, none⟩) 4 cap)).run Try.prog w = .ok (.pointer (some ⟨b, o, none⟩)) w := fun w => run_arrayAt w 59 _ 4 _ 4 cap Try.underlying59 (Nat.le_refl _)
        clear hF HH
        go_wp2_with (simp only [hat])
        refine bodyPost_ret (v := .tuple #[tkV x0 x1 x2 x3, .bool true]) (by simp only [results, hres]; go_simp) rfl ⟨⟨x0, x1, x2, x3, by rw [HF.out], fun _ => ⟨rfl, rfl, rfl, rfl⟩⟩, (Below.refl _ _).alloc (Nat.le_refl _) _⟩
  · have HF : Hid (perB m zs = false) := perB_len (by rw [HN.out]; exact h4)
    have h4' : ¬ (n : Int) = 4 := by omega
    go_enter Try.func49, Try.ntmps49
    go_wp2
    refine bodyPost_ret (v := .tuple #[tkV 0 0 0 0, .bool false]) (by simp only [results, hres]; go_simp) rfl ⟨⟨0, 0, 0, 0, by rw [HF.out], fun h => by rw [HF.out] at h; cases h⟩, (Below.refl _ _).alloc (Nat.le_refl _) _⟩

theorem low4 {w w' : World} {B b : Nat} (h : Below B w w') (hb : B ≤ b) (v0 v1 v2 v3 : Value) : Below B w ((((w'.setCell ⟨b, 0, none⟩ v0).setCell ⟨b, 1, none⟩ v1).setCell ⟨b, 2, none⟩ v2).setCell ⟨b, 3, none⟩ v3) :=
  (((h.setCell (p := ⟨b, 0, none⟩) hb _).setCell (p := ⟨b, 1, none⟩) hb _).setCell (p := ⟨b, 2, none⟩) hb _).setCell (p := ⟨b, 3, none⟩) hb _

set_option maxRecDepth 100000 in
theorem ticksOf_any (a : Option Addr) (n cap : Nat) (zs : List Int) (w : World) (hl : zs.length = n) (hn : n ≤ maxLen) (hh : IsIs w a zs) :
    Calls Try.prog 37 #[.slice a n cap] w fun e w' => (∃ x0 x1 x2 x3, e = .returned (.tuple #[tkV x0 x1 x2 x3, .bool (vecB zs)]) ∧ (vecB zs = true → zs = [x0, x1, x2, x3])) ∧ Below w.heap.size w w' := by
  have hres : Try.f37.results = #[.cell 2 59, .tmp 3] := by kernel_rfl
  have HB0 : Hid (Below w.heap.size w (w.alloc (.cells #[.int .i64 0, .int .i64 0, .int .i64 0, .int .i64 0] 59))) := (Below.refl _ _).alloc (Nat.le_refl _) _
  have HH := Lib.hid (hh.below HB0.out)
  clear hh
  go_enter Try.func37, Try.ntmps37
  go_wp2_with fail
  refine (perSiteOf_any 1000000 a n cap zs _ hl hn HH.out).mono ?_
  rintro e w1 ⟨⟨x0, x1, x2, x3, rfl, hx⟩, hb⟩
  have HX := Lib.hid hx
  have HB := Lib.hid (below_step HB0.out HB0.out.size hb)
  obtain ⟨hc, hf⟩ := bcell hb
  have hz : w.heap.size < w1.heap.size := by have := hb.size; simp at this; omega
  clear hx hb
  have HZ : Hid (perB 1000000 zs = vecB zs) := Lib.hid rfl
  rw [HZ.out] at HX
  rw [HZ.out]
  clear HZ
  obtain ⟨v, HV⟩ : ∃ v, Hid (vecB zs = v) := ⟨_, Lib.hid rfl⟩
  rw [HV.out]
  go_wp2
  refine bodyPost_ret (v := .tuple #[tkV x0 x1 x2 x3, .bool v]) (by simp only [results, hres]; go_simp) rfl ⟨⟨x0, x1, x2, x3, by rw [HV.out], HX.out⟩, ?_⟩
  exact low4 HB.out (Nat.le_refl _) _ _ _ _

set_option maxRecDepth 100000 in
theorem implVecOk_any (a : Option Addr) (n cap : Nat) (zs : List Int) (w : World) (hl : zs.length = n) (hn : n ≤ maxLen) (hh : IsIs w a zs) :
    Calls Try.prog 12 #[vecV a n cap] w fun e w' => e = .returned (.bool (vecB zs)) ∧ Below w.heap.size w w' := by
  have HH : Hid (IsIs w a zs) := hh
  have HN : Hid (zs.length = n) := hl
  have HB : Hid (Below w.heap.size w (w.alloc (.cells #[.slice a n cap] 27))) := (Below.refl _ _).alloc (Nat.le_refl _) _
  clear hh hl
  go_enter Try.func12, Try.ntmps12
  go_wp2_with fail
  refine (ticksOf_any a n cap zs _ HN.out hn (HH.out.below HB.out)).mono ?_
  rintro e w1 ⟨⟨x0, x1, x2, x3, rfl, -⟩, hb⟩
  have HB1 : Hid (Below w.heap.size w w1) := below_step HB.out HB.out.size hb
  clear hb
  go_wp2
  go_ret
  exact ⟨rfl, HB1.out.alloc HB1.out.size _⟩

theorem szIntS_small (a : Option Addr) (len cap : Nat) (left : Int) (w : World) (h0 : 0 ≤ left) (h1 : left ≤ 1048576) (h : (len : Int) ≤ left) :
    Calls Try.prog 34 #[.slice a len cap, .int .i64 left] w fun e w' => e = .returned (.int .i64 (left - len)) ∧ w' = w := by
  have hn : ¬ left - (len : Int) < 0 := by omega
  go_enter Try.func34, Try.ntmps34
  go_wp2
  go_ret
  exact ⟨rfl, rfl⟩

theorem szIntS_big (a : Option Addr) (len cap : Nat) (left : Int) (w : World) (h0 : 0 ≤ left) (h1 : left ≤ 1048576) (h : left < (len : Int)) (hm : len ≤ maxLen) :
    Calls Try.prog 34 #[.slice a len cap, .int .i64 left] w fun e w' => e = .returned (.int .i64 (-1)) ∧ w' = w := by
  have hn : left - (len : Int) < 0 := by omega
  have hmm : (len : Int) ≤ 9223372036854775807 := by unfold maxLen at hm; omega
  go_enter Try.func34, Try.ntmps34
  go_wp2
  go_ret
  exact ⟨rfl, rfl⟩

theorem szVec_small (a : Option Addr) (len cap : Nat) (left : Int) (w : World) (h0 : 0 ≤ left) (h1 : left ≤ 1048576) (h : (len : Int) ≤ left) :
    Calls Try.prog 9 #[vecV a len cap, .int .i64 left] w fun e w' => e = .returned (.int .i64 (left - len)) ∧ Below w.heap.size w w' := by
  go_enter Try.func9, Try.ntmps9
  go_wp2_with (go_at_call 34; refine (szIntS_small _ _ _ _ _ h0 h1 h).mono ?_; rintro e w' ⟨rfl, rfl⟩)
  go_ret
  exact ⟨rfl, (Below.refl _ _).alloc (Nat.le_refl _) _⟩

theorem szVec_big (a : Option Addr) (len cap : Nat) (left : Int) (w : World) (h0 : 0 ≤ left) (h1 : left ≤ 1048576) (h : left < (len : Int)) (hm : len ≤ maxLen) :
    Calls Try.prog 9 #[vecV a len cap, .int .i64 left] w fun e w' => e = .returned (.int .i64 (-1)) ∧ Below w.heap.size w w' := by
  go_enter Try.func9, Try.ntmps9
  go_wp2_with (go_at_call 34; refine (szIntS_big _ _ _ _ _ h0 h1 h hm).mono ?_; rintro e w' ⟨rfl, rfl⟩)
  go_ret
  exact ⟨rfl, (Below.refl _ _).alloc (Nat.le_refl _) _⟩

theorem OwnI.aside {w : World} {lo hi : Nat} {a : Option Addr} {zs : List Int} {p : Addr} (h : OwnI w lo hi a zs) (hp : p.block < lo) (v : Value) : OwnI (w.setCell p v) lo hi a zs := by
  rcases h with h | ⟨b, ha, h1, h2, hlt, hh, hf⟩
  · exact .inl h
  · refine .inr ⟨b, ha, h1, h2, by simpa using hlt, fun i hi => (World.cell?_setCell_other _ _ _ _ (fun e => ?_)).trans (hh i hi), fun o => by rw [World.frozen?_setCell]; exact hf o⟩
    have : p.block = b := by rw [e]
    omega

theorem OwnI.wider {w : World} {lo hi lo' hi' : Nat} {a : Option Addr} {zs : List Int} (h : OwnI w lo hi a zs) (hl : lo' ≤ lo) (hh : hi ≤ hi') : OwnI w lo' hi' a zs := by
  rcases h with h | ⟨b, ha, h1, h2, hlt, hh', hf⟩
  · exact .inl h
  · exact .inr ⟨b, ha, by omega, by omega, hlt, hh', hf⟩

theorem OwnI.isIs {w : World} {lo hi : Nat} {a : Option Addr} {zs : List Int} (h : OwnI w lo hi a zs) : IsIs w a zs := h.isInts.isIs

set_option maxRecDepth 100000 in
theorem toVec_own (a : Option Addr) (n cap : Nat) (zs : List Int) (w : World) (hl : zs.length = n) (hn : n ≤ 1048576) (hh : IsIs w a zs) :
    Calls Try.prog 11 #[vecV a n cap] w fun e w' => ∃ g, e = .returned (vecV (some ⟨g, 0, none⟩) n n) ∧ OwnI w' w.heap.size w'.heap.size (some ⟨g, 0, none⟩) zs ∧ Below w.heap.size w w' := by
  have HH : Hid (IsIs w a zs) := hh
  have HN : Hid (zs.length = n) := hl
  clear hh hl
  go_enter Try.func11, Try.ntmps11
  go_wp2_with fail
  have HB0 : Hid (Below w.heap.size w (((w.alloc (.cells #[.slice a n cap] 24)).alloc (.cells #[.slice none 0 0] 27)).alloc (.cells #[.slice none 0 0] 27))) := (((Below.refl _ _).alloc (Nat.le_refl _) _).alloc (by simp) _).alloc (by simp; omega) _
  refine (toIntS_lt a n cap zs _ HN.out hn (HH.out.below HB0.out)).mono ?_
  rintro e w1 ⟨rfl, hlt, ho, hb⟩
  have HB1 : Hid (Below w.heap.size w w1) := below_step HB0.out HB0.out.size hb
  obtain ⟨hc, hf⟩ := bcell hb
  have hz : w.heap.size + 1 + 1 + 1 < w1.heap.size := by simpa using hlt
  have hz2 : w.heap.size + 1 + 1 < w1.heap.size := by omega
  have hz1 : w.heap.size + 1 < w1.heap.size := by omega
  have HO : Hid (OwnI w1 (w.heap.size + 1 + 1 + 1) (w.heap.size + 1 + 1 + 1 + 1) (some ⟨w.heap.size + 1 + 1 + 1, 0, none⟩) zs) := by
    show OwnI _ _ _ _ _
    simpa using ho
  clear ho hb hlt
  go_wp2
  refine bodyPost_ret (v := vecV (some ⟨w.heap.size + 1 + 1 + 1, 0, none⟩) n n) (by simp [results, go_sem, hc]) rfl ⟨w.heap.size + 1 + 1 + 1, rfl, ?_, (HB1.out.setCell (by simp; omega) _).setCell (by simp) _⟩
  exact ((HO.out.aside (p := ⟨w.heap.size + 1 + 1, 0, none⟩) (by simp) _).aside (p := ⟨w.heap.size + 1, 0, none⟩) (by simp) _).wider (by omega) (by simp; omega)

set_option maxRecDepth 100000 in
theorem eqVec_same (a a' : Option Addr) (n cap cap' : Nat) (zs : List Int) (w : World) (hl : zs.length = n) (hn : n ≤ 1048576) (hh : IsInts w a zs) (hh' : IsInts w a' zs) :
    Calls Try.prog 13 #[vecV a n cap, vecV a' n cap'] w fun e w' => e = .returned (.bool true) ∧ Below w.heap.size w w' := by
  have HH : Hid (IsInts w a zs) := hh
  have HH' : Hid (IsInts w a' zs) := hh'
  have HN : Hid (zs.length = n) := hl
  clear hh hh' hl
  have HB : Hid (Below w.heap.size w ((w.alloc (.cells #[.slice a n cap] 27)).alloc (.cells #[.slice a' n cap'] 27))) := ((Below.refl _ _).alloc (Nat.le_refl _) _).alloc (by simp) _
  go_enter Try.func13, Try.ntmps13
  go_wp2_with fail
  refine (eqIntS_same a a' n cap cap' zs _ HN.out hn (HH.out.below HB.out) (HH'.out.below HB.out)).mono ?_
  rintro e w1 ⟨rfl, hb⟩
  have HB1 : Hid (Below w.heap.size w w1) := below_step HB.out HB.out.size hb
  clear hb
  go_wp2
  go_ret
  exact ⟨rfl, HB1.out⟩

set_option maxRecDepth 100000 in
theorem markVec_any (lo hi n cap : Nat) (a : Option Addr) (k : Int) (zs : List Int) (w : World) (hn : zs.length = n) (hm : n ≤ 1048576) (h0 : 0 ≤ k) (h1 : k ≤ 1099511627776) (ho : OwnI w lo hi a zs) :
    Calls Try.prog 16 #[vecV a n cap, .int .i64 k] w fun e w' => e = .returned (.int .i64 (k + n)) ∧ MarkedI w' a n k ∧ Only (fun x => lo ≤ x ∧ x < hi) (w.alloc (.cells #[.slice a n cap] 27)) w' := by
  have HO : Hid (OwnI (w.alloc (.cells #[.slice a n cap] 27)) lo hi a zs) := ho.below ((Below.refl _ _).alloc (Nat.le_refl _) _)
  have HN : Hid (zs.length = n) := hn
  clear ho hn
  go_enter Try.func16, Try.ntmps16
  go_wp2_with fail
  refine (markIntS_any lo hi n cap a k zs _ HN.out hm h0 h1 HO.out).mono ?_
  rintro e w1 ⟨rfl, hmk, hon⟩
  have HM := Lib.hid hmk
  have HON := Lib.hid hon
  clear hmk hon
  go_wp2
  go_ret
  exact ⟨rfl, HM.out, HON.out⟩

set_option maxRecDepth 100000 in
theorem heldVec_any (n cap : Nat) (a : Option Addr) (k : Int) (w : World) (hm : n ≤ 1048576) (h0 : 0 ≤ k) (h1 : k ≤ 1099511627776) (ho : MarkedI w a n k) :
    Calls Try.prog 17 #[vecV a n cap, .int .i64 k] w fun e w' => e = .returned (.int .i64 (k + n)) ∧ Below w.heap.size w w' := by
  have HB : Hid (Below w.heap.size w (w.alloc (.cells #[.slice a n cap] 27))) := (Below.refl _ _).alloc (Nat.le_refl _) _
  have HO : Hid (MarkedI (w.alloc (.cells #[.slice a n cap] 27)) a n k) := ho.below HB.out
  clear ho
  have hk : ¬ k + (n : Int) < 0 := by omega
  go_enter Try.func17, Try.ntmps17
  go_wp2_with fail
  refine (heldIntS_any n cap a k _ hm h0 h1 HO.out).mono ?_
  rintro e w1 ⟨rfl, rfl⟩
  go_wp2
  go_ret
  exact ⟨rfl, HB.out⟩

end Go.Proofs.Ytolmlcbgdihcbaa

/- What comes in, opened: tags, dependencies, slices of them, writes. -/
namespace Go.Proofs.Ytolmlcbgdihcbaa
open Go.ChangeShapes Go.WideShapes Go.ChangeAt Go.RowKit Go.Joins Go.Deep
set_option maxRecDepth 100000

theorem cellsInt : Try.prog.cellsOf 3 = 1 := by kernel_rfl

section
variable {H : Type} {enc : TypeId × Value → H} {w : World} {base : Nat} {spare : Nat → Bool} {held : Bool}

theorem add_form {a : Addr} {v : Value} (h : w.cell? a = some v) : a = ⟨a.block, a.off, none⟩ := by
  cases a with
  | mk b o s =>
    cases s with
    | none => rfl
    | some s =>
      simp only [World.cell?] at h
      split at h <;> simp at h

theorem add_plain (b o i : Nat) : (Addr.mk b o none).add i = ⟨b, o + i, none⟩ := by
  unfold Addr.add
  split
  · rename_i h
    rw [h]
    rfl
  · rfl

theorem cellsBool : Try.prog.cellsOf 4 = 1 := by kernel_rfl

end
end Go.Proofs.Ytolmlcbgdihcbaa

/- Vectors and posts that come in, opened. -/
namespace Go.Proofs.Ytolmlcbgdihcbaa
open Go.ChangeShapes Go.WideShapes Go.ChangeAt Go.RowKit Go.Joins Go.Deep
set_option maxRecDepth 100000

theorem cellsIntS : Try.prog.cellsOf 22 = 1 := by kernel_rfl

theorem cellsVec : Try.prog.cellsOf 24 = 1 := by kernel_rfl

theorem cellsPost : Try.prog.cellsOf 39 = 3 := by kernel_rfl

def VecIn (w : World) (a : Option Addr) (len : Nat) (zs : List Int) : Prop := zs.length = len ∧ len ≤ maxLen ∧ IsIs w a zs ∧ ∀ z ∈ zs, Rng64 z

section
variable {H : Type} {enc : TypeId × Value → H} {w : World} {base : Nat} {held : Bool}

theorem ints_cells {fuel : Nat} {cs : List Value} {y : DataW H × List MemPlace} (hf : DataW.trod enc Try.prog w base (fun _ => true) held fuel 22 cs = some y) :
    ∃ (a : Option Addr) (len cap : Nat) (zs : List Int), cs = [.slice a len cap] ∧ VecIn w a len zs := by
  rcases open_ints Try.underlying22 Try.underlying3 (by kernel_rfl) hf with ⟨hcs, _⟩ | ⟨x, l, c, zs, hcs, _, hl, hm, hz, _, hcell, hwz⟩
  · exact ⟨_, _, _, [], hcs, rfl, Nat.zero_le _, .inl rfl, fun z hz => by simp at hz⟩
  · have hzl : zs.length = c := by simpa using hz
    refine ⟨_, _, _, zs.take l, hcs, by rw [List.length_take]; omega, by omega, ?_, fun z hz => ?_⟩
    · by_cases h0 : l = 0
      · subst h0
        exact .inl (by simp)
      · have hx : x = ⟨x.block, x.off, none⟩ := by
          have h1 := hcell 0 (by omega)
          have := add_form h1
          cases x with
          | mk b o s =>
            cases s with
            | none => rfl
            | some s =>
              simp [Addr.add] at h1
              simp only [World.cell?] at h1
              split at h1 <;> simp at h1
        refine .inr ⟨x.block, x.off, by rw [← hx], ?_, fun i hi => ?_⟩
        · have h1 := hcell 0 (by omega)
          have := World.block_lt_of_cell? w _ h1
          simpa [Addr.add] using this
        · have hi' : i < l := by rw [List.length_take] at hi; omega
          have h1 := hcell i (by omega)
          have e1 : x.add i = ⟨x.block, x.off + i, none⟩ := by
            rw [hx]
            exact add_plain _ _ _
          rw [e1] at h1
          rw [h1]
          simp [List.getD, hi']
    · have hw := hwz z (List.mem_of_mem_take hz)
      simp only [Lit.wf, Bool.and_eq_true, decide_eq_true_eq] at hw
      exact hw

theorem open_vec {b0 : Nat} {r : Reach} {v : Value} {d : DataW H} {p : List MemPlace} (hv : Value.okWide Try.prog w r b0 24 v) (h : DataW.Trod enc Try.prog w base (fun _ => true) held 24 v d p) :
    ∃ (a : Option Addr) (len cap : Nat) (zs : List Int), v = .agg #[.slice a len cap] ∧ VecIn w a len zs := by
  obtain ⟨cs, rfl, hsz⟩ := okWide_struct Try.underlying24 hv
  rw [cellsVec] at hsz
  obtain ⟨fuel, hf⟩ := h
  obtain ⟨xs', n, _, _, _, hlen, hfd⟩ := DataW.trod_struct Try.underlying24 hf
  cases cs with
  | mk l =>
    have hl : l.length = 1 := by simpa using hsz
    match l, hl, xs', hlen with
    | [v0], _, [y0], _ =>
      have g0 := hfd 0 _ rfl
      simp [Value.cells, cellsIntS] at g0
      obtain ⟨a, len, cap, zs, e0, hz⟩ := ints_cells g0
      simp at e0
      subst e0
      exact ⟨a, len, cap, zs, rfl, hz⟩

theorem open_post {b0 : Nat} {r : Reach} {v : Value} {d : DataW H} {p : List MemPlace} (hv : Value.okWide Try.prog w r b0 39 v) (h : DataW.Trod enc Try.prog w base (fun _ => true) held 39 v d p) :
    ∃ (f : Int) (a : Option Addr) (len cap : Nat) (y : Int) (zs : List Int), v = .agg #[.int .i64 f, .slice a len cap, .int .i64 y] ∧ VecIn w a len zs := by
  obtain ⟨cs, rfl, hsz⟩ := okWide_struct Try.underlying39 hv
  rw [cellsPost] at hsz
  obtain ⟨fuel, hf⟩ := h
  obtain ⟨xs', n, _, _, _, hlen, hfd⟩ := DataW.trod_struct Try.underlying39 hf
  cases cs with
  | mk l =>
    have hl : l.length = 3 := by simpa using hsz
    match l, hl, xs', hlen with
    | [v0, v1, v2], _, [y0, y1, y2], _ =>
      have g0 := hfd 0 _ rfl
      have g1 := hfd 1 _ rfl
      have g2 := hfd 2 _ rfl
      simp [Value.cells, cellsIntS, cellsInt] at g0 g1 g2
      obtain ⟨f, e0, _, _⟩ := DataW.trod_int Try.underlying3 g0
      obtain ⟨a, len, cap, zs, e1, hz⟩ := ints_cells g1
      obtain ⟨y, e2, _, _⟩ := DataW.trod_int Try.underlying3 g2
      simp at e0 e1 e2
      subst e0 e1 e2
      exact ⟨f, a, len, cap, y, zs, rfl, hz⟩

end
end Go.Proofs.Ytolmlcbgdihcbaa

/- Arrays of four numbers of the program: contracts of join, list, tick, lets; the comparison of two as a whole. -/
namespace Go.Proofs.Ytolmlcbgdihcbaa
open Go.ChangeShapes Go.WideShapes Go.ChangeAt Go.RowKit Go.Joins
attribute [local go_sem ↓] Go.wp_at_zero Go.wp_at_succ

theorem run_tk (zs : List Value) (v : Value) (hl : zs.length = 4) {q : Nat} (h : zs[q]? = some v) (w : World) : (Instr.index 59 (.agg zs.toArray) (.int .i64 (q : Int))).run Try.prog w = .ok v w := by
  have hq : q < 4 := by rw [← hl]; exact (List.getElem?_eq_some_iff.1 h).1
  simp [Instr.index, go_sem, Go.part, Try.isAgg3, Try.sizeOf3, hl, hq]
  exact (List.getElem?_eq_some_iff.1 h).2

set_option maxRecDepth 100000 in
set_option maxHeartbeats 4000000 in
theorem tkJoin_any (x0 x1 x2 x3 y0 y1 y2 y3 : Int) (w : World) :
    Calls Try.prog 39 #[tkV x0 x1 x2 x3, tkV y0 y1 y2 y3] w fun e w' => e = .returned (tkV (max x0 y0) (max x1 y1) (max x2 y2) (max x3 y3)) ∧ Below w.heap.size w w' := by
  have hres : Try.f39.results = #[.cell 4 59] := by kernel_rfl
  have i0 : ∀ w, (Instr.index 59 (.agg #[.int .i64 y0, .int .i64 y1, .int .i64 y2, .int .i64 y3]) (.int .i64 0)).run Try.prog w = .ok (.int .i64 y0) w := run_tk [_, _, _, _] _ rfl (q := 0) rfl
  have i1 : ∀ w, (Instr.index 59 (.agg #[.int .i64 y0, .int .i64 y1, .int .i64 y2, .int .i64 y3]) (.int .i64 1)).run Try.prog w = .ok (.int .i64 y1) w := run_tk [_, _, _, _] _ rfl (q := 1) rfl
  have i2 : ∀ w, (Instr.index 59 (.agg #[.int .i64 y0, .int .i64 y1, .int .i64 y2, .int .i64 y3]) (.int .i64 2)).run Try.prog w = .ok (.int .i64 y2) w := run_tk [_, _, _, _] _ rfl (q := 2) rfl
  have i3 : ∀ w, (Instr.index 59 (.agg #[.int .i64 y0, .int .i64 y1, .int .i64 y2, .int .i64 y3]) (.int .i64 3)).run Try.prog w = .ok (.int .i64 y3) w := run_tk [_, _, _, _] _ rfl (q := 3) rfl
  go_enter Try.func39, Try.ntmps39
  go_wp2
  refine wp_loop_rounds 5 ?_
  rw [rounds_succ]
  go_wp2
  rw [rounds_succ]
  go_wp2
  rw [rounds_succ]
  go_wp2
  rw [rounds_succ]
  go_wp2
  rw [rounds_succ]
  go_wp2
  refine bodyPost_ret (v := tkV (max x0 y0) (max x1 y1) (max x2 y2) (max x3 y3)) (by simp only [results, hres]; go_simp) rfl ⟨rfl, ?_⟩
  exact ((((Below.refl _ _).alloc (Nat.le_refl _) _).alloc (by simp) _).alloc (by simp; omega) _)

set_option maxRecDepth 100000 in
theorem tkList_any (x0 x1 x2 x3 : Int) (w : World) :
    Calls Try.prog 40 #[tkV x0 x1 x2 x3] w fun e w' => e = .returned (.slice (some ⟨w.heap.size, 0, none⟩) 4 4) ∧ w' = w.alloc (.cells #[.int .i64 x0, .int .i64 x1, .int .i64 x2, .int .i64 x3] 59) := by
  go_enter Try.func40, Try.ntmps40
  go_wp2
  go_ret
  exact ⟨rfl, rfl⟩

def tkP (x n : Int) (i q : Nat) : Int := if i = q then x + n else x

def tk1 (x : Int) (i q : Nat) : Int := if i = q then x + 1 else x

set_option maxRecDepth 100000 in
set_option maxHeartbeats 4000000 in
theorem tkPlus_any (x0 x1 x2 x3 n : Int) (q : Nat) (hq : q < 4) (h0 : 0 ≤ x0 ∧ x0 ≤ 1000000000) (h1 : 0 ≤ x1 ∧ x1 ≤ 1000000000) (h2 : 0 ≤ x2 ∧ x2 ≤ 1000000000) (h3 : 0 ≤ x3 ∧ x3 ≤ 1000000000) (hn : 0 ≤ n ∧ n ≤ 1000000000) (w : World) :
    Calls Try.prog 45 #[tkV x0 x1 x2 x3, .int .i64 (q : Int), .int .i64 n] w fun e w' => e = .returned (tkV (tkP x0 n 0 q) (tkP x1 n 1 q) (tkP x2 n 2 q) (tkP x3 n 3 q)) ∧ Below w.heap.size w w' := by
  have hres : Try.f45.results = #[.cell 6 59] := by kernel_rfl
  obtain ⟨a0, b0⟩ := h0
  obtain ⟨a1, b1⟩ := h1
  obtain ⟨a2, b2⟩ := h2
  obtain ⟨a3, b3⟩ := h3
  obtain ⟨an, bn⟩ := hn
  match q, hq with
  | 0, _ =>
    show Calls Try.prog 45 #[tkV x0 x1 x2 x3, .int .i64 0, .int .i64 n] w fun e w' => e = .returned (tkV (x0 + n) x1 x2 x3) ∧ Below w.heap.size w w'
    go_enter Try.func45, Try.ntmps45
    go_wp2
    refine bodyPost_ret (v := tkV (x0 + n) x1 x2 x3) (by simp only [results, hres]; go_simp) rfl ⟨rfl, ?_⟩
    exact ((Below.refl _ _).alloc (Nat.le_refl _) _).alloc (by simp) _
  | 1, _ =>
    show Calls Try.prog 45 #[tkV x0 x1 x2 x3, .int .i64 1, .int .i64 n] w fun e w' => e = .returned (tkV x0 (x1 + n) x2 x3) ∧ Below w.heap.size w w'
    go_enter Try.func45, Try.ntmps45
    go_wp2
    refine bodyPost_ret (v := tkV x0 (x1 + n) x2 x3) (by simp only [results, hres]; go_simp) rfl ⟨rfl, ?_⟩
    exact ((Below.refl _ _).alloc (Nat.le_refl _) _).alloc (by simp) _
  | 2, _ =>
    show Calls Try.prog 45 #[tkV x0 x1 x2 x3, .int .i64 2, .int .i64 n] w fun e w' => e = .returned (tkV x0 x1 (x2 + n) x3) ∧ Below w.heap.size w w'
    go_enter Try.func45, Try.ntmps45
    go_wp2
    refine bodyPost_ret (v := tkV x0 x1 (x2 + n) x3) (by simp only [results, hres]; go_simp) rfl ⟨rfl, ?_⟩
    exact ((Below.refl _ _).alloc (Nat.le_refl _) _).alloc (by simp) _
  | 3, _ =>
    show Calls Try.prog 45 #[tkV x0 x1 x2 x3, .int .i64 3, .int .i64 n] w fun e w' => e = .returned (tkV x0 x1 x2 (x3 + n)) ∧ Below w.heap.size w w'
    go_enter Try.func45, Try.ntmps45
    go_wp2
    refine bodyPost_ret (v := tkV x0 x1 x2 (x3 + n)) (by simp only [results, hres]; go_simp) rfl ⟨rfl, ?_⟩
    exact ((Below.refl _ _).alloc (Nat.le_refl _) _).alloc (by simp) _

set_option maxRecDepth 100000 in
theorem tkTick_any (x0 x1 x2 x3 : Int) (q : Nat) (hq : q < 4) (h0 : 0 ≤ x0 ∧ x0 ≤ 1000000) (h1 : 0 ≤ x1 ∧ x1 ≤ 1000000) (h2 : 0 ≤ x2 ∧ x2 ≤ 1000000) (h3 : 0 ≤ x3 ∧ x3 ≤ 1000000) (w : World) :
    Calls Try.prog 45 #[tkV x0 x1 x2 x3, .int .i64 (q : Int), .int .i64 1] w fun e w' => e = .returned (tkV (tk1 x0 0 q) (tk1 x1 1 q) (tk1 x2 2 q) (tk1 x3 3 q)) ∧ Below w.heap.size w w' :=
  tkPlus_any x0 x1 x2 x3 1 q hq (by omega) (by omega) (by omega) (by omega) (by omega) w

set_option maxRecDepth 100000 in
theorem eql_tk (d : Nat) (w : World) (x0 x1 x2 x3 y0 y1 y2 y3 : Int) : (Op.equalIn (d + 2) 59 (tkV x0 x1 x2 x3) (tkV y0 y1 y2 y3)).run Try.prog w = .ok (decide (x0 = y0 ∧ x1 = y1 ∧ x2 = y2 ∧ x3 = y3)) w := by
  have hq : ∀ x y w, (Op.equalIn (d + 1) 3 (.int .i64 x) (.int .i64 y)).run Try.prog w = .ok (x == y) w := fun x y w => run_equalIn_int w d 3 .i64 .i64 x y Try.underlying3
  rw [Op.equalIn]
  simp only [Sem.run_bind, run_underlying Try.underlying59, Result.andThen_ok, Try.sizeOf3]
  rw [Std.Legacy.Range.forIn_eq_forIn_range']
  have hr : List.range' [:4].start [:4].size [:4].step = [0, 1, 2, 3] := rfl
  rw [hr]
  have hp : ∀ (z0 z1 z2 z3 : Int) (i : Nat) (z : Int), ([z0, z1, z2, z3] : List Int)[i]? = some z → ∀ w, (part 3 #[.int .i64 z0, .int .i64 z1, .int .i64 z2, .int .i64 z3] i).run Try.prog w = .ok (.int .i64 z) w := by
    intro z0 z1 z2 z3 i z hz w
    match i, hz with
    | 0, hz | 1, hz | 2, hz | 3, hz =>
      simp at hz
      subst hz
      simp [part, Try.isAgg3, Sem.run_bind]
  have p0 := fun z0 z1 z2 z3 w => hp z0 z1 z2 z3 0 _ rfl w
  have p1 := fun z0 z1 z2 z3 w => hp z0 z1 z2 z3 1 _ rfl w
  have p2 := fun z0 z1 z2 z3 w => hp z0 z1 z2 z3 2 _ rfl w
  have p3 := fun z0 z1 z2 z3 w => hp z0 z1 z2 z3 3 _ rfl w
  clear hp hr
  simp only [List.forIn_cons, List.forIn_nil, Sem.run_bind, Nat.mul_one, p0, hq, Result.andThen_ok]
  by_cases h0 : x0 = y0
  · by_cases h1 : x1 = y1
    · by_cases h2 : x2 = y2
      · by_cases h3 : x3 = y3
        · simp [h0, h1, h2, h3, p1, p2, p3, hq]
        · simp [h0, h1, h2, h3, p1, p2, p3, hq]
      · simp [h0, h1, h2, p1, p2, p3, hq]
    · simp [h0, h1, p1, p2, p3, hq]
  · simp [h0]

def letsB (x0 x1 x2 x3 y0 y1 y2 y3 : Int) (q : Nat) : Bool := decide (max x0 y0 = tk1 x0 0 q ∧ max x1 y1 = tk1 x1 1 q ∧ max x2 y2 = tk1 x2 2 q ∧ max x3 y3 = tk1 x3 3 q)

set_option maxRecDepth 100000 in
set_option maxHeartbeats 4000000 in
theorem tkLets_any (x0 x1 x2 x3 y0 y1 y2 y3 : Int) (q : Nat) (hq : q < 4) (h0 : 0 ≤ x0 ∧ x0 ≤ 1000000) (h1 : 0 ≤ x1 ∧ x1 ≤ 1000000) (h2 : 0 ≤ x2 ∧ x2 ≤ 1000000) (h3 : 0 ≤ x3 ∧ x3 ≤ 1000000) (w : World) :
    Calls Try.prog 46 #[tkV x0 x1 x2 x3, tkV y0 y1 y2 y3, .int .i64 (q : Int)] w fun e w' => e = .returned (.bool (letsB x0 x1 x2 x3 y0 y1 y2 y3 q)) ∧ Below w.heap.size w w' := by
  have HJ : Hid (∀ W, Calls Try.prog 39 #[tkV x0 x1 x2 x3, tkV y0 y1 y2 y3] W fun e w' => e = .returned (tkV (max x0 y0) (max x1 y1) (max x2 y2) (max x3 y3)) ∧ Below W.heap.size W w') := tkJoin_any x0 x1 x2 x3 y0 y1 y2 y3
  have HT : Hid (∀ W, Calls Try.prog 45 #[tkV x0 x1 x2 x3, .int .i64 (q : Int), .int .i64 1] W fun e w' => e = .returned (tkV (tk1 x0 0 q) (tk1 x1 1 q) (tk1 x2 2 q) (tk1 x3 3 q)) ∧ Below W.heap.size W w') := fun W => tkTick_any x0 x1 x2 x3 q hq h0 h1 h2 h3 W
  have HE := Lib.hid (fun d w => eql_tk d w (max x0 y0) (max x1 y1) (max x2 y2) (max x3 y3) (tk1 x0 0 q) (tk1 x1 1 q) (tk1 x2 2 q) (tk1 x3 3 q))
  have HD : Hid (decide (max x0 y0 = tk1 x0 0 q ∧ max x1 y1 = tk1 x1 1 q ∧ max x2 y2 = tk1 x2 2 q ∧ max x3 y3 = tk1 x3 3 q) = letsB x0 x1 x2 x3 y0 y1 y2 y3 q) := Lib.hid rfl
  rw [HD.out] at HE
  clear HD h0 h1 h2 h3
  generalize letsB x0 x1 x2 x3 y0 y1 y2 y3 q = z at *
  generalize (max x0 y0) = m0 at *
  generalize (max x1 y1) = m1 at *
  generalize (max x2 y2) = m2 at *
  generalize (max x3 y3) = m3 at *
  generalize (tk1 x0 0 q) = t0 at *
  generalize (tk1 x1 1 q) = t1 at *
  generalize (tk1 x2 2 q) = t2 at *
  generalize (tk1 x3 3 q) = t3 at *
  go_enter Try.func46, Try.ntmps46
  go_wp2_with fail
  have HB : Hid (Below w.heap.size w ((w.alloc (.cells #[.int .i64 x0, .int .i64 x1, .int .i64 x2, .int .i64 x3] 59)).alloc (.cells #[.int .i64 y0, .int .i64 y1, .int .i64 y2, .int .i64 y3] 59))) := ((Below.refl _ _).alloc (Nat.le_refl _) _).alloc (by simp) _
  have hx : w.heap.size < ((w.alloc (.cells #[.int .i64 x0, .int .i64 x1, .int .i64 x2, .int .i64 x3] 59)).alloc (.cells #[.int .i64 y0, .int .i64 y1, .int .i64 y2, .int .i64 y3] 59)).heap.size := by simp; omega
  have hy : w.heap.size + 1 < ((w.alloc (.cells #[.int .i64 x0, .int .i64 x1, .int .i64 x2, .int .i64 x3] 59)).alloc (.cells #[.int .i64 y0, .int .i64 y1, .int .i64 y2, .int .i64 y3] 59)).heap.size := by simp
  have cx0 : ((w.alloc (.cells #[.int .i64 x0, .int .i64 x1, .int .i64 x2, .int .i64 x3] 59)).alloc (.cells #[.int .i64 y0, .int .i64 y1, .int .i64 y2, .int .i64 y3] 59)).cell? ⟨w.heap.size, 0, none⟩ = some (.int .i64 x0) := by go_simp
  have cx1 : ((w.alloc (.cells #[.int .i64 x0, .int .i64 x1, .int .i64 x2, .int .i64 x3] 59)).alloc (.cells #[.int .i64 y0, .int .i64 y1, .int .i64 y2, .int .i64 y3] 59)).cell? ⟨w.heap.size, 1, none⟩ = some (.int .i64 x1) := by go_simp
  have cx2 : ((w.alloc (.cells #[.int .i64 x0, .int .i64 x1, .int .i64 x2, .int .i64 x3] 59)).alloc (.cells #[.int .i64 y0, .int .i64 y1, .int .i64 y2, .int .i64 y3] 59)).cell? ⟨w.heap.size, 2, none⟩ = some (.int .i64 x2) := by go_simp
  have cx3 : ((w.alloc (.cells #[.int .i64 x0, .int .i64 x1, .int .i64 x2, .int .i64 x3] 59)).alloc (.cells #[.int .i64 y0, .int .i64 y1, .int .i64 y2, .int .i64 y3] 59)).cell? ⟨w.heap.size, 3, none⟩ = some (.int .i64 x3) := by go_simp
  have cy0 : ((w.alloc (.cells #[.int .i64 x0, .int .i64 x1, .int .i64 x2, .int .i64 x3] 59)).alloc (.cells #[.int .i64 y0, .int .i64 y1, .int .i64 y2, .int .i64 y3] 59)).cell? ⟨w.heap.size + 1, 0, none⟩ = some (.int .i64 y0) := by go_simp
  have cy1 : ((w.alloc (.cells #[.int .i64 x0, .int .i64 x1, .int .i64 x2, .int .i64 x3] 59)).alloc (.cells #[.int .i64 y0, .int .i64 y1, .int .i64 y2, .int .i64 y3] 59)).cell? ⟨w.heap.size + 1, 1, none⟩ = some (.int .i64 y1) := by go_simp
  have cy2 : ((w.alloc (.cells #[.int .i64 x0, .int .i64 x1, .int .i64 x2, .int .i64 x3] 59)).alloc (.cells #[.int .i64 y0, .int .i64 y1, .int .i64 y2, .int .i64 y3] 59)).cell? ⟨w.heap.size + 1, 2, none⟩ = some (.int .i64 y2) := by go_simp
  have cy3 : ((w.alloc (.cells #[.int .i64 x0, .int .i64 x1, .int .i64 x2, .int .i64 x3] 59)).alloc (.cells #[.int .i64 y0, .int .i64 y1, .int .i64 y2, .int .i64 y3] 59)).cell? ⟨w.heap.size + 1, 3, none⟩ = some (.int .i64 y3) := by go_simp
  generalize ((w.alloc (.cells #[.int .i64 x0, .int .i64 x1, .int .i64 x2, .int .i64 x3] 59)).alloc (.cells #[.int .i64 y0, .int .i64 y1, .int .i64 y2, .int .i64 y3] 59)) = W at *
  have gx0 := aft_cell hx cx0
  have gx1 := aft_cell hx cx1
  have gx2 := aft_cell hx cx2
  have gx3 := aft_cell hx cx3
  have gy0 := aft_cell hy cy0
  have gy1 := aft_cell hy cy1
  have gy2 := aft_cell hy cy2
  have gy3 := aft_cell hy cy3
  clear hx hy cx0 cx1 cx2 cx3 cy0 cy1 cy2 cy3
  have heq : ∀ w, (Op.equalIn 10000 59 (tkV m0 m1 m2 m3) (tkV t0 t1 t2 t3)).run Try.prog w = .ok z w := fun w => HE.out 9998 w
  have ne := aft_some W
  refine wp_region_aft (by kernel_rfl) (by kernel_rfl) ?_
  repeat (first | go_big_quiet_step (first | (go_at_call 39; exact aft_of (HJ.out _)) | (go_at_call 45; exact aft_of (HT.out _))))
  refine wpQuiet_nil ?_
  intro wq hq
  have HBQ : Hid (Below w.heap.size w wq) := below_step HB.out HB.out.size hq
  clear hq
  go_wp2
  go_ret
  exact ⟨rfl, HBQ.out⟩

end Go.Proofs.Ytolmlcbgdihcbaa
