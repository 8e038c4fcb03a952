import Derived.Test.YthlkdlknkbigkaaPack1
import Derived.ChangeSlices
import Derived.Deep.OwnRows
import Derived.Laws.Cover3
import Derived.BigQuiet
import Derived.Deep.Slices
import Derived.Deep.Strs
import Derived.LoopN
import Derived.Lib.MinMax
/- Lists of numbers that come in: opened, and copied by toIntS. -/
namespace Go.Proofs.Ythlkdlknkbigkaa
open Go.ChangeShapes Go.WideShapes Go.ChangeAt Go.RowKit Go.Joins
attribute [local go_sem ↓] Go.wp_at_zero Go.wp_at_succ

def Rng64 (z : Int) : Prop := -9223372036854775808 ≤ z ∧ z ≤ 9223372036854775807

/-- What a slice of numbers, from whatever place of its block on, leads to. -/
def IsIs (w : World) (a : Option Addr) (zs : List Int) : Prop :=
  zs = [] ∨ ∃ b o, a = some ⟨b, o, none⟩ ∧ b < w.heap.size ∧ ∀ i, i < zs.length → w.cell? ⟨b, o + i, none⟩ = some (.int .i64 (zs.getD i 0))

set_option maxRecDepth 100000 in
theorem IsIs.below {w w' : World} {a : Option Addr} {zs : List Int} (h : IsIs w a zs) (hb : Below w.heap.size w w') : IsIs w' a zs := by
  rcases h with h | ⟨b, o, ha, hlt, hh⟩
  · exact .inl h
  · exact .inr ⟨b, o, ha, Nat.lt_of_lt_of_le hlt hb.size, fun i hi => (hb.cell (p := ⟨b, o + i, none⟩) hlt).trans (hh i hi)⟩

set_option maxRecDepth 100000 in
theorem IsIs.at {w w' : World} {a : Option Addr} {zs : List Int} (h : IsIs w a zs) (hb : Below w.heap.size w w') {k : Nat} (hk : k < zs.length) : ∃ b o, a = some ⟨b, o, none⟩ ∧ b < w'.heap.size ∧ w'.cell? ⟨b, o + k, none⟩ = some (.int .i64 (zs.getD k 0)) := by
  rcases h.below hb with h | ⟨b, o, ha, hlt, hh⟩
  · subst h
    simp at hk
  · exact ⟨b, o, ha, hlt, hh k hk⟩

set_option maxRecDepth 100000 in
theorem IsInts.isIs {w : World} {a : Option Addr} {zs : List Int} (h : IsInts w a zs) : IsIs w a zs := by
  rcases h with h | ⟨b, ha, hlt, hh⟩
  · exact .inl h
  · exact .inr ⟨b, 0, ha, hlt, fun i hi => by rw [Nat.zero_add]; exact hh i hi⟩

set_option maxRecDepth 100000 in
theorem open_intS {H : Type} {enc : TypeId × Value → H} {w : World} {base b0 : Nat} {held : Bool} {r : Go.Reach} {v : Value} {d : DataW H} {p : List MemPlace} (hv : Value.okWide Try.prog w r b0 22 v) (h : DataW.Trod enc Try.prog w base (fun _ => true) held 22 v d p) :
    ∃ (a : Option Addr) (len cap : Nat) (zs : List Int), v = .slice a len cap ∧ (zs.length = len ∧ len ≤ maxLen ∧ IsIs w a zs ∧ ∀ z ∈ zs, Rng64 z) := by
  obtain ⟨a, len, cap, rfl⟩ := okWide_slice Try.underlying22 hv
  obtain ⟨fuel, hf⟩ := h
  rcases open_ints Try.underlying22 Try.underlying3 (by kernel_rfl) hf with ⟨hcs, _⟩ | ⟨x, l, c, zs, hcs, _, hl, hm, hz, _, hcell, hwz⟩
  · simp [Value.cells] at hcs
    obtain ⟨rfl, rfl, rfl⟩ := hcs
    exact ⟨_, _, _, [], rfl, rfl, Nat.zero_le _, .inl rfl, fun z hz => by simp at hz⟩
  · simp [Value.cells] at hcs
    obtain ⟨rfl, rfl, rfl⟩ := hcs
    have hzl : zs.length = cap := by simpa using hz
    refine ⟨_, _, _, zs.take len, rfl, by rw [List.length_take]; omega, by omega, ?_, fun z hz => ?_⟩
    · by_cases h0 : len = 0
      · subst h0
        exact .inl (by simp)
      · have hx : x = ⟨x.block, x.off, none⟩ := by
          have h1 := hcell 0 (by omega)
          simp [Addr.add] at h1
          cases x with
          | mk b o s =>
            cases s with
            | none => rfl
            | some s =>
              simp only [World.cell?] at h1
              split at h1 <;> simp at h1
        refine .inr ⟨x.block, x.off, by rw [← hx], ?_, fun i hi => ?_⟩
        · have h1 := hcell 0 (by omega)
          have := World.block_lt_of_cell? w _ h1
          simpa [Addr.add] using this
        · have hi' : i < len := by rw [List.length_take] at hi; omega
          have h1 := hcell i (by omega)
          have e1 : x.add i = ⟨x.block, x.off + i, none⟩ := by
            rw [hx]
            unfold Addr.add
            split
            · rename_i h
              rw [h]
              rfl
            · rfl
          rw [e1] at h1
          rw [h1]
          simp [List.getD, hi']
    · have hw := hwz z (List.mem_of_mem_take hz)
      simp only [Lit.wf, Bool.and_eq_true, decide_eq_true_eq] at hw
      exact hw

def intFill (zs : List Int) (k j : Nat) : Value := .int .i64 (if j < k then zs.getD j 0 else 0)

set_option maxRecDepth 100000 in
theorem intFill_step (zs : List Int) (k j : Nat) : (if j = k then Value.int .i64 (zs.getD k 0) else intFill zs k j) = intFill zs (k + 1) j := by
  unfold intFill
  by_cases h : j = k
  · rw [if_pos h, if_pos (by omega), h]
  · rw [if_neg h]
    by_cases hl : j < k
    · rw [if_pos hl, if_pos (by omega)]
    · rw [if_neg hl, if_neg (by omega)]

set_option maxRecDepth 100000 in
theorem rowInt_start (w : World) (t n : Nat) (zs : List Int) : (w.alloc (.cells (madeCells #[.int .i64 0] n) t)).rowIs w.heap.size t n (intFill zs 0) := by
  refine ⟨_, Go.Deep.blk_alloc_new _ _, size_madeCells _ _, fun i hi => ?_⟩
  have e : intFill zs 0 i = .int .i64 0 := by unfold intFill; rw [if_neg (by omega)]
  rw [e]
  have h1 : i % 1 = 0 := by omega
  simp [madeCells, hi, h1]

set_option maxRecDepth 100000 in
theorem run_make_ints (n : Nat) (hn : n ≤ 1048576) (w : World) :
    (Instr.makeSlice 22 (.int .i64 (n : Int)) (.int .i64 (n : Int))).run Try.prog w = .ok (.slice (some ⟨w.heap.size, 0, none⟩) n n) (w.alloc (.cells (madeCells #[.int .i64 0] n) 3)) := by
  obtain ⟨i, hi, hzz⟩ := Option.map_eq_some_iff.1 infoInt
  simp only [Prod.mk.injEq] at hzz
  obtain ⟨hz, hs, hb⟩ := hzz
  have hr := run_make (P := Try.prog) w 22 3 i _ Try.underlying22 hi hz .i64 .i64 n n (by omega) (Int.le_refl _) (by rw [hb]; omega) (by omega)
  simp only [Int.toNat_natCast, hs, Nat.mul_one] at hr
  exact hr

set_option maxRecDepth 100000 in
set_option maxHeartbeats 1000000 in
theorem toIntS_lt (a : Option Addr) (n cap : Nat) (zs : List Int) (w : World) (hl : zs.length = n) (hn : n ≤ 1048576) (hh : IsIs w a zs) :
    Calls Try.prog 25 #[.slice a n cap] w fun e w' => e = .returned (.slice (some ⟨w.heap.size, 0, none⟩) n n) ∧ w.heap.size < w'.heap.size ∧ OwnI w' w.heap.size (w.heap.size + 1) (some ⟨w.heap.size, 0, none⟩) zs ∧ Below w.heap.size w w' := by
  have HH : Hid (IsIs w a zs) := hh
  have HL : Hid (zs.length = n) := hl
  clear hh hl
  have hmk := run_make_ints n hn
  go_enter Try.func25, Try.ntmps25
  go_wp2
  clear hmk
  go_loopw [4] (fun i wr => ∃ k : Nat, k ≤ n ∧ i = .int .i64 k ∧ Hid (wr.rowIs w.heap.size 3 n (intFill zs k)) ∧ Hid (Below w.heap.size w wr)) (fun i _ => n - (intOf i).toNat)
  case atStart => exact ⟨0, Nat.zero_le _, rfl, rowInt_start _ _ _ _, (Below.refl _ _).alloc (Nat.le_refl _) _⟩
  case round =>
    obtain ⟨k, hk, rfl, HR, HB⟩ := hrel
    by_cases hk' : k < n
    · obtain ⟨b, o, rfl, hz, e0⟩ := HH.out.at HB.out (show k < zs.length by rw [HL.out]; exact hk')
      have i1 : (0 : Int) ≤ (k : Int) := by omega
      have i2 : (k : Int) < (n : Int) := by omega
      have HS : Hid (∀ w2 : World, w2.rowIs w.heap.size 3 n (intFill zs k) → (w2.setCell ⟨w.heap.size, k, none⟩ (.int .i64 (zs.getD k 0))).rowIs w.heap.size 3 n (intFill zs (k + 1))) := fun w2 h2 => (h2.set _ _).congr (fun j _ => intFill_step zs k j)
      have c0 := HR.out.cell (i := k) hk'
      have fz := HR.out.frozen
      clear HH
      generalize zs.getD k 0 = x at *
      go_wp2
      exact ⟨⟨k + 1, by omega, by go_num, HS.out _ HR.out, HB.out.setCell (p := ⟨w.heap.size, k, none⟩) (Nat.le_refl _) _⟩, by simp [intOf]; omega⟩
    · have hkk : k = n := by omega
      subst hkk
      go_wp2
      go_ret
      refine ⟨rfl, HR.out.lt, .inr ⟨_, rfl, Nat.le_refl _, Nat.lt_succ_self _, HR.out.lt, fun i hi => ?_, HR.out.frozen⟩, HB.out⟩
      have hi' : i < k := by rw [← HL.out]; exact hi
      rw [HR.out.cell hi', intFill, if_pos hi']

set_option maxRecDepth 100000 in
theorem toIntS_own (a : Option Addr) (n cap : Nat) (zs : List Int) (w : World) (hl : zs.length = n) (hn : n ≤ 1048576) (hh : IsIs w a zs) :
    Calls Try.prog 25 #[.slice a n cap] w fun e w' => e = .returned (.slice (some ⟨w.heap.size, 0, none⟩) n n) ∧ OwnI w' w.heap.size (w.heap.size + 1) (some ⟨w.heap.size, 0, none⟩) zs ∧ Below w.heap.size w w' :=
  (toIntS_lt a n cap zs w hl hn hh).mono fun _ _ ⟨h1, _, h2, h3⟩ => ⟨h1, h2, h3⟩

end Go.Proofs.Ythlkdlknkbigkaa

/- Vectors: which are VecOk; the contracts of VecOk of both sides, of the program's ticksOf, and of the laws' szVec, toVec, eqVec. -/
namespace Go.Proofs.Ythlkdlknkbigkaa
open Go.ChangeShapes Go.WideShapes Go.ChangeAt Go.RowKit Go.Joins
attribute [local go_sem ↓] Go.wp_at_zero Go.wp_at_succ

abbrev vecV (a : Option Addr) (n cap : Nat) : Value := .agg #[.slice a n cap]

abbrev tkV (x0 x1 x2 x3 : Int) : Value := .agg #[.int .i64 x0, .int .i64 x1, .int .i64 x2, .int .i64 x3]

/-- Four numbers, all in 0 .. m. -/
def perB (m : Int) (zs : List Int) : Bool := decide (zs.length = 4) && zs.all fun z => btw z 0 m

def okT (z : Int) : Bool := btw z 0 1000000

def vecB (zs : List Int) : Bool := perB 1000000 zs

theorem okT_iff (z : Int) : okT z = true ↔ 0 ≤ z ∧ z ≤ 1000000 := by
  unfold okT btw
  simp

theorem perB_four {m : Int} {zs : List Int} (h : perB m zs = true) : ∃ x0 x1 x2 x3, zs = [x0, x1, x2, x3] ∧ (0 ≤ x0 ∧ x0 ≤ m) ∧ (0 ≤ x1 ∧ x1 ≤ m) ∧ (0 ≤ x2 ∧ x2 ≤ m) ∧ (0 ≤ x3 ∧ x3 ≤ m) := by
  unfold perB at h
  rw [Bool.and_eq_true, decide_eq_true_iff] at h
  obtain ⟨hl, ha⟩ := h
  match zs, hl, ha with
  | [x0, x1, x2, x3], _, ha =>
    simp only [List.all_cons, List.all_nil, Bool.and_true, Bool.and_eq_true, btw, decide_eq_true_iff] at ha
    exact ⟨x0, x1, x2, x3, rfl, ha⟩

theorem vecB_four {zs : List Int} (h : vecB zs = true) : ∃ x0 x1 x2 x3, zs = [x0, x1, x2, x3] ∧ (0 ≤ x0 ∧ x0 ≤ 1000000) ∧ (0 ≤ x1 ∧ x1 ≤ 1000000) ∧ (0 ≤ x2 ∧ x2 ≤ 1000000) ∧ (0 ≤ x3 ∧ x3 ≤ 1000000) := perB_four h

theorem perB_is (m x0 x1 x2 x3 : Int) : perB m [x0, x1, x2, x3] = true ↔ (0 ≤ x0 ∧ x0 ≤ m) ∧ (0 ≤ x1 ∧ x1 ≤ m) ∧ (0 ≤ x2 ∧ x2 ≤ m) ∧ (0 ≤ x3 ∧ x3 ≤ m) := by
  unfold perB
  simp only [List.length_cons, List.length_nil, List.all_cons, List.all_nil, Bool.and_true, Bool.and_eq_true, btw, decide_eq_true_iff]
  simp

theorem vecB_is (x0 x1 x2 x3 : Int) : vecB [x0, x1, x2, x3] = true ↔ (0 ≤ x0 ∧ x0 ≤ 1000000) ∧ (0 ≤ x1 ∧ x1 ≤ 1000000) ∧ (0 ≤ x2 ∧ x2 ≤ 1000000) ∧ (0 ≤ x3 ∧ x3 ≤ 1000000) := perB_is _ _ _ _ _

theorem perB_len {m : Int} {zs : List Int} (h : zs.length ≠ 4) : perB m zs = false := by
  unfold perB
  rw [decide_eq_false h, Bool.false_and]

theorem vecB_len {zs : List Int} (h : zs.length ≠ 4) : vecB zs = false := perB_len h

theorem perB_bad {m : Int} {zs : List Int} {k : Nat} (hk : k < zs.length) (h : btw (zs.getD k 0) 0 m = false) : perB m zs = false := by
  unfold perB
  have : zs.all (fun z => btw z 0 m) = false := List.all_eq_false.2 ⟨zs.getD k 0, by simp [List.getD, hk], by rw [h]; simp⟩
  rw [this, Bool.and_false]

theorem vecB_bad {zs : List Int} {k : Nat} (hk : k < zs.length) (h : okT (zs.getD k 0) = false) : vecB zs = false := perB_bad hk h

theorem perB_good {m : Int} {zs : List Int} (hl : zs.length = 4) (h : ∀ k, k < 4 → btw (zs.getD k 0) 0 m = true) : perB m zs = true := by
  unfold perB
  rw [decide_eq_true hl, Bool.true_and, List.all_eq_true]
  intro z hz
  obtain ⟨i, hi, rfl⟩ := List.getElem_of_mem hz
  have := h i (by omega)
  simpa [List.getD, hi] using this

theorem vecB_good {zs : List Int} (hl : zs.length = 4) (h : ∀ k, k < 4 → okT (zs.getD k 0) = true) : vecB zs = true := perB_good hl h

theorem perB_next {m : Int} {zs : List Int} {k : Nat} (h : ∀ j, j < k → btw (zs.getD j 0) 0 m = true) (hk : btw (zs.getD k 0) 0 m = true) : ∀ j, j < k + 1 → btw (zs.getD j 0) 0 m = true := fun j hj => by
  by_cases h' : j < k
  · exact h j h'
  · have : j = k := by omega
    rw [this]
    exact hk

theorem okT_next {zs : List Int} {k : Nat} (h : ∀ j, j < k → okT (zs.getD j 0) = true) (hk : okT (zs.getD k 0) = true) : ∀ j, j < k + 1 → okT (zs.getD j 0) = true := perB_next h hk

set_option maxRecDepth 100000 in
theorem inRangeM (m n : Int) (v : Bool) (h : btw n 0 m = v) (w : World) :
    Calls Try.prog 31 #[.int .i64 n, .int .i64 0, .int .i64 m] w fun e w' => e = .returned (.bool v) ∧ w' = w := by
  rw [← h]
  exact inRange_any n 0 m w

set_option maxRecDepth 100000 in
theorem betweenT (n : Int) (v : Bool) (h : okT n = v) (w : World) :
    Calls Try.prog 29 #[.int .i64 n, .int .i64 0, .int .i64 1000000] w fun e w' => e = .returned (.bool v) ∧ w' = w := by
  rw [← h]
  exact between_any n 0 1000000 w

set_option maxRecDepth 100000 in
set_option maxHeartbeats 2000000 in
theorem perSiteOf_any (m : Int) (a : Option Addr) (n cap : Nat) (zs : List Int) (w : World) (hl : zs.length = n) (hn : n ≤ maxLen) (hh : IsIs w a zs) :
    Calls Try.prog 39 #[.slice a n cap, .int .i64 m] w fun e w' => (∃ x0 x1 x2 x3, e = .returned (.tuple #[tkV x0 x1 x2 x3, .bool (perB m zs)]) ∧ (perB m zs = true → zs = [x0, x1, x2, x3])) ∧ Below w.heap.size w w' := by
  have HH : Hid (IsIs w a zs) := hh
  have HN : Hid (zs.length = n) := hl
  have hres : Try.f39.results = #[.cell 4 42, .tmp 5] := by kernel_rfl
  clear hh hl
  by_cases h4 : n = 4
  · subst h4
    have HB : Hid (Below w.heap.size w (w.alloc (.cells #[.int .i64 0, .int .i64 0, .int .i64 0, .int .i64 0] 42))) := (Below.refl _ _).alloc (Nat.le_refl _) _
    go_enter Try.func39, Try.ntmps39
    go_wp2
    go_loopw [14] (fun i wr => ∃ k : Nat, k ≤ 4 ∧ i = .int .i64 k ∧ Hid (∀ j, j < k → btw (zs.getD j 0) 0 m = true) ∧ wr = w.alloc (.cells #[.int .i64 0, .int .i64 0, .int .i64 0, .int .i64 0] 42)) (fun i _ => 4 - (intOf i).toNat)
    case atStart => exact ⟨0, Nat.zero_le _, rfl, fun j hj => by omega, rfl⟩
    case round =>
      obtain ⟨k, hk, rfl, HG, rfl⟩ := hrel
      by_cases hk' : k < 4
      · have hkz : k < zs.length := by rw [HN.out]; exact hk'
        obtain ⟨b, o, rfl, hz, e0⟩ := HH.out.at (Below.refl _ _) hkz
        have i1 : (0 : Int) ≤ (k : Int) := by omega
        have i2 : (k : Int) < 4 := by omega
        clear HH
        cases h1 : btw (zs.getD k 0) 0 m
        · have HF : Hid (perB m zs = false) := perB_bad hkz h1
          generalize zs.getD k 0 = x at *
          go_wp2_with (go_at_call 31; refine (inRangeM m _ false h1 _).mono ?_; rintro e w' ⟨rfl, rfl⟩)
          refine bodyPost_ret (v := .tuple #[tkV 0 0 0 0, .bool false]) (by simp only [results, hres]; go_simp) rfl ⟨⟨0, 0, 0, 0, by rw [HF.out], fun h => by rw [HF.out] at h; cases h⟩, HB.out⟩
        · have HG2 : Hid (∀ j, j < k + 1 → btw (zs.getD j 0) 0 m = true) := perB_next HG.out h1
          generalize zs.getD k 0 = x at *
          go_wp2_with (go_at_call 31; refine (inRangeM m _ true h1 _).mono ?_; rintro e w' ⟨rfl, rfl⟩)
          exact ⟨⟨k + 1, by omega, by go_num, HG2, trivial⟩, by simp [intOf]; omega⟩
      · have hkk : k = 4 := by omega
        subst hkk
        have hF : perB m zs = true := perB_good HN.out HG.out
        obtain ⟨x0, x1, x2, x3, rfl, -⟩ := perB_four hF
        have HF := Lib.hid hF
        obtain ⟨b, o, rfl, hz, e0⟩ := HH.out.at (Below.refl _ _) (k := 0) (by simp)
        obtain ⟨_, _, he, -, e1⟩ := HH.out.at (Below.refl _ _) (k := 1) (by simp)
        injection he with he
        injection he with he1 he2
        subst he1
        subst he2
        obtain ⟨_, _, he, -, e2⟩ := HH.out.at (Below.refl _ _) (k := 2) (by simp)
        injection he with he
        injection he with he1 he2
        subst he1
        subst he2
        obtain ⟨_, _, he, -, e3⟩ := HH.out.at (Below.refl _ _) (k := 3) (by simp)
        injection he with he
        injection he with he1 he2
        subst he1
        subst he2
        simp only [Nat.add_zero, List.getD_cons_zero, List.getD_cons_succ] at e0 e1 e2 e3
        have hat : ∀ w, (Instr.arrayAt 42 (.slice (some ⟨b, o, none⟩) 4 cap)).run Try.prog w = .ok (.pointer (some ⟨b, o, none⟩)) w := fun w => run_arrayAt w 42 _ 4 _ 4 cap Try.underlying42 (Nat.le_refl _)
        clear hF HH
        go_wp2_with (simp only [hat])
        refine bodyPost_ret (v := .tuple #[tkV x0 x1 x2 x3, .bool true]) (by simp only [results, hres]; go_simp) rfl ⟨⟨x0, x1, x2, x3, by rw [HF.out], fun _ => ⟨rfl, rfl, rfl, rfl⟩⟩, (Below.refl _ _).alloc (Nat.le_refl _) _⟩
  · have HF : Hid (perB m zs = false) := perB_len (by rw [HN.out]; exact h4)
    have h4' : ¬ (n : Int) = 4 := by omega
    go_enter Try.func39, Try.ntmps39
    go_wp2
    refine bodyPost_ret (v := .tuple #[tkV 0 0 0 0, .bool false]) (by simp only [results, hres]; go_simp) rfl ⟨⟨0, 0, 0, 0, by rw [HF.out], fun h => by rw [HF.out] at h; cases h⟩, (Below.refl _ _).alloc (Nat.le_refl _) _⟩

theorem low4 {w w' : World} {B b : Nat} (h : Below B w w') (hb : B ≤ b) (v0 v1 v2 v3 : Value) : Below B w ((((w'.setCell ⟨b, 0, none⟩ v0).setCell ⟨b, 1, none⟩ v1).setCell ⟨b, 2, none⟩ v2).setCell ⟨b, 3, none⟩ v3) :=
  (((h.setCell (p := ⟨b, 0, none⟩) hb _).setCell (p := ⟨b, 1, none⟩) hb _).setCell (p := ⟨b, 2, none⟩) hb _).setCell (p := ⟨b, 3, none⟩) hb _

theorem szIntS_small (a : Option Addr) (len cap : Nat) (left : Int) (w : World) (h0 : 0 ≤ left) (h1 : left ≤ 1048576) (h : (len : Int) ≤ left) :
    Calls Try.prog 23 #[.slice a len cap, .int .i64 left] w fun e w' => e = .returned (.int .i64 (left - len)) ∧ w' = w := by
  have hn : ¬ left - (len : Int) < 0 := by omega
  go_enter Try.func23, Try.ntmps23
  go_wp2
  go_ret
  exact ⟨rfl, rfl⟩

theorem szIntS_big (a : Option Addr) (len cap : Nat) (left : Int) (w : World) (h0 : 0 ≤ left) (h1 : left ≤ 1048576) (h : left < (len : Int)) (hm : len ≤ maxLen) :
    Calls Try.prog 23 #[.slice a len cap, .int .i64 left] w fun e w' => e = .returned (.int .i64 (-1)) ∧ w' = w := by
  have hn : left - (len : Int) < 0 := by omega
  have hmm : (len : Int) ≤ 9223372036854775807 := by unfold maxLen at hm; omega
  go_enter Try.func23, Try.ntmps23
  go_wp2
  go_ret
  exact ⟨rfl, rfl⟩

theorem OwnI.aside {w : World} {lo hi : Nat} {a : Option Addr} {zs : List Int} {p : Addr} (h : OwnI w lo hi a zs) (hp : p.block < lo) (v : Value) : OwnI (w.setCell p v) lo hi a zs := by
  rcases h with h | ⟨b, ha, h1, h2, hlt, hh, hf⟩
  · exact .inl h
  · refine .inr ⟨b, ha, h1, h2, by simpa using hlt, fun i hi => (World.cell?_setCell_other _ _ _ _ (fun e => ?_)).trans (hh i hi), fun o => by rw [World.frozen?_setCell]; exact hf o⟩
    have : p.block = b := by rw [e]
    omega

theorem OwnI.wider {w : World} {lo hi lo' hi' : Nat} {a : Option Addr} {zs : List Int} (h : OwnI w lo hi a zs) (hl : lo' ≤ lo) (hh : hi ≤ hi') : OwnI w lo' hi' a zs := by
  rcases h with h | ⟨b, ha, h1, h2, hlt, hh', hf⟩
  · exact .inl h
  · exact .inr ⟨b, ha, by omega, by omega, hlt, hh', hf⟩

theorem OwnI.isIs {w : World} {lo hi : Nat} {a : Option Addr} {zs : List Int} (h : OwnI w lo hi a zs) : IsIs w a zs := h.isInts.isIs

end Go.Proofs.Ythlkdlknkbigkaa

/- What comes in, opened: tags, dependencies, slices of them, writes. -/
namespace Go.Proofs.Ythlkdlknkbigkaa
open Go.ChangeShapes Go.WideShapes Go.ChangeAt Go.RowKit Go.Joins Go.Deep
set_option maxRecDepth 100000

theorem cellsInt : Try.prog.cellsOf 3 = 1 := by kernel_rfl

section
variable {H : Type} {enc : TypeId × Value → H} {w : World} {base : Nat} {spare : Nat → Bool} {held : Bool}

theorem add_form {a : Addr} {v : Value} (h : w.cell? a = some v) : a = ⟨a.block, a.off, none⟩ := by
  cases a with
  | mk b o s =>
    cases s with
    | none => rfl
    | some s =>
      simp only [World.cell?] at h
      split at h <;> simp at h

theorem add_plain (b o i : Nat) : (Addr.mk b o none).add i = ⟨b, o + i, none⟩ := by
  unfold Addr.add
  split
  · rename_i h
    rw [h]
    rfl
  · rfl

theorem cellsBool : Try.prog.cellsOf 4 = 1 := by kernel_rfl

end
end Go.Proofs.Ythlkdlknkbigkaa

/- Vectors and posts that come in, opened. -/
namespace Go.Proofs.Ythlkdlknkbigkaa
open Go.ChangeShapes Go.WideShapes Go.ChangeAt Go.RowKit Go.Joins Go.Deep
set_option maxRecDepth 100000

theorem cellsIntS : Try.prog.cellsOf 22 = 1 := by kernel_rfl

def VecIn (w : World) (a : Option Addr) (len : Nat) (zs : List Int) : Prop := zs.length = len ∧ len ≤ maxLen ∧ IsIs w a zs ∧ ∀ z ∈ zs, Rng64 z

section
variable {H : Type} {enc : TypeId × Value → H} {w : World} {base : Nat} {held : Bool}

theorem ints_cells {fuel : Nat} {cs : List Value} {y : DataW H × List MemPlace} (hf : DataW.trod enc Try.prog w base (fun _ => true) held fuel 22 cs = some y) :
    ∃ (a : Option Addr) (len cap : Nat) (zs : List Int), cs = [.slice a len cap] ∧ VecIn w a len zs := by
  rcases open_ints Try.underlying22 Try.underlying3 (by kernel_rfl) hf with ⟨hcs, _⟩ | ⟨x, l, c, zs, hcs, _, hl, hm, hz, _, hcell, hwz⟩
  · exact ⟨_, _, _, [], hcs, rfl, Nat.zero_le _, .inl rfl, fun z hz => by simp at hz⟩
  · have hzl : zs.length = c := by simpa using hz
    refine ⟨_, _, _, zs.take l, hcs, by rw [List.length_take]; omega, by omega, ?_, fun z hz => ?_⟩
    · by_cases h0 : l = 0
      · subst h0
        exact .inl (by simp)
      · have hx : x = ⟨x.block, x.off, none⟩ := by
          have h1 := hcell 0 (by omega)
          have := add_form h1
          cases x with
          | mk b o s =>
            cases s with
            | none => rfl
            | some s =>
              simp [Addr.add] at h1
              simp only [World.cell?] at h1
              split at h1 <;> simp at h1
        refine .inr ⟨x.block, x.off, by rw [← hx], ?_, fun i hi => ?_⟩
        · have h1 := hcell 0 (by omega)
          have := World.block_lt_of_cell? w _ h1
          simpa [Addr.add] using this
        · have hi' : i < l := by rw [List.length_take] at hi; omega
          have h1 := hcell i (by omega)
          have e1 : x.add i = ⟨x.block, x.off + i, none⟩ := by
            rw [hx]
            exact add_plain _ _ _
          rw [e1] at h1
          rw [h1]
          simp [List.getD, hi']
    · have hw := hwz z (List.mem_of_mem_take hz)
      simp only [Lit.wf, Bool.and_eq_true, decide_eq_true_eq] at hw
      exact hw

end
end Go.Proofs.Ythlkdlknkbigkaa

/- Arrays of four numbers of the program: contracts of join, list, tick, lets; the comparison of two as a whole. -/
namespace Go.Proofs.Ythlkdlknkbigkaa
open Go.ChangeShapes Go.WideShapes Go.ChangeAt Go.RowKit Go.Joins
attribute [local go_sem ↓] Go.wp_at_zero Go.wp_at_succ

theorem run_tk (zs : List Value) (v : Value) (hl : zs.length = 4) {q : Nat} (h : zs[q]? = some v) (w : World) : (Instr.index 42 (.agg zs.toArray) (.int .i64 (q : Int))).run Try.prog w = .ok v w := by
  have hq : q < 4 := by rw [← hl]; exact (List.getElem?_eq_some_iff.1 h).1
  simp [Instr.index, go_sem, Go.part, Try.isAgg3, Try.sizeOf3, hl, hq]
  exact (List.getElem?_eq_some_iff.1 h).2

set_option maxRecDepth 100000 in
set_option maxHeartbeats 4000000 in
theorem tkJoin_any (x0 x1 x2 x3 y0 y1 y2 y3 : Int) (w : World) :
    Calls Try.prog 42 #[tkV x0 x1 x2 x3, tkV y0 y1 y2 y3] w fun e w' => e = .returned (tkV (max x0 y0) (max x1 y1) (max x2 y2) (max x3 y3)) ∧ Below w.heap.size w w' := by
  have hres : Try.f42.results = #[.cell 4 42] := by kernel_rfl
  have i0 : ∀ w, (Instr.index 42 (.agg #[.int .i64 y0, .int .i64 y1, .int .i64 y2, .int .i64 y3]) (.int .i64 0)).run Try.prog w = .ok (.int .i64 y0) w := run_tk [_, _, _, _] _ rfl (q := 0) rfl
  have i1 : ∀ w, (Instr.index 42 (.agg #[.int .i64 y0, .int .i64 y1, .int .i64 y2, .int .i64 y3]) (.int .i64 1)).run Try.prog w = .ok (.int .i64 y1) w := run_tk [_, _, _, _] _ rfl (q := 1) rfl
  have i2 : ∀ w, (Instr.index 42 (.agg #[.int .i64 y0, .int .i64 y1, .int .i64 y2, .int .i64 y3]) (.int .i64 2)).run Try.prog w = .ok (.int .i64 y2) w := run_tk [_, _, _, _] _ rfl (q := 2) rfl
  have i3 : ∀ w, (Instr.index 42 (.agg #[.int .i64 y0, .int .i64 y1, .int .i64 y2, .int .i64 y3]) (.int .i64 3)).run Try.prog w = .ok (.int .i64 y3) w := run_tk [_, _, _, _] _ rfl (q := 3) rfl
  go_enter Try.func42, Try.ntmps42
  go_wp2
  refine wp_loop_rounds 5 ?_
  rw [rounds_succ]
  go_wp2
  rw [rounds_succ]
  go_wp2
  rw [rounds_succ]
  go_wp2
  rw [rounds_succ]
  go_wp2
  rw [rounds_succ]
  go_wp2
  refine bodyPost_ret (v := tkV (max x0 y0) (max x1 y1) (max x2 y2) (max x3 y3)) (by simp only [results, hres]; go_simp) rfl ⟨rfl, ?_⟩
  exact ((((Below.refl _ _).alloc (Nat.le_refl _) _).alloc (by simp) _).alloc (by simp; omega) _)

set_option maxRecDepth 100000 in
theorem tkList_any (x0 x1 x2 x3 : Int) (w : World) :
    Calls Try.prog 41 #[tkV x0 x1 x2 x3] w fun e w' => e = .returned (.slice (some ⟨w.heap.size, 0, none⟩) 4 4) ∧ w' = w.alloc (.cells #[.int .i64 x0, .int .i64 x1, .int .i64 x2, .int .i64 x3] 42) := by
  go_enter Try.func41, Try.ntmps41
  go_wp2
  go_ret
  exact ⟨rfl, rfl⟩

def tkP (x n : Int) (i q : Nat) : Int := if i = q then x + n else x

def tk1 (x : Int) (i q : Nat) : Int := if i = q then x + 1 else x

set_option maxRecDepth 100000 in
set_option maxHeartbeats 4000000 in
theorem tkPlus_any (x0 x1 x2 x3 n : Int) (q : Nat) (hq : q < 4) (h0 : 0 ≤ x0 ∧ x0 ≤ 1000000000) (h1 : 0 ≤ x1 ∧ x1 ≤ 1000000000) (h2 : 0 ≤ x2 ∧ x2 ≤ 1000000000) (h3 : 0 ≤ x3 ∧ x3 ≤ 1000000000) (hn : 0 ≤ n ∧ n ≤ 1000000000) (w : World) :
    Calls Try.prog 40 #[tkV x0 x1 x2 x3, .int .i64 (q : Int), .int .i64 n] w fun e w' => e = .returned (tkV (tkP x0 n 0 q) (tkP x1 n 1 q) (tkP x2 n 2 q) (tkP x3 n 3 q)) ∧ Below w.heap.size w w' := by
  have hres : Try.f40.results = #[.cell 6 42] := by kernel_rfl
  obtain ⟨a0, b0⟩ := h0
  obtain ⟨a1, b1⟩ := h1
  obtain ⟨a2, b2⟩ := h2
  obtain ⟨a3, b3⟩ := h3
  obtain ⟨an, bn⟩ := hn
  match q, hq with
  | 0, _ =>
    show Calls Try.prog 40 #[tkV x0 x1 x2 x3, .int .i64 0, .int .i64 n] w fun e w' => e = .returned (tkV (x0 + n) x1 x2 x3) ∧ Below w.heap.size w w'
    go_enter Try.func40, Try.ntmps40
    go_wp2
    refine bodyPost_ret (v := tkV (x0 + n) x1 x2 x3) (by simp only [results, hres]; go_simp) rfl ⟨rfl, ?_⟩
    exact ((Below.refl _ _).alloc (Nat.le_refl _) _).alloc (by simp) _
  | 1, _ =>
    show Calls Try.prog 40 #[tkV x0 x1 x2 x3, .int .i64 1, .int .i64 n] w fun e w' => e = .returned (tkV x0 (x1 + n) x2 x3) ∧ Below w.heap.size w w'
    go_enter Try.func40, Try.ntmps40
    go_wp2
    refine bodyPost_ret (v := tkV x0 (x1 + n) x2 x3) (by simp only [results, hres]; go_simp) rfl ⟨rfl, ?_⟩
    exact ((Below.refl _ _).alloc (Nat.le_refl _) _).alloc (by simp) _
  | 2, _ =>
    show Calls Try.prog 40 #[tkV x0 x1 x2 x3, .int .i64 2, .int .i64 n] w fun e w' => e = .returned (tkV x0 x1 (x2 + n) x3) ∧ Below w.heap.size w w'
    go_enter Try.func40, Try.ntmps40
    go_wp2
    refine bodyPost_ret (v := tkV x0 x1 (x2 + n) x3) (by simp only [results, hres]; go_simp) rfl ⟨rfl, ?_⟩
    exact ((Below.refl _ _).alloc (Nat.le_refl _) _).alloc (by simp) _
  | 3, _ =>
    show Calls Try.prog 40 #[tkV x0 x1 x2 x3, .int .i64 3, .int .i64 n] w fun e w' => e = .returned (tkV x0 x1 x2 (x3 + n)) ∧ Below w.heap.size w w'
    go_enter Try.func40, Try.ntmps40
    go_wp2
    refine bodyPost_ret (v := tkV x0 x1 x2 (x3 + n)) (by simp only [results, hres]; go_simp) rfl ⟨rfl, ?_⟩
    exact ((Below.refl _ _).alloc (Nat.le_refl _) _).alloc (by simp) _

set_option maxRecDepth 100000 in
theorem tkTick_any (x0 x1 x2 x3 : Int) (q : Nat) (hq : q < 4) (h0 : 0 ≤ x0 ∧ x0 ≤ 1000000) (h1 : 0 ≤ x1 ∧ x1 ≤ 1000000) (h2 : 0 ≤ x2 ∧ x2 ≤ 1000000) (h3 : 0 ≤ x3 ∧ x3 ≤ 1000000) (w : World) :
    Calls Try.prog 40 #[tkV x0 x1 x2 x3, .int .i64 (q : Int), .int .i64 1] w fun e w' => e = .returned (tkV (tk1 x0 0 q) (tk1 x1 1 q) (tk1 x2 2 q) (tk1 x3 3 q)) ∧ Below w.heap.size w w' :=
  tkPlus_any x0 x1 x2 x3 1 q hq (by omega) (by omega) (by omega) (by omega) (by omega) w

set_option maxRecDepth 100000 in
theorem eql_tk (d : Nat) (w : World) (x0 x1 x2 x3 y0 y1 y2 y3 : Int) : (Op.equalIn (d + 2) 42 (tkV x0 x1 x2 x3) (tkV y0 y1 y2 y3)).run Try.prog w = .ok (decide (x0 = y0 ∧ x1 = y1 ∧ x2 = y2 ∧ x3 = y3)) w := by
  have hq : ∀ x y w, (Op.equalIn (d + 1) 3 (.int .i64 x) (.int .i64 y)).run Try.prog w = .ok (x == y) w := fun x y w => run_equalIn_int w d 3 .i64 .i64 x y Try.underlying3
  rw [Op.equalIn]
  simp only [Sem.run_bind, run_underlying Try.underlying42, Result.andThen_ok, Try.sizeOf3]
  rw [Std.Legacy.Range.forIn_eq_forIn_range']
  have hr : List.range' [:4].start [:4].size [:4].step = [0, 1, 2, 3] := rfl
  rw [hr]
  have hp : ∀ (z0 z1 z2 z3 : Int) (i : Nat) (z : Int), ([z0, z1, z2, z3] : List Int)[i]? = some z → ∀ w, (part 3 #[.int .i64 z0, .int .i64 z1, .int .i64 z2, .int .i64 z3] i).run Try.prog w = .ok (.int .i64 z) w := by
    intro z0 z1 z2 z3 i z hz w
    match i, hz with
    | 0, hz | 1, hz | 2, hz | 3, hz =>
      simp at hz
      subst hz
      simp [part, Try.isAgg3, Sem.run_bind]
  have p0 := fun z0 z1 z2 z3 w => hp z0 z1 z2 z3 0 _ rfl w
  have p1 := fun z0 z1 z2 z3 w => hp z0 z1 z2 z3 1 _ rfl w
  have p2 := fun z0 z1 z2 z3 w => hp z0 z1 z2 z3 2 _ rfl w
  have p3 := fun z0 z1 z2 z3 w => hp z0 z1 z2 z3 3 _ rfl w
  clear hp hr
  simp only [List.forIn_cons, List.forIn_nil, Sem.run_bind, Nat.mul_one, p0, hq, Result.andThen_ok]
  by_cases h0 : x0 = y0
  · by_cases h1 : x1 = y1
    · by_cases h2 : x2 = y2
      · by_cases h3 : x3 = y3
        · simp [h0, h1, h2, h3, p1, p2, p3, hq]
        · simp [h0, h1, h2, h3, p1, p2, p3, hq]
      · simp [h0, h1, h2, p1, p2, p3, hq]
    · simp [h0, h1, p1, p2, p3, hq]
  · simp [h0]

def letsB (x0 x1 x2 x3 y0 y1 y2 y3 : Int) (q : Nat) : Bool := decide (max x0 y0 = tk1 x0 0 q ∧ max x1 y1 = tk1 x1 1 q ∧ max x2 y2 = tk1 x2 2 q ∧ max x3 y3 = tk1 x3 3 q)

end Go.Proofs.Ythlkdlknkbigkaa

/- The program's VecJoin, VecCmp, VecTick, MayCome. -/
namespace Go.Proofs.Ythlkdlknkbigkaa
open Go.ChangeShapes Go.WideShapes Go.ChangeAt Go.RowKit Go.Joins
attribute [local go_sem ↓] Go.wp_at_zero Go.wp_at_succ

def joinV (xs ys : List Int) : List Int := if vecB xs && vecB ys then List.zipWith max xs ys else []

theorem joinV_good {xs ys : List Int} (h : vecB xs = true) (h' : vecB ys = true) : joinV xs ys = List.zipWith max xs ys := by
  unfold joinV
  rw [h, h']
  rfl

theorem joinV_bad {xs ys : List Int} (h : (vecB xs && vecB ys) = false) : joinV xs ys = [] := by
  unfold joinV
  rw [h]
  rfl

theorem own4 (w : World) (lo : Nat) (h : lo ≤ w.heap.size) (z0 z1 z2 z3 : Int) (t g : Nat) (hg : g = w.heap.size) : OwnI (w.alloc (.cells #[.int .i64 z0, .int .i64 z1, .int .i64 z2, .int .i64 z3] t)) lo (w.alloc (.cells #[.int .i64 z0, .int .i64 z1, .int .i64 z2, .int .i64 z3] t)).heap.size (some ⟨g, 0, none⟩) [z0, z1, z2, z3] := by
  subst hg
  refine .inr ⟨w.heap.size, rfl, h, by simp, by simp, fun i hi => ?_, fun o => by go_simp⟩
  match i, hi with
  | 0, _ | 1, _ | 2, _ | 3, _ => go_simp

theorem ret_int {a b : Int} (h : a = b) : Ending.returned (.int .i64 a) = .returned (.int .i64 b) := by rw [h]

def cmp3 (d1 d2 d3 : Bool) : Int := if d1 then 0 else if d2 then -1 else if d3 then 1 else 2

def lessV (xs ys : List Int) (k : Nat) : Bool := (List.range k).any fun i => decide (xs.getD i 0 < ys.getD i 0)

def moreV (xs ys : List Int) (k : Nat) : Bool := (List.range k).any fun i => decide (ys.getD i 0 < xs.getD i 0)

theorem lessV_next (xs ys : List Int) (k : Nat) : lessV xs ys (k + 1) = (lessV xs ys k || decide (xs.getD k 0 < ys.getD k 0)) := by
  unfold lessV
  rw [List.range_succ, List.any_append]
  simp

theorem moreV_next (xs ys : List Int) (k : Nat) : moreV xs ys (k + 1) = (moreV xs ys k || decide (ys.getD k 0 < xs.getD k 0)) := by
  unfold moreV
  rw [List.range_succ, List.any_append]
  simp

def lm (l m : Bool) : Int := if l && m then 2 else if l then -1 else if m then 1 else 0

def cmpV (xs ys : List Int) : Int := if vecB xs && vecB ys then lm (lessV xs ys 4) (moreV xs ys 4) else 3

theorem cmpV_bad {xs ys : List Int} (h : (vecB xs && vecB ys) = false) : cmpV xs ys = 3 := by
  unfold cmpV
  rw [h]
  rfl

theorem cmpV_good {xs ys : List Int} (h : vecB xs = true) (h' : vecB ys = true) : cmpV xs ys = lm (lessV xs ys 4) (moreV xs ys 4) := by
  unfold cmpV
  rw [h, h']
  rfl

theorem cmpV_four (x0 x1 x2 x3 y0 y1 y2 y3 : Int) (h : vecB [x0, x1, x2, x3] = true) (h' : vecB [y0, y1, y2, y3] = true) :
    cmpV [x0, x1, x2, x3] [y0, y1, y2, y3] = cmp3 (decide (x0 = y0 ∧ x1 = y1 ∧ x2 = y2 ∧ x3 = y3)) (decide (max x0 y0 = y0 ∧ max x1 y1 = y1 ∧ max x2 y2 = y2 ∧ max x3 y3 = y3)) (decide (max x0 y0 = x0 ∧ max x1 y1 = x1 ∧ max x2 y2 = x2 ∧ max x3 y3 = x3)) := by
  rw [cmpV_good h h']
  have hl : lessV [x0, x1, x2, x3] [y0, y1, y2, y3] 4 = !decide (max x0 y0 = x0 ∧ max x1 y1 = x1 ∧ max x2 y2 = x2 ∧ max x3 y3 = x3) := by
    simp only [lessV_next, show lessV [x0, x1, x2, x3] [y0, y1, y2, y3] 0 = false from rfl]
    rw [Bool.eq_iff_iff]
    simp
    omega
  have hm : moreV [x0, x1, x2, x3] [y0, y1, y2, y3] 4 = !decide (max x0 y0 = y0 ∧ max x1 y1 = y1 ∧ max x2 y2 = y2 ∧ max x3 y3 = y3) := by
    simp only [moreV_next, show moreV [x0, x1, x2, x3] [y0, y1, y2, y3] 0 = false from rfl]
    rw [Bool.eq_iff_iff]
    simp
    omega
  have he : decide (x0 = y0 ∧ x1 = y1 ∧ x2 = y2 ∧ x3 = y3) = (decide (max x0 y0 = x0 ∧ max x1 y1 = x1 ∧ max x2 y2 = x2 ∧ max x3 y3 = x3) && decide (max x0 y0 = y0 ∧ max x1 y1 = y1 ∧ max x2 y2 = y2 ∧ max x3 y3 = y3)) := by
    rw [Bool.eq_iff_iff]
    simp
    omega
  rw [hl, hm, he]
  generalize decide (max x0 y0 = x0 ∧ max x1 y1 = x1 ∧ max x2 y2 = x2 ∧ max x3 y3 = x3) = d3
  generalize decide (max x0 y0 = y0 ∧ max x1 y1 = y1 ∧ max x2 y2 = y2 ∧ max x3 y3 = y3) = d2
  cases d3 <;> cases d2 <;> rfl

def tickOk (xs : List Int) (si : Int) : Bool := vecB xs && (btw si 0 3 && !(xs.getD si.toNat 0 == 1000000))

def tickV (xs : List Int) (si : Int) : List Int := if tickOk xs si then xs.set si.toNat (xs.getD si.toNat 0 + 1) else []

theorem tickV_bad {xs : List Int} {si : Int} (h : tickOk xs si = false) : tickV xs si = [] := by
  unfold tickV
  rw [h]
  rfl

theorem tickV_good {xs : List Int} {si : Int} (h : tickOk xs si = true) : tickV xs si = xs.set si.toNat (xs.getD si.toNat 0 + 1) := by
  unfold tickV
  rw [h]
  rfl

theorem tickOk_bad {xs : List Int} {si : Int} (h : vecB xs = false) : tickOk xs si = false := by
  unfold tickOk
  rw [h]
  rfl

theorem tickOk_off {xs : List Int} {si : Int} (h : btw si 0 3 = false) : tickOk xs si = false := by
  unfold tickOk
  rw [h]
  simp

theorem tickOk_at {xs : List Int} {si : Int} (h : vecB xs = true) (h' : btw si 0 3 = true) : tickOk xs si = !(xs.getD si.toNat 0 == 1000000) := by
  unfold tickOk
  rw [h, h']
  simp

theorem btw_site {si : Int} (h : btw si 0 3 = true) : si = 0 ∨ si = 1 ∨ si = 2 ∨ si = 3 := by
  unfold btw at h
  simp at h
  omega

set_option maxRecDepth 100000 in
theorem isSite_any (si : Int) (w : World) :
    Calls Try.prog 30 #[.int .i64 si] w fun e w' => e = .returned (.bool (btw si 0 3)) ∧ w' = w := by
  go_enter Try.func30, Try.ntmps30
  go_wp2_with fail
  refine (inRange_any _ _ _ _).mono ?_
  rintro e w1 ⟨rfl, hw⟩
  subst w1
  go_wp2
  go_ret
  exact ⟨rfl, rfl⟩

set_option maxRecDepth 100000 in
theorem specSite_any (si : Int) (w : World) :
    Calls Try.prog 28 #[.int .i64 si] w fun e w' => e = .returned (.bool (btw si 0 3)) ∧ w' = w := by
  go_enter Try.func28, Try.ntmps28
  go_wp2_with fail
  refine (between_any _ _ _ _).mono ?_
  rintro e w1 ⟨rfl, hw⟩
  subst w1
  go_wp2
  go_ret
  exact ⟨rfl, rfl⟩

abbrev postV (f : Int) (a : Option Addr) (n cap : Nat) (y : Int) : Value := .agg #[.int .i64 f, .slice a n cap, .int .i64 y]

/-- What MayCome asks at one place. -/
def mayOne (xs ys : List Int) (q i : Nat) : Bool := if i = q then decide (ys.getD i 0 = xs.getD i 0 + 1) else decide (ys.getD i 0 ≤ xs.getD i 0)

def mayAt (xs ys : List Int) (q k : Nat) : Bool := (List.range k).all (mayOne xs ys q)

theorem mayAt_next (xs ys : List Int) (q k : Nat) : mayAt xs ys q (k + 1) = (mayAt xs ys q k && mayOne xs ys q k) := by
  unfold mayAt
  rw [List.range_succ, List.all_append]
  simp

def mayB (xs ys : List Int) (si : Int) : Bool := vecB xs && (vecB ys && (btw si 0 3 && mayAt xs ys si.toNat 4))

theorem mayB_bad {xs ys : List Int} {si : Int} (h : (vecB xs && vecB ys) = false) : mayB xs ys si = false := by
  unfold mayB
  rw [← Bool.and_assoc, h]
  rfl

theorem mayB_off {xs ys : List Int} {si : Int} (h : btw si 0 3 = false) : mayB xs ys si = false := by
  unfold mayB
  rw [h]
  simp

theorem mayB_at {xs ys : List Int} {si : Int} (h : vecB xs = true) (h' : vecB ys = true) (hs : btw si 0 3 = true) : mayB xs ys si = mayAt xs ys si.toNat 4 := by
  unfold mayB
  rw [h, h', hs]
  simp

theorem lets_may (x0 x1 x2 x3 y0 y1 y2 y3 : Int) (q : Nat) (hq : q < 4) : letsB x0 x1 x2 x3 y0 y1 y2 y3 q = mayAt [x0, x1, x2, x3] [y0, y1, y2, y3] q 4 := by
  simp only [mayAt_next, show mayAt [x0, x1, x2, x3] [y0, y1, y2, y3] q 0 = true from rfl, Bool.true_and]
  unfold letsB mayOne tk1
  rw [Bool.eq_iff_iff]
  match q, hq with
  | 0, _ | 1, _ | 2, _ | 3, _ =>
    simp
    omega

end Go.Proofs.Ythlkdlknkbigkaa
