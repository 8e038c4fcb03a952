/- Lists of numbers that come in: opened, and copied by toIntS. -/
import Derived.Test.YtlbcpppmpbbkdalInts
import Derived.ChangeSlices
import Derived.Deep.OwnRows
namespace Go.Proofs.Ytlbcpppmpbbkdal
open Go.ChangeShapes Go.WideShapes Go.ChangeAt Go.RowKit Go.Joins
attribute [local go_sem ↓] Go.wp_at_zero Go.wp_at_succ

def Rng64 (z : Int) : Prop := -9223372036854775808 ≤ z ∧ z ≤ 9223372036854775807

/-- What a slice of numbers, from whatever place of its block on, leads to. -/
def IsIs (w : World) (a : Option Addr) (zs : List Int) : Prop :=
  zs = [] ∨ ∃ b o, a = some ⟨b, o, none⟩ ∧ b < w.heap.size ∧ ∀ i, i < zs.length → w.cell? ⟨b, o + i, none⟩ = some (.int .i64 (zs.getD i 0))

set_option maxRecDepth 100000 in
theorem IsIs.below {w w' : World} {a : Option Addr} {zs : List Int} (h : IsIs w a zs) (hb : Below w.heap.size w w') : IsIs w' a zs := by
  rcases h with h | ⟨b, o, ha, hlt, hh⟩
  · exact .inl h
  · exact .inr ⟨b, o, ha, Nat.lt_of_lt_of_le hlt hb.size, fun i hi => (hb.cell (p := ⟨b, o + i, none⟩) hlt).trans (hh i hi)⟩

set_option maxRecDepth 100000 in
theorem IsIs.at {w w' : World} {a : Option Addr} {zs : List Int} (h : IsIs w a zs) (hb : Below w.heap.size w w') {k : Nat} (hk : k < zs.length) : ∃ b o, a = some ⟨b, o, none⟩ ∧ b < w'.heap.size ∧ w'.cell? ⟨b, o + k, none⟩ = some (.int .i64 (zs.getD k 0)) := by
  rcases h.below hb with h | ⟨b, o, ha, hlt, hh⟩
  · subst h
    simp at hk
  · exact ⟨b, o, ha, hlt, hh k hk⟩

set_option maxRecDepth 100000 in
theorem IsInts.isIs {w : World} {a : Option Addr} {zs : List Int} (h : IsInts w a zs) : IsIs w a zs := by
  rcases h with h | ⟨b, ha, hlt, hh⟩
  · exact .inl h
  · exact .inr ⟨b, 0, ha, hlt, fun i hi => by rw [Nat.zero_add]; exact hh i hi⟩

set_option maxRecDepth 100000 in
theorem open_intS {H : Type} {enc : TypeId × Value → H} {w : World} {base b0 : Nat} {held : Bool} {r : Go.Reach} {v : Value} {d : DataW H} {p : List MemPlace} (hv : Value.okWide Try.prog w r b0 22 v) (h : DataW.Trod enc Try.prog w base (fun _ => true) held 22 v d p) :
    ∃ (a : Option Addr) (len cap : Nat) (zs : List Int), v = .slice a len cap ∧ (zs.length = len ∧ len ≤ maxLen ∧ IsIs w a zs ∧ ∀ z ∈ zs, Rng64 z) := by
  obtain ⟨a, len, cap, rfl⟩ := okWide_slice Try.underlying22 hv
  obtain ⟨fuel, hf⟩ := h
  rcases open_ints Try.underlying22 Try.underlying3 (by kernel_rfl) hf with ⟨hcs, _⟩ | ⟨x, l, c, zs, hcs, _, hl, hm, hz, _, hcell, hwz⟩
  · simp [Value.cells] at hcs
    obtain ⟨rfl, rfl, rfl⟩ := hcs
    exact ⟨_, _, _, [], rfl, rfl, Nat.zero_le _, .inl rfl, fun z hz => by simp at hz⟩
  · simp [Value.cells] at hcs
    obtain ⟨rfl, rfl, rfl⟩ := hcs
    have hzl : zs.length = cap := by simpa using hz
    refine ⟨_, _, _, zs.take len, rfl, by rw [List.length_take]; omega, by omega, ?_, fun z hz => ?_⟩
    · by_cases h0 : len = 0
      · subst h0
        exact .inl (by simp)
      · have hx : x = ⟨x.block, x.off, none⟩ := by
          have h1 := hcell 0 (by omega)
          simp [Addr.add] at h1
          cases x with
          | mk b o s =>
            cases s with
            | none => rfl
            | some s =>
              simp only [World.cell?] at h1
              split at h1 <;> simp at h1
        refine .inr ⟨x.block, x.off, by rw [← hx], ?_, fun i hi => ?_⟩
        · have h1 := hcell 0 (by omega)
          have := World.block_lt_of_cell? w _ h1
          simpa [Addr.add] using this
        · have hi' : i < len := by rw [List.length_take] at hi; omega
          have h1 := hcell i (by omega)
          have e1 : x.add i = ⟨x.block, x.off + i, none⟩ := by
            rw [hx]
            unfold Addr.add
            split
            · rename_i h
              rw [h]
              rfl
            · rfl
          rw [e1] at h1
          rw [h1]
          simp [List.getD, hi']
    · have hw := hwz z (List.mem_of_mem_take hz)
      simp only [Lit.wf, Bool.and_eq_true, decide_eq_true_eq] at hw
      exact hw

def intFill (zs : List Int) (k j : Nat) : Value := .int .i64 (if j < k then zs.getD j 0 else 0)

set_option maxRecDepth 100000 in
theorem intFill_step (zs : List Int) (k j : Nat) : (if j = k then Value.int .i64 (zs.getD k 0) else intFill zs k j) = intFill zs (k + 1) j := by
  unfold intFill
  by_cases h : j = k
  · rw [if_pos h, if_pos (by omega), h]
  · rw [if_neg h]
    by_cases hl : j < k
    · rw [if_pos hl, if_pos (by omega)]
    · rw [if_neg hl, if_neg (by omega)]

set_option maxRecDepth 100000 in
theorem rowInt_start (w : World) (t n : Nat) (zs : List Int) : (w.alloc (.cells (madeCells #[.int .i64 0] n) t)).rowIs w.heap.size t n (intFill zs 0) := by
  refine ⟨_, Go.Deep.blk_alloc_new _ _, size_madeCells _ _, fun i hi => ?_⟩
  have e : intFill zs 0 i = .int .i64 0 := by unfold intFill; rw [if_neg (by omega)]
  rw [e]
  have h1 : i % 1 = 0 := by omega
  simp [madeCells, hi, h1]

set_option maxRecDepth 100000 in
theorem run_make_ints (n : Nat) (hn : n ≤ 1048576) (w : World) :
    (Instr.makeSlice 22 (.int .i64 (n : Int)) (.int .i64 (n : Int))).run Try.prog w = .ok (.slice (some ⟨w.heap.size, 0, none⟩) n n) (w.alloc (.cells (madeCells #[.int .i64 0] n) 3)) := by
  obtain ⟨i, hi, hzz⟩ := Option.map_eq_some_iff.1 infoInt
  simp only [Prod.mk.injEq] at hzz
  obtain ⟨hz, hs, hb⟩ := hzz
  have hr := run_make (P := Try.prog) w 22 3 i _ Try.underlying22 hi hz .i64 .i64 n n (by omega) (Int.le_refl _) (by rw [hb]; omega) (by omega)
  simp only [Int.toNat_natCast, hs, Nat.mul_one] at hr
  exact hr

set_option maxRecDepth 100000 in
set_option maxHeartbeats 1000000 in
theorem toIntS_lt (a : Option Addr) (n cap : Nat) (zs : List Int) (w : World) (hl : zs.length = n) (hn : n ≤ 1048576) (hh : IsIs w a zs) :
    Calls Try.prog 6 #[.slice a n cap] w fun e w' => e = .returned (.slice (some ⟨w.heap.size, 0, none⟩) n n) ∧ w.heap.size < w'.heap.size ∧ OwnI w' w.heap.size (w.heap.size + 1) (some ⟨w.heap.size, 0, none⟩) zs ∧ Below w.heap.size w w' := by
  have HH : Hid (IsIs w a zs) := hh
  have HL : Hid (zs.length = n) := hl
  clear hh hl
  have hmk := run_make_ints n hn
  go_enter Try.func6, Try.ntmps6
  go_wp2
  clear hmk
  go_loopw [4] (fun i wr => ∃ k : Nat, k ≤ n ∧ i = .int .i64 k ∧ Hid (wr.rowIs w.heap.size 3 n (intFill zs k)) ∧ Hid (Below w.heap.size w wr)) (fun i _ => n - (intOf i).toNat)
  case atStart => exact ⟨0, Nat.zero_le _, rfl, rowInt_start _ _ _ _, (Below.refl _ _).alloc (Nat.le_refl _) _⟩
  case round =>
    obtain ⟨k, hk, rfl, HR, HB⟩ := hrel
    by_cases hk' : k < n
    · obtain ⟨b, o, rfl, hz, e0⟩ := HH.out.at HB.out (show k < zs.length by rw [HL.out]; exact hk')
      have i1 : (0 : Int) ≤ (k : Int) := by omega
      have i2 : (k : Int) < (n : Int) := by omega
      have HS : Hid (∀ w2 : World, w2.rowIs w.heap.size 3 n (intFill zs k) → (w2.setCell ⟨w.heap.size, k, none⟩ (.int .i64 (zs.getD k 0))).rowIs w.heap.size 3 n (intFill zs (k + 1))) := fun w2 h2 => (h2.set _ _).congr (fun j _ => intFill_step zs k j)
      have c0 := HR.out.cell (i := k) hk'
      have fz := HR.out.frozen
      clear HH
      generalize zs.getD k 0 = x at *
      go_wp2
      exact ⟨⟨k + 1, by omega, by go_num, HS.out _ HR.out, HB.out.setCell (p := ⟨w.heap.size, k, none⟩) (Nat.le_refl _) _⟩, by simp [intOf]; omega⟩
    · have hkk : k = n := by omega
      subst hkk
      go_wp2
      go_ret
      refine ⟨rfl, HR.out.lt, .inr ⟨_, rfl, Nat.le_refl _, Nat.lt_succ_self _, HR.out.lt, fun i hi => ?_, HR.out.frozen⟩, HB.out⟩
      have hi' : i < k := by rw [← HL.out]; exact hi
      rw [HR.out.cell hi', intFill, if_pos hi']

set_option maxRecDepth 100000 in
theorem toIntS_own (a : Option Addr) (n cap : Nat) (zs : List Int) (w : World) (hl : zs.length = n) (hn : n ≤ 1048576) (hh : IsIs w a zs) :
    Calls Try.prog 6 #[.slice a n cap] w fun e w' => e = .returned (.slice (some ⟨w.heap.size, 0, none⟩) n n) ∧ OwnI w' w.heap.size (w.heap.size + 1) (some ⟨w.heap.size, 0, none⟩) zs ∧ Below w.heap.size w w' :=
  (toIntS_lt a n cap zs w hl hn hh).mono fun _ _ ⟨h1, _, h2, h3⟩ => ⟨h1, h2, h3⟩

end Go.Proofs.Ytlbcpppmpbbkdal
