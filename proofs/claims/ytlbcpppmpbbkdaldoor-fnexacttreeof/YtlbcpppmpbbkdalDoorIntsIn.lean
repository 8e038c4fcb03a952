/- Lists of numbers that come in: opened, and copied by toIntS. -/
import Derived.Test.YtlbcpppmpbbkdalDoorInts
import Derived.ChangeSlices
import Derived.Deep.OwnRows
namespace Go.Proofs.YtlbcpppmpbbkdalDoor
open Go.ChangeShapes Go.WideShapes Go.ChangeAt Go.RowKit Go.Joins
attribute [local go_sem ↓] Go.wp_at_zero Go.wp_at_succ

def Rng64 (z : Int) : Prop := -9223372036854775808 ≤ z ∧ z ≤ 9223372036854775807

/-- What a slice of numbers, from whatever place of its block on, leads to. -/
def IsIs (w : World) (a : Option Addr) (zs : List Int) : Prop :=
  zs = [] ∨ ∃ b o, a = some ⟨b, o, none⟩ ∧ b < w.heap.size ∧ ∀ i, i < zs.length → w.cell? ⟨b, o + i, none⟩ = some (.int .i64 (zs.getD i 0))

set_option maxRecDepth 100000 in
theorem IsIs.below {w w' : World} {a : Option Addr} {zs : List Int} (h : IsIs w a zs) (hb : Below w.heap.size w w') : IsIs w' a zs := by
  rcases h with h | ⟨b, o, ha, hlt, hh⟩
  · exact .inl h
  · exact .inr ⟨b, o, ha, Nat.lt_of_lt_of_le hlt hb.size, fun i hi => (hb.cell (p := ⟨b, o + i, none⟩) hlt).trans (hh i hi)⟩

set_option maxRecDepth 100000 in
theorem IsIs.at {w w' : World} {a : Option Addr} {zs : List Int} (h : IsIs w a zs) (hb : Below w.heap.size w w') {k : Nat} (hk : k < zs.length) : ∃ b o, a = some ⟨b, o, none⟩ ∧ b < w'.heap.size ∧ w'.cell? ⟨b, o + k, none⟩ = some (.int .i64 (zs.getD k 0)) := by
  rcases h.below hb with h | ⟨b, o, ha, hlt, hh⟩
  · subst h
    simp at hk
  · exact ⟨b, o, ha, hlt, hh k hk⟩

set_option maxRecDepth 100000 in
theorem IsInts.isIs {w : World} {a : Option Addr} {zs : List Int} (h : IsInts w a zs) : IsIs w a zs := by
  rcases h with h | ⟨b, ha, hlt, hh⟩
  · exact .inl h
  · exact .inr ⟨b, 0, ha, hlt, fun i hi => by rw [Nat.zero_add]; exact hh i hi⟩

set_option maxRecDepth 100000 in
theorem open_intS {H : Type} {enc : TypeId × Value → H} {w : World} {base b0 : Nat} {held : Bool} {r : Go.Reach} {v : Value} {d : DataW H} {p : List MemPlace} (hv : Value.okWide Tryd.prog w r b0 24 v) (h : DataW.Trod enc Tryd.prog w base (fun _ => true) held 24 v d p) :
    ∃ (a : Option Addr) (len cap : Nat) (zs : List Int), v = .slice a len cap ∧ (zs.length = len ∧ len ≤ maxLen ∧ IsIs w a zs ∧ ∀ z ∈ zs, Rng64 z) := by
  obtain ⟨a, len, cap, rfl⟩ := okWide_slice Tryd.underlying24 hv
  obtain ⟨fuel, hf⟩ := h
  rcases open_ints Tryd.underlying24 Tryd.underlying3 (by kernel_rfl) hf with ⟨hcs, _⟩ | ⟨x, l, c, zs, hcs, _, hl, hm, hz, _, hcell, hwz⟩
  · simp [Value.cells] at hcs
    obtain ⟨rfl, rfl, rfl⟩ := hcs
    exact ⟨_, _, _, [], rfl, rfl, Nat.zero_le _, .inl rfl, fun z hz => by simp at hz⟩
  · simp [Value.cells] at hcs
    obtain ⟨rfl, rfl, rfl⟩ := hcs
    have hzl : zs.length = cap := by simpa using hz
    refine ⟨_, _, _, zs.take len, rfl, by rw [List.length_take]; omega, by omega, ?_, fun z hz => ?_⟩
    · by_cases h0 : len = 0
      · subst h0
        exact .inl (by simp)
      · have hx : x = ⟨x.block, x.off, none⟩ := by
          have h1 := hcell 0 (by omega)
          simp [Addr.add] at h1
          cases x with
          | mk b o s =>
            cases s with
            | none => rfl
            | some s =>
              simp only [World.cell?] at h1
              split at h1 <;> simp at h1
        refine .inr ⟨x.block, x.off, by rw [← hx], ?_, fun i hi => ?_⟩
        · have h1 := hcell 0 (by omega)
          have := World.block_lt_of_cell? w _ h1
          simpa [Addr.add] using this
        · have hi' : i < len := by rw [List.length_take] at hi; omega
          have h1 := hcell i (by omega)
          have e1 : x.add i = ⟨x.block, x.off + i, none⟩ := by
            rw [hx]
            unfold Addr.add
            split
            · rename_i h
              rw [h]
              rfl
            · rfl
          rw [e1] at h1
          rw [h1]
          simp [List.getD, hi']
    · have hw := hwz z (List.mem_of_mem_take hz)
      simp only [Lit.wf, Bool.and_eq_true, decide_eq_true_eq] at hw
      exact hw

def intFill (zs : List Int) (k j : Nat) : Value := .int .i64 (if j < k then zs.getD j 0 else 0)

set_option maxRecDepth 100000 in
theorem intFill_step (zs : List Int) (k j : Nat) : (if j = k then Value.int .i64 (zs.getD k 0) else intFill zs k j) = intFill zs (k + 1) j := by
  unfold intFill
  by_cases h : j = k
  · rw [if_pos h, if_pos (by omega), h]
  · rw [if_neg h]
    by_cases hl : j < k
    · rw [if_pos hl, if_pos (by omega)]
    · rw [if_neg hl, if_neg (by omega)]

set_option maxRecDepth 100000 in
theorem rowInt_start (w : World) (t n : Nat) (zs : List Int) : (w.alloc (.cells (madeCells #[.int .i64 0] n) t)).rowIs w.heap.size t n (intFill zs 0) := by
  refine ⟨_, Go.Deep.blk_alloc_new _ _, size_madeCells _ _, fun i hi => ?_⟩
  have e : intFill zs 0 i = .int .i64 0 := by unfold intFill; rw [if_neg (by omega)]
  rw [e]
  have h1 : i % 1 = 0 := by omega
  simp [madeCells, hi, h1]

set_option maxRecDepth 100000 in
theorem run_make_ints (n : Nat) (hn : n ≤ 1048576) (w : World) :
    (Instr.makeSlice 24 (.int .i64 (n : Int)) (.int .i64 (n : Int))).run Tryd.prog w = .ok (.slice (some ⟨w.heap.size, 0, none⟩) n n) (w.alloc (.cells (madeCells #[.int .i64 0] n) 3)) := by
  obtain ⟨i, hi, hzz⟩ := Option.map_eq_some_iff.1 infoInt
  simp only [Prod.mk.injEq] at hzz
  obtain ⟨hz, hs, hb⟩ := hzz
  have hr := run_make (P := Tryd.prog) w 24 3 i _ Tryd.underlying24 hi hz .i64 .i64 n n (by omega) (Int.le_refl _) (by rw [hb]; omega) (by omega)
  simp only [Int.toNat_natCast, hs, Nat.mul_one] at hr
  exact hr

end Go.Proofs.YtlbcpppmpbbkdalDoor
