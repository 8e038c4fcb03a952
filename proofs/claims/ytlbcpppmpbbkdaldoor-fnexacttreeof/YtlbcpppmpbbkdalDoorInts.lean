/- Lists of numbers: rows that grow; what markIntS writes, heldIntS finds; the contract of eqIntS. -/
import Derived.Test.YtlbcpppmpbbkdalDoorMarks
namespace Go.Proofs.YtlbcpppmpbbkdalDoor
open Go.ChangeShapes Go.WideShapes Go.ChangeAt Go.RowKit Go.Joins
attribute [local go_sem ↓] Go.wp_at_zero Go.wp_at_succ

def intV (z : Int) : Value := .int .i64 z

theorem infoInt : (Tryd.prog.info? 3).map (fun i => (i.zero, i.size, i.bytes)) = some (some (.int .i64 0), 1, 8) := by kernel_rfl

/-- What a slice of numbers leads to. -/
def IsInts (w : World) (a : Option Addr) (zs : List Int) : Prop :=
  zs = [] ∨ ∃ b, a = some ⟨b, 0, none⟩ ∧ b < w.heap.size ∧ ∀ i, i < zs.length → w.cell? ⟨b, i, none⟩ = some (.int .i64 (zs.getD i 0))

theorem IsInts.below {w w' : World} {a : Option Addr} {zs : List Int} (h : IsInts w a zs) (hb : Below w.heap.size w w') : IsInts w' a zs := by
  rcases h with h | ⟨b, ha, hlt, hh⟩
  · exact .inl h
  · exact .inr ⟨b, ha, Nat.lt_of_lt_of_le hlt hb.size, fun i hi => (hb.cell (p := ⟨b, i, none⟩) hlt).trans (hh i hi)⟩

theorem IsInts.at {w w' : World} {a : Option Addr} {zs : List Int} (h : IsInts w a zs) (hb : Below w.heap.size w w') {k : Nat} (hk : k < zs.length) : ∃ b, a = some ⟨b, 0, none⟩ ∧ b < w'.heap.size ∧ w'.cell? ⟨b, k, none⟩ = some (.int .i64 (zs.getD k 0)) := by
  rcases h.below hb with h | ⟨b, ha, hlt, hh⟩
  · subst h
    simp at hk
  · exact ⟨b, ha, hlt, hh k hk⟩

/-- A list of numbers of one's own, between two block numbers. -/
def OwnI (w : World) (lo hi : Nat) (a : Option Addr) (zs : List Int) : Prop :=
  zs = [] ∨ ∃ b, a = some ⟨b, 0, none⟩ ∧ lo ≤ b ∧ b < hi ∧ b < w.heap.size ∧ (∀ i, i < zs.length → w.cell? ⟨b, i, none⟩ = some (.int .i64 (zs.getD i 0))) ∧ ∀ o, w.frozen? ⟨b, o, none⟩ = false

theorem OwnI.below {w w' : World} {lo hi : Nat} {a : Option Addr} {zs : List Int} (h : OwnI w lo hi a zs) (hb : Below w.heap.size w w') : OwnI w' lo hi a zs := by
  rcases h with h | ⟨b, ha, h1, h2, hlt, hh, hf⟩
  · exact .inl h
  · exact .inr ⟨b, ha, h1, h2, Nat.lt_of_lt_of_le hlt hb.size, fun i hi => (hb.cell (p := ⟨b, i, none⟩) hlt).trans (hh i hi), fun o => (hb.frozen (p := ⟨b, o, none⟩) hlt).trans (hf o)⟩

theorem OwnI.only {w w' : World} {S : Nat → Prop} {lo hi : Nat} {a : Option Addr} {zs : List Int} (h : OwnI w lo hi a zs) (ho : Only S w w') (hS : ∀ x, S x → x < lo) : OwnI w' lo hi a zs := by
  rcases h with h | ⟨b, ha, h1, h2, hlt, hh, hf⟩
  · exact .inl h
  · have hb : w'.heap[b]? = w.heap[b]? := ho.block b fun e => by have := hS b e; omega
    exact .inr ⟨b, ha, h1, h2, by rw [ho.size]; exact hlt, fun i hi => (World.cell?_of_block (a := ⟨b, i, none⟩) hb).trans (hh i hi), fun o => (ho.frozen _).trans (hf o)⟩

theorem OwnI.isInts {w : World} {lo hi : Nat} {a : Option Addr} {zs : List Int} (h : OwnI w lo hi a zs) : IsInts w a zs := by
  rcases h with h | ⟨b, ha, _, _, hlt, hh, _⟩
  · exact .inl h
  · exact .inr ⟨b, ha, hlt, hh⟩

/-- A row of numbers that grows. -/
def RowI (w : World) (base : Nat) (v : Value) (zs : List Int) : Prop := w.ownsRow base 3 1 v zs.length (zs.map intV)

theorem RowI.form {w : World} {base : Nat} {v : Value} {zs : List Int} (h : RowI w base v zs) : ∃ a cap, v = .slice a zs.length cap ∧ OwnI w base w.heap.size a zs := by
  rcases h.2 with ⟨h1, h2⟩ | ⟨g, cap, cur, h1, h2, h3, _⟩
  · exact ⟨none, 0, by rw [h1, h2], .inl (List.length_eq_zero_iff.1 h2)⟩
  · have hlt : g < w.heap.size := (Array.getElem?_eq_some_iff.1 h3).1
    subst h1
    refine ⟨_, cap, rfl, .inr ⟨g, rfl, h2, hlt, hlt, fun i hi => ?_, fun o => World.ownsRow.frozenAt h o⟩⟩
    rw [World.ownsRow.cellAt h i (by omega)]
    simp [intV, List.getD, hi]

theorem RowI.below {w w' : World} {base : Nat} {v : Value} {zs : List Int} (h : RowI w base v zs) (hb : Below w.heap.size w w') : RowI w' base v zs :=
  World.ownsRow.kept (row := none) h ⟨hb.os, hb.tape, hb.output, hb.size, fun k hk _ => hb.block k hk⟩ (by
    by_cases e : v.ownBlock = none
    · exact .inl e
    · exact .inr e)

theorem RowI.mono {w : World} {base base' : Nat} {v : Value} {zs : List Int} (h : RowI w base v zs) (hb : base' ≤ base) : RowI w base' v zs := by
  refine ⟨h.1, ?_⟩
  rcases h.2 with h1 | ⟨g, cap, cur, h1, h2, h3⟩
  · exact .inl h1
  · exact .inr ⟨g, cap, cur, h1, Nat.le_trans hb h2, h3⟩

theorem oneI_cells (w : World) (t : Nat) (z : Int) : ∀ j u, ([intV z] : List Value)[j]? = some u → (w.alloc (.cells #[.int .i64 z] t)).cell? ((⟨w.heap.size, 0, none⟩ : Addr).add j) = some u := by
  intro j u hu
  have e1 : (⟨w.heap.size, 0, none⟩ : Addr).add j = ⟨w.heap.size, j, none⟩ := by
    unfold Addr.add
    split
    · rename_i h
      rw [h]
    · simp
  rw [e1, cell_of_row _ _ j _ t (0, 0) (heap_alloc_new w _), ← hu]
  simp [intV]

theorem intV_one (zs : List Int) : ∀ u ∈ zs.map intV, u.oneCell' = true := by
  intro u hu
  obtain ⟨z, _, rfl⟩ := List.mem_map.1 hu
  rfl

set_option maxHeartbeats 1000000 in
theorem eqIntS_same (a a' : Option Addr) (n cap cap' : Nat) (zs : List Int) (w : World) (hn : zs.length = n) (hm : n ≤ 1048576) (hh : IsInts w a zs) (hh' : IsInts w a' zs) :
    Calls Tryd.prog 9 #[.slice a n cap, .slice a' n cap'] w fun e w' => e = .returned (.bool true) ∧ Below w.heap.size w w' := by
  have HH : Hid (IsInts w a zs) := hh
  have HH' : Hid (IsInts w a' zs) := hh'
  have HN : Hid (zs.length = n) := hn
  clear hh hh' hn
  go_enter Tryd.func9, Tryd.ntmps9
  go_wp2
  go_loopw [5] (fun i wr => ∃ k : Nat, k ≤ n ∧ i = .int .i64 k ∧ Hid (Below w.heap.size w wr)) (fun i _ => n - (intOf i).toNat)
  case atStart => exact ⟨0, Nat.zero_le _, rfl, Below.refl _ _⟩
  case round =>
    obtain ⟨k, hk, rfl, HB⟩ := hrel
    by_cases hk' : k < n
    · obtain ⟨b, rfl, hz, e0⟩ := HH.out.at HB.out (show k < zs.length by rw [HN.out]; exact hk')
      obtain ⟨b', rfl, hz', f0⟩ := HH'.out.at HB.out (show k < zs.length by rw [HN.out]; exact hk')
      have i1 : (0 : Int) ≤ (k : Int) := by omega
      have i2 : (k : Int) < (n : Int) := by omega
      clear HH HH'
      generalize zs.getD k 0 = x at *
      go_wp2_with fail
      have ge0 := aft_cell hz e0
      have gf0 := aft_cell hz' f0
      have ne := aft_some wr
      refine wp_region_aft (by kernel_rfl) (by kernel_rfl) ?_
      repeat (first | go_big_quiet_step (fail))
      refine wpQuiet_nil ?_
      intro wq hq
      have HBQ : Hid (Below w.heap.size w wq) := below_step HB.out HB.out.size hq
      clear hq
      go_wp2
      exact ⟨⟨k + 1, by omega, by go_num, HBQ⟩, by simp [intOf]; omega⟩
    · have hkk : k = n := by omega
      subst hkk
      go_wp2
      go_ret
      exact ⟨rfl, HB.out⟩

theorem markI_step (k : Int) (j o : Nat) (f : Nat → Value) : (if o = j then Value.int .i64 (k + j) else if o < j then markFn k o else f o) = (if o < j + 1 then markFn k o else f o) := by
  unfold markFn
  by_cases h0 : o = j
  · rw [if_pos h0, if_pos (by omega), h0]
  rw [if_neg h0]
  by_cases hl : o < j
  · rw [if_pos hl, if_pos (by omega)]
  · rw [if_neg hl, if_neg (by omega)]

/-- A list of numbers that is marked. -/
def MarkedI (w : World) (a : Option Addr) (n : Nat) (k : Int) : Prop := n = 0 ∨ ∃ b, a = some ⟨b, 0, none⟩ ∧ b < w.heap.size ∧ CellsAre w b n (markFn k)

theorem MarkedI.below {w w' : World} {a : Option Addr} {n : Nat} {k : Int} (h : MarkedI w a n k) (hb : Below w.heap.size w w') : MarkedI w' a n k := by
  rcases h with h | ⟨b, ha, hlt, hc⟩
  · exact .inl h
  · exact .inr ⟨b, ha, Nat.lt_of_lt_of_le hlt hb.size, hc.of_block (hb.block b hlt)⟩

set_option maxHeartbeats 1000000 in
theorem markIntS_any (lo hi n cap : Nat) (a : Option Addr) (k : Int) (zs : List Int) (w : World) (hn : zs.length = n) (hm : n ≤ 1048576) (h0 : 0 ≤ k) (h1 : k ≤ 1099511627776) (ho : OwnI w lo hi a zs) :
    Calls Tryd.prog 12 #[.slice a n cap, .int .i64 k] w fun e w' => e = .returned (.int .i64 (k + n)) ∧ MarkedI w' a n k ∧ Only (fun x => lo ≤ x ∧ x < hi) w w' := by
  by_cases hz : n = 0
  · subst hz
    clear ho hn
    go_enter Tryd.func12, Tryd.ntmps12
    go_wp2
    go_loopw [1, 5] (fun l i wr => i = .int .i64 0 ∧ l = .int .i64 k ∧ wr = w) (fun _ _ _ => 0)
    case atStart => exact ⟨rfl, rfl, rfl⟩
    case round =>
      obtain ⟨rfl, rfl, rfl⟩ := hrel
      go_wp2
      go_ret
      exact ⟨by simp, .inl rfl, Only.refl _ _⟩
  · obtain ⟨b, rfl, hlo, hhi, hlt, hc, hf⟩ : ∃ b, a = some ⟨b, 0, none⟩ ∧ lo ≤ b ∧ b < hi ∧ b < w.heap.size ∧ (∀ i, i < zs.length → w.cell? ⟨b, i, none⟩ = some (.int .i64 (zs.getD i 0))) ∧ ∀ o, w.frozen? ⟨b, o, none⟩ = false := by
      rcases ho with h | h
      · rw [h] at hn
        exact absurd hn.symm hz
      · exact h
    have HC : Hid (CellsAre w b n (fun o => .int .i64 (zs.getD o 0))) := fun o ho' => hc o (by rw [hn]; exact ho')
    have HF := Lib.hid hf
    clear hc hf hn
    go_enter Tryd.func12, Tryd.ntmps12
    go_wp2
    go_loopw [1, 5] (fun l i wr => ∃ (j : Nat), j ≤ n ∧ i = .int .i64 j ∧ l = .int .i64 (k + j) ∧ Hid (CellsAre wr b n (fun o => if o < j then markFn k o else .int .i64 (zs.getD o 0))) ∧ Hid (Only (fun x => lo ≤ x ∧ x < hi) w wr)) (fun _ i _ => n - (intOf i).toNat)
    case atStart => exact ⟨0, Nat.zero_le _, rfl, by simp, HC.out.congr (fun o _ => by simp), Only.refl _ _⟩
    case round =>
      obtain ⟨j, hj, rfl, rfl, HR, HO⟩ := hrel
      by_cases hj' : j < n
      · have c0 := HR.out j hj'
        have fz : ∀ o, wr.frozen? ⟨b, o, none⟩ = false := fun o => (HO.out.frozen _).trans (HF.out o)
        have i1 : (0 : Int) ≤ (j : Int) := by omega
        have i2 : (j : Int) < (n : Int) := by omega
        go_wp2
        exact ⟨⟨j + 1, by omega, by go_num, by congr 1; push_cast; omega, (HR.out.set (by omega) _).congr (fun o _ => markI_step k j o (fun o => .int .i64 (zs.getD o 0))), HO.out.set ⟨hlo, hhi⟩ _ _⟩, by simp [intOf]; omega⟩
      · have hjj : j = n := by omega
        subst hjj
        go_wp2
        go_ret
        exact ⟨rfl, .inr ⟨b, rfl, by rw [HO.out.size]; exact hlt, HR.out.congr (fun o ho' => by rw [if_pos ho'])⟩, HO.out⟩

set_option maxHeartbeats 1000000 in
theorem heldIntS_any (n cap : Nat) (a : Option Addr) (k : Int) (w : World) (hm : n ≤ 1048576) (h0 : 0 ≤ k) (h1 : k ≤ 1099511627776) (ho : MarkedI w a n k) :
    Calls Tryd.prog 13 #[.slice a n cap, .int .i64 k] w fun e w' => e = .returned (.int .i64 (k + n)) ∧ w' = w := by
  have HO : Hid (MarkedI w a n k) := ho
  clear ho
  go_enter Tryd.func13, Tryd.ntmps13
  go_wp2
  go_loopw [1, 5] (fun l i wr => ∃ (j : Nat), j ≤ n ∧ i = .int .i64 j ∧ l = .int .i64 (k + j) ∧ wr = w) (fun _ i _ => n - (intOf i).toNat)
  case atStart => exact ⟨0, Nat.zero_le _, rfl, by simp, rfl⟩
  case round =>
    obtain ⟨j, hj, rfl, rfl, rfl⟩ := hrel
    by_cases hj' : j < n
    · obtain ⟨b, rfl, hlt, hc⟩ : ∃ b, a = some ⟨b, 0, none⟩ ∧ b < wr.heap.size ∧ CellsAre wr b n (markFn k) := by
        rcases HO.out with h | h
        · omega
        · exact h
      have c0 := hc j hj'
      simp only [markFn] at c0
      have i1 : (0 : Int) ≤ (j : Int) := by omega
      have i2 : (j : Int) < (n : Int) := by omega
      clear hc HO
      go_wp2
      exact ⟨⟨j + 1, by omega, by go_num, by congr 1; push_cast; omega, trivial⟩, by simp [intOf]; omega⟩
    · have hjj : j = n := by omega
      subst hjj
      go_wp2
      go_ret
      exact ⟨rfl, rfl⟩

end Go.Proofs.YtlbcpppmpbbkdalDoor
