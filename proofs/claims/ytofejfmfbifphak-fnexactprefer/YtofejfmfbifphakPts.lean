/- Lists of points: opened, copied by toPointS, compared by eqPointS, marked by markPointS. -/
import Derived.Test.YtofejfmfbifphakIntsIn
import Derived.Deep.Slices
namespace Go.Proofs.Ytofejfmfbifphak
open Go.ChangeShapes Go.WideShapes Go.ChangeAt Go.RowKit Go.Joins Go.Deep
attribute [local go_sem ↓] Go.wp_at_zero Go.wp_at_succ

structure Pt where
  t : Int
  n : Int

def pz : Pt := ⟨0, 0⟩

abbrev ptV (t n : Int) : Value := .agg #[.int .i64 t, .int .i64 n]

def HoldsPts (w : World) (b o : Nat) (ps : List Pt) : Prop :=
  ∀ i, i < ps.length → w.cell? ⟨b, o + i * 2, none⟩ = some (.int .i64 (ps.getD i pz).t) ∧ w.cell? ⟨b, o + i * 2 + 1, none⟩ = some (.int .i64 (ps.getD i pz).n)

set_option maxRecDepth 100000 in
theorem HoldsPts.below {w w' : World} {b o B : Nat} {ps : List Pt} (h : HoldsPts w b o ps) (hb : Below B w w') (hB : b < B) : HoldsPts w' b o ps := fun i hi =>
  ⟨(hb.cell (p := ⟨b, o + i * 2, none⟩) hB).trans (h i hi).1, (hb.cell (p := ⟨b, o + i * 2 + 1, none⟩) hB).trans (h i hi).2⟩

/-- What a slice of points leads to. -/
def IsPts (w : World) (a : Option Addr) (ps : List Pt) : Prop := ps = [] ∨ ∃ b o, a = some ⟨b, o, none⟩ ∧ b < w.heap.size ∧ HoldsPts w b o ps

set_option maxRecDepth 100000 in
theorem IsPts.below {w w' : World} {a : Option Addr} {ps : List Pt} (h : IsPts w a ps) (hb : Below w.heap.size w w') : IsPts w' a ps := by
  rcases h with h | ⟨b, o, ha, hlt, hh⟩
  · exact .inl h
  · exact .inr ⟨b, o, ha, Nat.lt_of_lt_of_le hlt hb.size, hh.below hb hlt⟩

set_option maxRecDepth 100000 in
theorem IsPts.at {w w' : World} {a : Option Addr} {ps : List Pt} (h : IsPts w a ps) (hb : Below w.heap.size w w') {k : Nat} (hk : k < ps.length) : ∃ b o, a = some ⟨b, o, none⟩ ∧ b < w'.heap.size ∧ w'.cell? ⟨b, o + k * 2, none⟩ = some (.int .i64 (ps.getD k pz).t) ∧ w'.cell? ⟨b, o + k * 2 + 1, none⟩ = some (.int .i64 (ps.getD k pz).n) := by
  rcases h.below hb with h | ⟨b, o, ha, hlt, hh⟩
  · subst h
    simp at hk
  · exact ⟨b, o, ha, hlt, hh k hk⟩

/-- A list of points of one's own, between two block numbers. -/
def OwnP (w : World) (lo hi : Nat) (a : Option Addr) (ps : List Pt) : Prop :=
  ps = [] ∨ ∃ b, a = some ⟨b, 0, none⟩ ∧ lo ≤ b ∧ b < hi ∧ b < w.heap.size ∧ HoldsPts w b 0 ps ∧ ∀ o, w.frozen? ⟨b, o, none⟩ = false

set_option maxRecDepth 100000 in
theorem OwnP.below {w w' : World} {lo hi : Nat} {a : Option Addr} {ps : List Pt} (h : OwnP w lo hi a ps) (hb : Below w.heap.size w w') : OwnP w' lo hi a ps := by
  rcases h with h | ⟨b, ha, h1, h2, hlt, hh, hf⟩
  · exact .inl h
  · exact .inr ⟨b, ha, h1, h2, Nat.lt_of_lt_of_le hlt hb.size, hh.below hb hlt, fun o => (hb.frozen (p := ⟨b, o, none⟩) hlt).trans (hf o)⟩

set_option maxRecDepth 100000 in
theorem OwnP.only {w w' : World} {S : Nat → Prop} {lo hi : Nat} {a : Option Addr} {ps : List Pt} (h : OwnP w lo hi a ps) (ho : Only S w w') (hS : ∀ x, S x → x < lo ∨ hi ≤ x) : OwnP w' lo hi a ps := by
  rcases h with h | ⟨b, ha, h1, h2, hlt, hh, hf⟩
  · exact .inl h
  · have hb : w'.heap[b]? = w.heap[b]? := ho.block b fun e => by have := hS b e; omega
    exact .inr ⟨b, ha, h1, h2, by rw [ho.size]; exact hlt, fun i hi => ⟨(World.cell?_of_block (a := ⟨b, _, none⟩) hb).trans (hh i hi).1, (World.cell?_of_block (a := ⟨b, _, none⟩) hb).trans (hh i hi).2⟩, fun o => (ho.frozen _).trans (hf o)⟩

set_option maxRecDepth 100000 in
theorem OwnP.isPts {w : World} {lo hi : Nat} {a : Option Addr} {ps : List Pt} (h : OwnP w lo hi a ps) : IsPts w a ps := by
  rcases h with h | ⟨b, ha, _, _, hlt, hh, _⟩
  · exact .inl h
  · exact .inr ⟨b, 0, ha, hlt, hh⟩

def ptCell (ps : List Pt) (o : Nat) : Int := if o % 2 = 0 then (ps.getD (o / 2) pz).t else (ps.getD (o / 2) pz).n

def ptFill (ps : List Pt) (k j : Nat) : Value := .int .i64 (if j < k * 2 then ptCell ps j else 0)

set_option maxRecDepth 100000 in
theorem ptCell0 (ps : List Pt) (k : Nat) : ptCell ps (k * 2) = (ps.getD k pz).t := by
  unfold ptCell
  rw [if_pos (by omega), show k * 2 / 2 = k by omega]

set_option maxRecDepth 100000 in
theorem ptCell1 (ps : List Pt) (k : Nat) : ptCell ps (k * 2 + 1) = (ps.getD k pz).n := by
  unfold ptCell
  rw [if_neg (by omega), show (k * 2 + 1) / 2 = k by omega]

set_option maxRecDepth 100000 in
theorem ptFill_step (ps : List Pt) (k j : Nat) : (if j = k * 2 + 1 then Value.int .i64 (ps.getD k pz).n else if j = k * 2 then Value.int .i64 (ps.getD k pz).t else ptFill ps k j) = ptFill ps (k + 1) j := by
  unfold ptFill
  by_cases h1 : j = k * 2 + 1
  · rw [if_pos h1, if_pos (by omega), h1, ptCell1]
  rw [if_neg h1]
  by_cases h0 : j = k * 2
  · rw [if_pos h0, if_pos (by omega), h0, ptCell0]
  rw [if_neg h0]
  by_cases hl : j < k * 2
  · rw [if_pos hl, if_pos (by omega)]
  · rw [if_neg hl, if_neg (by omega)]

set_option maxRecDepth 100000 in
theorem rowPt_start (w : World) (t n : Nat) (ps : List Pt) : (w.alloc (.cells (madeCells #[.int .i64 0, .int .i64 0] (n * 2)) t)).rowIs w.heap.size t (n * 2) (ptFill ps 0) := by
  refine ⟨_, Go.Deep.blk_alloc_new _ _, size_madeCells _ _, fun i hi => ?_⟩
  have e : ptFill ps 0 i = .int .i64 0 := by unfold ptFill; rw [if_neg (by omega)]
  rw [e]
  have h4 : i % 2 = 0 ∨ i % 2 = 1 := by omega
  rcases h4 with h | h <;> simp [madeCells, hi, h]

set_option maxRecDepth 100000 in
theorem holds_of_ptRow {w : World} {g t n : Nat} {ps : List Pt} (hn : ps.length = n) (h : w.rowIs g t (n * 2) (ptFill ps n)) : HoldsPts w g 0 ps := by
  intro i hi
  rw [Nat.zero_add]
  refine ⟨?_, ?_⟩
  · rw [h.cell (by omega), ptFill, if_pos (by omega), ptCell0]
  · rw [h.cell (by omega), ptFill, if_pos (by omega), ptCell1]

set_option maxRecDepth 100000 in
theorem infoPt : (Try.prog.info? 66).map (fun i => (i.zero, i.size, i.bytes)) = some (some (ptV 0 0), 2, 16) := by kernel_rfl

set_option maxRecDepth 100000 in
theorem run_make_pts (n : Nat) (hn : n ≤ 1048576) (w : World) :
    (Instr.makeSlice 39 (.int .i64 (n : Int)) (.int .i64 (n : Int))).run Try.prog w = .ok (.slice (some ⟨w.heap.size, 0, none⟩) n n) (w.alloc (.cells (madeCells #[.int .i64 0, .int .i64 0] (n * 2)) 66)) := by
  obtain ⟨i, hi, hzz⟩ := Option.map_eq_some_iff.1 infoPt
  simp only [Prod.mk.injEq] at hzz
  obtain ⟨hz, hs, hb⟩ := hzz
  have hr := run_make (P := Try.prog) w 39 66 i _ Try.underlying39 hi hz .i64 .i64 n n (by omega) (Int.le_refl _) (by rw [hb]; omega) (by omega)
  simp only [Int.toNat_natCast, hs] at hr
  exact hr

set_option maxRecDepth 100000 in
theorem szPointS_small (a : Option Addr) (len cap : Nat) (left : Int) (w : World) (h0 : 0 ≤ left) (h1 : left ≤ 1048576) (h : (len : Int) ≤ left) :
    Calls Try.prog 20 #[.slice a len cap, .int .i64 left] w fun e w' => e = .returned (.int .i64 (left - len)) ∧ w' = w := by
  go_enter Try.func20, Try.ntmps20
  go_wp2
  go_ret
  exact ⟨rfl, rfl⟩

set_option maxRecDepth 100000 in
theorem szPointS_big (a : Option Addr) (len cap : Nat) (left : Int) (w : World) (h0 : 0 ≤ left) (h1 : left ≤ 1048576) (h : left < (len : Int)) (hm : len ≤ 9223372036854775807) :
    Calls Try.prog 20 #[.slice a len cap, .int .i64 left] w fun e w' => e = .returned (.int .i64 (-1)) ∧ w' = w := by
  go_enter Try.func20, Try.ntmps20
  go_wp2
  go_ret
  exact ⟨rfl, rfl⟩

set_option maxRecDepth 100000 in
set_option maxHeartbeats 400000 in
theorem eqPoint_same (t n : Int) (w : World) :
    Calls Try.prog 43 #[ptV t n, ptV t n] w fun e w' => e = .returned (.bool true) ∧ Below w.heap.size w w' := by
  go_enter Try.func43, Try.ntmps43
  go_wp2
  go_ret
  exact ⟨rfl, ((Below.refl _ _).alloc (Nat.le_refl _) _).alloc (by simp) _⟩

set_option maxRecDepth 100000 in
set_option maxHeartbeats 400000 in
theorem toPoint_any (t n : Int) (w : World) :
    Calls Try.prog 40 #[ptV t n] w fun e w' => e = .returned (ptV t n) ∧ Below w.heap.size w w' := by
  go_enter Try.func40, Try.ntmps40
  go_wp2
  refine bodyPost_ret (v := ptV t n) (by simp [results, Try.results40, go_sem]) rfl ⟨rfl, ?_⟩
  exact (((Below.refl _ _).alloc (Nat.le_refl _) _).alloc (by simp) _).alloc (by simp; omega) _

set_option maxRecDepth 100000 in
set_option maxHeartbeats 1000000 in
theorem toPointS_own (a : Option Addr) (n cap : Nat) (ps : List Pt) (w : World) (hl : ps.length = n) (hn : n ≤ 1048576) (hh : IsPts w a ps) :
    Calls Try.prog 22 #[.slice a n cap] w fun e w' => e = .returned (.slice (some ⟨w.heap.size, 0, none⟩) n n) ∧ w.heap.size < w'.heap.size ∧ OwnP w' w.heap.size (w.heap.size + 1) (some ⟨w.heap.size, 0, none⟩) ps ∧ Below w.heap.size w w' := by
  have HH : Hid (IsPts w a ps) := hh
  have HL : Hid (ps.length = n) := hl
  clear hh hl
  have hmk := run_make_pts n hn
  go_enter Try.func22, Try.ntmps22
  go_wp2
  clear hmk
  go_loopw [4] (fun i wr => ∃ k : Nat, k ≤ n ∧ i = .int .i64 k ∧ Hid (wr.rowIs w.heap.size 66 (n * 2) (ptFill ps k)) ∧ Hid (Below w.heap.size w wr)) (fun i _ => n - (intOf i).toNat)
  case atStart => exact ⟨0, Nat.zero_le _, rfl, rowPt_start _ _ _ _, (Below.refl _ _).alloc (Nat.le_refl _) _⟩
  case round =>
    obtain ⟨k, hk, rfl, HR, HB⟩ := hrel
    by_cases hk' : k < n
    · obtain ⟨b, o, rfl, hz, e0, e1⟩ := HH.out.at HB.out (show k < ps.length by rw [HL.out]; exact hk')
      have i1 : (0 : Int) ≤ (k : Int) := by omega
      have i2 : (k : Int) < (n : Int) := by omega
      have HS : Hid (∀ w2 : World, w2.rowIs w.heap.size 66 (n * 2) (ptFill ps k) → ((w2.setCell ⟨w.heap.size, k * 2, none⟩ (.int .i64 (ps.getD k pz).t)).setCell ⟨w.heap.size, k * 2 + 1, none⟩ (.int .i64 (ps.getD k pz).n)).rowIs w.heap.size 66 (n * 2) (ptFill ps (k + 1))) := fun w2 h2 => ((h2.set _ _).set _ _).congr (fun j _ => ptFill_step ps k j)
      clear HH
      generalize (ps.getD k pz).t = x at *
      generalize (ps.getD k pz).n = y at *
      go_wp2_with fail
      refine (toPoint_any _ _ _).mono ?_
      rintro e w2 ⟨rfl, hb⟩
      have HR2 : Hid (w2.rowIs w.heap.size 66 (n * 2) (ptFill ps k)) := HR.out.of_block (hb.block _ HR.out.lt)
      have HB2 : Hid (Below w.heap.size w w2) := below_step HB.out HB.out.size hb
      have c0 := HR2.out.cell (i := k * 2) (by omega)
      have c1 := HR2.out.cell (i := k * 2 + 1) (by omega)
      have fz := HR2.out.frozen
      clear hb
      go_wp2
      exact ⟨⟨k + 1, by omega, by go_num, HS.out _ HR2.out, (HB2.out.setCell (p := ⟨w.heap.size, k * 2, none⟩) (Nat.le_refl _) _).setCell (p := ⟨w.heap.size, k * 2 + 1, none⟩) (Nat.le_refl _) _⟩, by simp [intOf]; omega⟩
    · have hkk : k = n := by omega
      subst hkk
      go_wp2
      go_ret
      exact ⟨rfl, HR.out.lt, .inr ⟨_, rfl, Nat.le_refl _, Nat.lt_succ_self _, HR.out.lt, holds_of_ptRow HL.out HR.out, HR.out.frozen⟩, HB.out⟩

set_option maxRecDepth 100000 in
set_option maxHeartbeats 1000000 in
theorem eqPointS_same (a a' : Option Addr) (n cap cap' : Nat) (ps : List Pt) (w : World) (hn : ps.length = n) (hm : n ≤ 1048576) (hh : IsPts w a ps) (hh' : IsPts w a' ps) :
    Calls Try.prog 24 #[.slice a n cap, .slice a' n cap'] w fun e w' => e = .returned (.bool true) ∧ Below w.heap.size w w' := by
  have HH : Hid (IsPts w a ps) := hh
  have HH' : Hid (IsPts w a' ps) := hh'
  have HN : Hid (ps.length = n) := hn
  clear hh hh' hn
  go_enter Try.func24, Try.ntmps24
  go_wp2
  go_loopw [5] (fun i wr => ∃ k : Nat, k ≤ n ∧ i = .int .i64 k ∧ Hid (Below w.heap.size w wr)) (fun i _ => n - (intOf i).toNat)
  case atStart => exact ⟨0, Nat.zero_le _, rfl, Below.refl _ _⟩
  case round =>
    obtain ⟨k, hk, rfl, HB⟩ := hrel
    by_cases hk' : k < n
    · obtain ⟨b, o, rfl, hz, e0, e1⟩ := HH.out.at HB.out (show k < ps.length by rw [HN.out]; exact hk')
      obtain ⟨b', o', rfl, hz', f0, f1⟩ := HH'.out.at HB.out (show k < ps.length by rw [HN.out]; exact hk')
      have i1 : (0 : Int) ≤ (k : Int) := by omega
      have i2 : (k : Int) < (n : Int) := by omega
      clear HH HH'
      generalize (ps.getD k pz).t = x at *
      generalize (ps.getD k pz).n = y at *
      go_wp2_with fail
      have ge0 := aft_cell hz e0
      have ge1 := aft_cell hz e1
      have gf0 := aft_cell hz' f0
      have gf1 := aft_cell hz' f1
      have ne := aft_some wr
      refine wp_region_aft (by kernel_rfl) (by kernel_rfl) ?_
      repeat (first | go_big_quiet_step (first | (go_at_call 43; exact aft_of (eqPoint_same _ _ _))))
      refine wpQuiet_nil ?_
      intro wq hq
      have HBQ : Hid (Below w.heap.size w wq) := below_step HB.out HB.out.size hq
      clear hq
      go_wp2
      exact ⟨⟨k + 1, by omega, by go_num, HBQ⟩, by simp [intOf]; omega⟩
    · have hkk : k = n := by omega
      subst hkk
      go_wp2
      go_ret
      exact ⟨rfl, HB.out⟩

set_option maxRecDepth 100000 in
theorem markP_step (k : Int) (j o : Nat) (f : Nat → Value) : (if o = j * 2 + 1 then Value.int .i64 (k + 2 * j + 1) else if o = j * 2 then Value.int .i64 (k + 2 * j) else if o < j * 2 then markFn k o else f o) = (if o < (j + 1) * 2 then markFn k o else f o) := by
  unfold markFn
  by_cases h1 : o = j * 2 + 1
  · rw [if_pos h1, if_pos (by omega), h1]
    congr 1
    push_cast
    omega
  rw [if_neg h1]
  by_cases h0 : o = j * 2
  · rw [if_pos h0, if_pos (by omega), h0]
    congr 1
    push_cast
    omega
  rw [if_neg h0]
  by_cases hl : o < j * 2
  · rw [if_pos hl, if_pos (by omega)]
  · rw [if_neg hl, if_neg (by omega)]

/-- A list of points that is marked. -/
def MarkedP (w : World) (a : Option Addr) (n : Nat) (k : Int) : Prop := n = 0 ∨ ∃ b, a = some ⟨b, 0, none⟩ ∧ b < w.heap.size ∧ CellsAre w b (n * 2) (markFn k)

set_option maxRecDepth 100000 in
theorem MarkedP.below {w w' : World} {a : Option Addr} {n : Nat} {k : Int} (h : MarkedP w a n k) (hb : Below w.heap.size w w') : MarkedP w' a n k := by
  rcases h with h | ⟨b, ha, hlt, hc⟩
  · exact .inl h
  · exact .inr ⟨b, ha, Nat.lt_of_lt_of_le hlt hb.size, hc.of_block (hb.block b hlt)⟩

set_option maxRecDepth 100000 in
theorem HoldsPts.cells {w : World} {b n : Nat} {ps : List Pt} (h : HoldsPts w b 0 ps) (hn : ps.length = n) : CellsAre w b (n * 2) (fun o => .int .i64 (ptCell ps o)) := fun o ho => by
  have h1 := h (o / 2) (by omega)
  rw [Nat.zero_add] at h1
  show _ = some (Value.int .i64 (ptCell ps o))
  unfold ptCell
  by_cases hp : o % 2 = 0
  · rw [if_pos hp, ← h1.1]
    congr 2
    omega
  · rw [if_neg hp, ← h1.2]
    congr 2
    omega

set_option maxRecDepth 100000 in
set_option maxHeartbeats 2000000 in
theorem markPointS_any (lo hi n cap : Nat) (a : Option Addr) (k : Int) (ps : List Pt) (w : World) (hn : ps.length = n) (hm : n ≤ 1048576) (h0 : 0 ≤ k) (h1 : k ≤ 1099511627776) (ho : OwnP w lo hi a ps) :
    Calls Try.prog 25 #[.slice a n cap, .int .i64 k] w fun e w' => e = .returned (.int .i64 (k + 2 * n)) ∧ MarkedP w' a n k ∧ Only (fun x => lo ≤ x ∧ x < hi) w w' := by
  by_cases hz : n = 0
  · subst hz
    clear ho hn
    go_enter Try.func25, Try.ntmps25
    go_wp2
    go_loopw [1, 5] (fun l i wr => i = .int .i64 0 ∧ l = .int .i64 k ∧ wr = w) (fun _ _ _ => 0)
    case atStart => exact ⟨rfl, rfl, rfl⟩
    case round =>
      obtain ⟨rfl, rfl, rfl⟩ := hrel
      go_wp2
      go_ret
      exact ⟨by simp, .inl rfl, Only.refl _ _⟩
  · obtain ⟨b, rfl, hlo, hhi, hlt, hc, hf⟩ : ∃ b, a = some ⟨b, 0, none⟩ ∧ lo ≤ b ∧ b < hi ∧ b < w.heap.size ∧ HoldsPts w b 0 ps ∧ ∀ o, w.frozen? ⟨b, o, none⟩ = false := by
      rcases ho with h | h
      · rw [h] at hn
        exact absurd hn.symm hz
      · exact h
    have HC : Hid (CellsAre w b (n * 2) (fun o => .int .i64 (ptCell ps o))) := hc.cells hn
    have HF := Lib.hid hf
    clear hc hf hn
    go_enter Try.func25, Try.ntmps25
    go_wp2
    go_loopw [1, 5] (fun l i wr => ∃ (j : Nat), j ≤ n ∧ i = .int .i64 j ∧ l = .int .i64 (k + 2 * j) ∧ Hid (CellsAre wr b (n * 2) (fun o => if o < j * 2 then markFn k o else .int .i64 (ptCell ps o))) ∧ Hid (Only (fun x => lo ≤ x ∧ x < hi) w wr)) (fun _ i _ => n - (intOf i).toNat)
    case atStart => exact ⟨0, Nat.zero_le _, rfl, by simp, HC.out.congr (fun o _ => by simp), Only.refl _ _⟩
    case round =>
      obtain ⟨j, hj, rfl, rfl, HR, HO⟩ := hrel
      by_cases hj' : j < n
      · have c0 := HR.out (j * 2) (by omega)
        have c1 := HR.out (j * 2 + 1) (by omega)
        have fz : ∀ o, wr.frozen? ⟨b, o, none⟩ = false := fun o => (HO.out.frozen _).trans (HF.out o)
        have i1 : (0 : Int) ≤ (j : Int) := by omega
        have i2 : (j : Int) < (n : Int) := by omega
        go_wp2
        exact ⟨⟨j + 1, by omega, by go_num, by congr 1; push_cast; omega, ((HR.out.set (by omega) _).set (by omega) _).congr (fun o _ => markP_step k j o (fun o => .int .i64 (ptCell ps o))), (HO.out.set ⟨hlo, hhi⟩ _ _).set ⟨hlo, hhi⟩ _ _⟩, by simp [intOf]; omega⟩
      · have hjj : j = n := by omega
        subst hjj
        go_wp2
        go_ret
        exact ⟨rfl, .inr ⟨b, rfl, by rw [HO.out.size]; exact hlt, HR.out.congr (fun o ho' => by rw [if_pos ho'])⟩, HO.out⟩

set_option maxRecDepth 100000 in
theorem cellsPt : Try.prog.cellsOf 68 = 2 := by kernel_rfl

set_option maxRecDepth 100000 in
theorem cellsOne : Try.prog.cellsOf 3 = 1 := by kernel_rfl

set_option maxRecDepth 100000 in
theorem pt_cells {H : Type} {enc : TypeId × Value → H} {w : World} {base : Nat} {spare : Nat → Bool} {held : Bool} {fuel : Nat} {cs : List Value} {x : DataW H × List MemPlace} (h : DataW.trod enc Try.prog w base spare held fuel 68 cs = some x) : ∃ p : Pt, cs = [.int .i64 p.t, .int .i64 p.n] ∧ Rng64 p.t ∧ Rng64 p.n := by
  obtain ⟨y0, y1, n, _, hl, h0, h1⟩ := trod_struct2 Try.underlying68 h
  rw [cellsPt] at hl
  match cs, hl with
  | [v0, v1], _ =>
    obtain ⟨a0, e0, _, w0⟩ := DataW.trod_int Try.underlying3 h0
    obtain ⟨a1, e1, _, w1⟩ := DataW.trod_int Try.underlying3 h1
    simp [cellsOne] at e0 e1
    subst e0 e1
    simp only [Lit.wf, Bool.and_eq_true, decide_eq_true_eq] at w0 w1
    exact ⟨⟨a0, a1⟩, rfl, w0, w1⟩

set_option maxRecDepth 100000 in
theorem addr_plain {w : World} {a : Addr} {v : Value} (h : w.cell? a = some v) : a = ⟨a.block, a.off, none⟩ := by
  cases a with
  | mk b o s =>
    cases s with
    | none => rfl
    | some s =>
      simp only [World.cell?] at h
      split at h <;> simp at h

set_option maxRecDepth 100000 in
theorem addr_add (b o i : Nat) : (Addr.mk b o none).add i = ⟨b, o + i, none⟩ := by
  unfold Addr.add
  split
  · rename_i h
    rw [h]
    rfl
  · rfl

set_option maxRecDepth 100000 in
theorem open_pts {H : Type} {enc : TypeId × Value → H} {w : World} {base b0 : Nat} {held : Bool} {r : Go.Reach} {v : Value} {d : DataW H} {p : List MemPlace} (hv : Value.okWide Try.prog w r b0 36 v) (h : DataW.Trod enc Try.prog w base (fun _ => true) held 36 v d p) :
    ∃ (a : Option Addr) (len cap : Nat) (ps : List Pt), v = .slice a len cap ∧ (ps.length = len ∧ len ≤ maxLen ∧ IsPts w a ps ∧ ∀ i, i < ps.length → Rng64 (ps.getD i pz).t ∧ Rng64 (ps.getD i pz).n) := by
  obtain ⟨a, len, cap, rfl⟩ := okWide_slice Try.underlying36 hv
  obtain ⟨fuel, hf⟩ := h
  rcases open_slice Try.underlying36 hf with ⟨hcs, _⟩ | ⟨a', len', cap', m, n, D, Pl, hcs, _, hl, hm, hmm, _, hel⟩
  · simp [Value.cells] at hcs
    obtain ⟨rfl, rfl, rfl⟩ := hcs
    exact ⟨_, _, _, [], rfl, rfl, Nat.zero_le _, .inl rfl, fun i hi => by simp at hi⟩
  · simp [Value.cells] at hcs
    obtain ⟨rfl, rfl, rfl⟩ := hcs
    have hml : len ≤ m := by rw [hmm]; split <;> omega
    by_cases h0 : len = 0
    · subst h0
      exact ⟨_, _, _, [], rfl, rfl, Nat.zero_le _, .inl rfl, fun i hi => by simp at hi⟩
    have hd : ∀ i, i < len → ∃ d : Pt, w.cell? (a'.add (i * 2)) = some (.int .i64 d.t) ∧ w.cell? (a'.add (i * 2 + 1)) = some (.int .i64 d.n) ∧ Rng64 d.t ∧ Rng64 d.n := by
      intro i hi
      obtain ⟨cs', h1, h2⟩ := hel i (by omega)
      rw [cellsPt] at h1
      obtain ⟨_, _, hc⟩ := World.cells?_some h1
      obtain ⟨d, hdd, hw1, hw2⟩ := pt_cells h2
      rw [hdd] at hc
      have c0 := hc 0 (by omega)
      have c1 := hc 1 (by omega)
      rw [add_add] at c0 c1
      exact ⟨d, by simpa using c0, by simpa using c1, hw1, hw2⟩
    have : Inhabited Pt := ⟨pz⟩
    obtain ⟨f, hf⟩ := choose_lt hd
    have ha : a' = ⟨a'.block, a'.off, none⟩ := by
      have h1 := (hf 0 (by omega)).1
      simp [Addr.add] at h1
      exact addr_plain h1
    have hg : ∀ i, i < len → ((List.range len).map f).getD i pz = f i := fun i hi => by simp [List.getD, hi]
    refine ⟨_, _, _, (List.range len).map f, rfl, by simp, by omega, .inr ⟨a'.block, a'.off, by rw [← ha], ?_, ?_⟩, ?_⟩
    · have h1 := (hf 0 (by omega)).1
      have := World.block_lt_of_cell? w _ h1
      simpa [Addr.add] using this
    · intro i hi
      have hi' : i < len := by simpa using hi
      rw [hg i hi']
      obtain ⟨h1, h2, _, _⟩ := hf i hi'
      rw [ha] at h1 h2
      rw [addr_add] at h1 h2
      exact ⟨h1, h2⟩
    · intro i hi
      have hi' : i < len := by simpa using hi
      rw [hg i hi']
      exact ⟨(hf i hi').2.2.1, (hf i hi').2.2.2⟩

end Go.Proofs.Ytofejfmfbifphak
