import Derived.Test.YtidpcjcnhklmpajPack4
import Derived.Test.YtidpcjcnhklmpajPack6
import Derived.Test.YtidpcjcnhklmpajPack3
/- The specification's l03Stay: which of some writes fit. -/
namespace Go.Proofs.Ytidpcjcnhklmpaj
open Go.ChangeShapes Go.WideShapes Go.ChangeAt Go.RowKit Go.Joins
attribute [local go_sem ↓] Go.wp_at_zero Go.wp_at_succ

/-- The map with those of the first k writes that are marked. -/
def allTo (us vs : List Wr) (st : Nat → Bool) : Nat → List Wr
  | 0 => us
  | k + 1 => match st k with
    | true => putW (allTo us vs st k) (vs.getD k wz)
    | false => allTo us vs st k

theorem allTo_yes {us vs : List Wr} {st : Nat → Bool} {k : Nat} (h : st k = true) : allTo us vs st (k + 1) = putW (allTo us vs st k) (vs.getD k wz) := by
  unfold allTo
  rw [h]
  cases k <;> rfl

theorem allTo_no {us vs : List Wr} {st : Nat → Bool} {k : Nat} (h : st k = false) : allTo us vs st (k + 1) = allTo us vs st k := by
  rw [allTo, h]

def allOf (us vs : List Wr) (st : Nat → Bool) : List Wr := allTo us vs st vs.length

/-- One round: who stays. -/
def nextS (us vs : List Wr) (st : Nat → Bool) (j : Nat) : Bool := st j && covB (allOf us vs st) (vs.getD j wz).xs

def stayAt (us vs : List Wr) : Nat → (Nat → Bool)
  | 0 => fun _ => true
  | n + 1 => nextS us vs (stayAt us vs n)

def midS (us vs : List Wr) (st : Nat → Bool) (k j : Nat) : Bool := if j < k then nextS us vs st j else st j

theorem allTo_len (us vs : List Wr) (st : Nat → Bool) : ∀ k, (allTo us vs st k).length ≤ us.length + k
  | 0 => Nat.le_refl _
  | k + 1 => by
    have h := allTo_len us vs st k
    cases hb : st k
    · rw [allTo_no hb]
      omega
    · rw [allTo_yes hb]
      have := put_len (allTo us vs st k) (vs.getD k wz)
      omega

theorem allTo_few {us vs : List Wr} (st : Nat → Bool) (hu : Few us) (hv : Few vs) : ∀ k, k ≤ vs.length → Few (allTo us vs st k)
  | 0, _ => hu
  | k + 1, hk => by
    have h := allTo_few st hu hv k (by omega)
    cases hb : st k
    · rw [allTo_no hb]
      exact h
    · rw [allTo_yes hb]
      exact put_few h (hv k (by omega))

def cnt (st : Nat → Bool) : Nat → Nat
  | 0 => 0
  | k + 1 => cnt st k + (st k).toNat

theorem cnt_congr {s t : Nat → Bool} : ∀ {m}, (∀ j, j < m → s j = t j) → cnt s m = cnt t m
  | 0, _ => rfl
  | m + 1, h => by
    unfold cnt
    rw [cnt_congr (fun j hj => h j (by omega)), h m (by omega)]

theorem cnt_le {s t : Nat → Bool} : ∀ {m}, (∀ j, j < m → s j = true → t j = true) → cnt s m ≤ cnt t m
  | 0, _ => Nat.le_refl _
  | m + 1, h => by
    unfold cnt
    have h1 := cnt_le (m := m) (s := s) (t := t) (fun j hj => h j (by omega))
    have h2 := h m (by omega)
    cases e : s m <;> cases e' : t m <;> simp [e, e'] at h2 ⊢ <;> omega

theorem cnt_lt {s t : Nat → Bool} : ∀ {m}, (∀ j, j < m → s j = true → t j = true) → (∃ j, j < m ∧ t j = true ∧ s j = false) → cnt s m < cnt t m
  | 0, _, h => by obtain ⟨j, hj, _⟩ := h; omega
  | m + 1, h, h' => by
    obtain ⟨j, hj, h3, h4⟩ := h'
    unfold cnt
    by_cases hm : j = m
    · subst hm
      have h1 := cnt_le (m := j) (s := s) (t := t) (fun i hi => h i (by omega))
      rw [h3, h4]
      simp
      omega
    · have h1 := cnt_lt (m := m) (s := s) (t := t) (fun i hi => h i (by omega)) ⟨j, by omega, h3, h4⟩
      have h2 := h m (by omega)
      cases e : s m <;> cases e' : t m <;> simp [e, e'] at h2 ⊢ <;> omega

def boolAt (w : World) (g j : Nat) : Bool := match w.cell? ⟨g, j, none⟩ with
  | some (.bool b) => b
  | _ => false

def cntW (w : World) (g m : Nat) : Nat := cnt (boolAt w g) m

def bfill (st : Nat → Bool) (j : Nat) : Value := .bool (st j)

theorem cntW_row {w : World} {g t m : Nat} {st : Nat → Bool} (h : w.rowIs g t m (bfill st)) : cntW w g m = cnt st m :=
  cnt_congr fun j hj => by
    unfold boolAt
    rw [h.cell hj]
    rfl

theorem next_le {us vs : List Wr} {st : Nat → Bool} {j : Nat} (h : nextS us vs st j = true) : st j = true := by
  unfold nextS at h
  rw [Bool.and_eq_true] at h
  exact h.1

/-- What the second loop knows of the first k: whether all stay. -/
def Sames (us vs : List Wr) (st : Nat → Bool) (sb : Bool) (k : Nat) : Prop :=
  (sb = true → ∀ j, j < k → nextS us vs st j = st j) ∧ (sb = false → ∃ j, j < k ∧ st j = true ∧ nextS us vs st j = false)

theorem sames_start (us vs : List Wr) (st : Nat → Bool) : Sames us vs st true 0 := ⟨fun _ j hj => by omega, fun h => by simp at h⟩

theorem sames_stay {us vs : List Wr} {st : Nat → Bool} {sb : Bool} {k : Nat} (h : Sames us vs st sb k) (hk : nextS us vs st k = st k) : Sames us vs st sb (k + 1) :=
  ⟨fun hs j hj => by
    by_cases h' : j < k
    · exact h.1 hs j h'
    · have : j = k := by omega
      rw [this, hk], fun hs => by
    obtain ⟨j, hj, h1⟩ := h.2 hs
    exact ⟨j, by omega, h1⟩⟩

theorem sames_go {us vs : List Wr} {st : Nat → Bool} {k : Nat} (h1 : st k = true) (h2 : nextS us vs st k = false) : Sames us vs st false (k + 1) :=
  ⟨fun hs => by simp at hs, fun _ => ⟨k, by omega, h1, h2⟩⟩

theorem mid_stay {us vs : List Wr} {st : Nat → Bool} {k : Nat} (hk : nextS us vs st k = st k) (j : Nat) : midS us vs st (k + 1) j = midS us vs st k j := by
  unfold midS
  by_cases h : j < k
  · rw [if_pos h, if_pos (by omega)]
  · rw [if_neg h]
    by_cases h' : j = k
    · rw [if_pos (by omega), h', hk]
    · rw [if_neg (by omega)]

theorem mid_go {us vs : List Wr} {st : Nat → Bool} {k : Nat} (hk : nextS us vs st k = false) (j : Nat) : (if j = k then Value.bool false else bfill (midS us vs st k) j) = bfill (midS us vs st (k + 1)) j := by
  unfold bfill midS
  by_cases h' : j = k
  · rw [if_pos h', if_pos (by omega), h', hk]
  · rw [if_neg h']
    by_cases h : j < k
    · rw [if_pos h, if_pos (by omega)]
    · rw [if_neg h, if_neg (by omega)]

theorem mid_end {us vs : List Wr} {st : Nat → Bool} {m : Nat} {j : Nat} (hj : j < m) : bfill (midS us vs st m) j = bfill (nextS us vs st) j := by
  unfold bfill midS
  rw [if_pos hj]

theorem bstart_go (k j : Nat) : (if j = k then Value.bool true else bfill (fun j => decide (j < k)) j) = bfill (fun j => decide (j < k + 1)) j := by
  unfold bfill
  by_cases h' : j = k
  · rw [if_pos h', h']
    simp
  · rw [if_neg h']
    congr 1
    simp only [decide_eq_decide]
    omega

theorem infoBool : (Try.prog.info? 4).map (fun i => (i.zero, i.size, i.bytes)) = some (some (.bool false), 1, 1) := by kernel_rfl

theorem run_make_bools (n : Nat) (hn : n ≤ 1048576) (w : World) :
    (Instr.makeSlice 77 (.int .i64 (n : Int)) (.int .i64 (n : Int))).run Try.prog w = .ok (.slice (some ⟨w.heap.size, 0, none⟩) n n) (w.alloc (.cells (madeCells #[.bool false] n) 4)) := by
  obtain ⟨i, hi, hzz⟩ := Option.map_eq_some_iff.1 infoBool
  simp only [Prod.mk.injEq] at hzz
  obtain ⟨hz, hs, hb⟩ := hzz
  have hr := run_make (P := Try.prog) w 77 4 i _ Try.underlying77 hi hz .i64 .i64 n n (by omega) (Int.le_refl _) (by rw [hb]; omega) (by omega)
  simp only [Int.toNat_natCast, hs, Nat.mul_one] at hr
  exact hr

theorem brow_start (w : World) (t n : Nat) : (w.alloc (.cells (madeCells #[.bool false] n) t)).rowIs w.heap.size t n (bfill fun j => decide (j < 0)) := by
  refine ⟨_, Go.Deep.blk_alloc_new _ _, size_madeCells _ _, fun i hi => ?_⟩
  simp [madeCells, hi, bfill, Nat.mod_one]

set_option maxRecDepth 100000 in
set_option maxHeartbeats 8000000 in
theorem l03Stay_any (a b : Option Addr) (n m cap cap' : Nat) (us vs : List Wr) (w : World) (hn : us.length = n) (hm : vs.length = m) (hs : n + m ≤ 1048576) (hx : Few us) (hy : Few vs) (hi : IsWs w a us) (hj : IsWs w b vs) :
    Calls Try.prog 59 #[.slice a n cap, .slice b m cap'] w fun e w' => e = .returned (.slice (some ⟨w.heap.size, 0, none⟩) m m) ∧ ∃ r, w'.rowIs w.heap.size 4 m (bfill (stayAt us vs r)) ∧ (∀ j, j < m → nextS us vs (stayAt us vs r) j = stayAt us vs r j) ∧ Below w.heap.size w w' := by
  have HI : Hid (IsWs w a us) := hi
  have HJ : Hid (IsWs w b vs) := hj
  have HN : Hid (us.length = n) := hn
  have HM : Hid (vs.length = m) := hm
  have HX : Hid (Few us) := hx
  have HY : Hid (Few vs) := hy
  clear hi hj hn hm hx hy
  have hmk := run_make_bools m (by omega)
  go_enter Try.func59, Try.ntmps59
  go_wp2
  clear hmk
  go_loopw [6] (fun i wr => ∃ k : Nat, k ≤ m ∧ i = .int .i64 k ∧ Hid (wr.rowIs w.heap.size 4 m (bfill fun j => decide (j < k))) ∧ Hid (Below w.heap.size w wr)) (fun i _ => m - (intOf i).toNat)
  case atStart => exact ⟨0, Nat.zero_le _, rfl, brow_start _ _ _, (Below.refl _ _).alloc (Nat.le_refl _) _⟩
  case round =>
    obtain ⟨k, hk, rfl, HR, HB⟩ := hrel
    by_cases hk' : k < m
    · have i1 : (0 : Int) ≤ (k : Int) := by omega
      have i2 : (k : Int) < (m : Int) := by omega
      have c0 := HR.out.cell (i := k) (by omega)
      have fz := HR.out.frozen
      unfold bfill at c0
      have HR2 : Hid ((wr.setCell ⟨w.heap.size, k, none⟩ (.bool true)).rowIs w.heap.size 4 m (bfill fun j => decide (j < k + 1))) := (HR.out.set k (.bool true)).congr fun j _ => bstart_go k j
      have HB2 : Hid (Below w.heap.size w (wr.setCell ⟨w.heap.size, k, none⟩ (.bool true))) := HB.out.setCell (p := ⟨w.heap.size, k, none⟩) (Nat.le_refl _) _
      go_wp2
      exact ⟨⟨k + 1, by omega, by go_num, HR2, HB2⟩, by simp [intOf]; omega⟩
    · have hkk : k = m := by omega
      subst hkk
      have HR1 : Hid (wr.rowIs w.heap.size 4 k (bfill (stayAt us vs 0))) := HR.out.congr fun j hj => by
        unfold bfill stayAt
        simp [hj]
      clear HR
      go_wp2
      go_loopw [9] (fun _ wr => ∃ r : Nat, Hid (wr.rowIs w.heap.size 4 k (bfill (stayAt us vs r))) ∧ Hid (Below w.heap.size w wr)) (fun _ wr => cntW wr w.heap.size k)
      case atStart => exact ⟨0, HR1, HB⟩
      case round =>
        clear HR1 HB
        obtain ⟨r, HR, HB⟩ := hrel
        obtain ⟨wo, rfl⟩ : ∃ wo : World, wo = wr := ⟨_, rfl⟩
        have HME : Hid (cntW wo w.heap.size k = cnt (stayAt us vs r) k) := cntW_row HR.out
        generalize hst : stayAt us vs r = st at *
        have HST := Lib.hid hst
        clear hst
        have hwo : w.heap.size < wo.heap.size := HR.out.lt
        go_wp2_with fail
        refine (copies_gen a n cap us _ HN.out (by omega) HX.out (HI.out.below HB.out)).mono ?_
        rintro e w1 ⟨g0, cp0, es0, rfl, he0, hr0, hb0⟩
        have HE0 := Lib.hid he0
        have HR0 := Lib.hid (hr0.mono (base' := w.heap.size + 1) hwo)
        have HB0 := Lib.hid (below_step HB.out HB.out.size hb0)
        have HS0 : Hid (w1.rowIs w.heap.size 4 k (bfill st)) := HR.out.of_block (hb0.block _ HR.out.lt)
        clear he0 hr0 hb0 HR HB
        go_wp2
        go_loopw [7, 8] (fun t i wr => ∃ (q L g cp : Nat) (es : List En), q ≤ k ∧ L ≤ n + q ∧ i = .int .i64 q ∧ t = .slice (some ⟨g, 0, none⟩) L cp ∧ Hid (es.length = L) ∧ Hid (es.map (·.x) = allTo us vs st q) ∧ Hid (RowEs wr (w.heap.size + 1) g cp es) ∧ Hid (wr.rowIs w.heap.size 4 k (bfill st)) ∧ Hid (Below w.heap.size w wr)) (fun _ i _ => k - (intOf i).toNat)
        case atStart => exact ⟨0, n, g0, cp0, es0, Nat.zero_le _, Nat.le_refl _, rfl, rfl, by have := congrArg List.length HE0.out; simp at this; exact this.trans HN.out, HE0, HR0, HS0, HB0⟩
        case round =>
          clear HE0 HR0 HB0 HS0
          obtain ⟨q, L, g, cp, es, hq, hL, rfl, rfl, HL, HE, HR, HS, HB⟩ := hrel
          by_cases hq' : q < k
          · have i1 : (0 : Int) ≤ (q : Int) := by omega
            have i2 : (q : Int) < (k : Int) := by omega
            have c0 := HS.out.cell (i := q) (by omega)
            unfold bfill at c0
            cases hb : st q
            · rw [hb] at c0
              have HE2 : Hid (es.map (·.x) = allTo us vs st (q + 1)) := HE.out.trans (allTo_no hb).symm
              clear hb HE
              go_wp2
              exact ⟨⟨q + 1, L, g, cp, es, by omega, by omega, by go_num, rfl, HL, HE2, HR, HS, HB⟩, by simp [intOf]; omega⟩
            · rw [hb] at c0
              obtain ⟨bb, oo, ad, cq, rfl, hz, ⟨e0, e1, e2, e3, e4, e5, e6⟩, hd⟩ := HJ.out.at HB.out HM.out hq'
              have hqb : q < vs.length := by rw [HM.out]; exact hq'
              have hxl := HY.out q hqb
              have HD := Lib.hid hd
              have HW : Hid (HoldsWs wr g (allTo us vs st q) (gamma es)) := HR.out.holds HE.out
              have HF : Hid (Few (allTo us vs st q)) := allTo_few st HX.out HY.out q (by omega)
              have HLL : Hid ((allTo us vs st q).length = L) := by
                rw [← HE.out, List.length_map]
                exact HL
              have HT : Hid (allTo us vs st (q + 1) = putW (allTo us vs st q) (vs.getD q wz)) := allTo_yes hb
              clear hd HJ hb
              generalize vs.getD q wz = x at *
              obtain ⟨xk, xc, xs', xq, xv, xd, xx⟩ := x
              simp only at e0 e1 e2 e3 e4 e5 e6 hxl HD
              generalize allTo us vs st q = ms at *
              go_wp2_with fail
              refine (put_gen _ L cp ms ⟨xk, xc, xs', xq, xv, xd, xx⟩ ad cq _ HLL.out (by omega) HF.out (HW.out.isWs HF.out) hxl HD.out).mono ?_
              rintro e w2 ⟨g2, cp2, es2, L2, rfl, hl2, he2, hr2, hb2⟩
              have hL2 : L2 ≤ L + 1 := by
                have h1 := put_len ms ⟨xk, xc, xs', xq, xv, xd, xx⟩
                rw [← he2, HLL.out, List.length_map, hl2] at h1
                exact h1
              have HL2 := Lib.hid hl2
              have HE2 : Hid (es2.map (·.x) = allTo us vs st (q + 1)) := he2.trans HT.out.symm
              have HR2 := Lib.hid (hr2.mono (base' := w.heap.size + 1) (Nat.succ_le_succ HB.out.size))
              have HB2 := Lib.hid (below_step HB.out HB.out.size hb2)
              have HS2 : Hid (w2.rowIs w.heap.size 4 k (bfill st)) := HS.out.of_block (hb2.block _ HS.out.lt)
              clear hl2 he2 hr2 hb2
              go_wp2
              exact ⟨⟨q + 1, L2, g2, cp2, es2, by omega, by omega, by go_num, rfl, HL2, HE2, HR2, HS2, HB2⟩, by simp [intOf]; omega⟩
          · have hqq : q = k := by omega
            subst hqq
            have HEA : Hid (es.map (·.x) = allOf us vs st) := by
              unfold allOf
              rw [HM.out]
              exact HE
            have HF : Hid (Few (allOf us vs st)) := allTo_few st HX.out HY.out _ (Nat.le_refl _)
            have HLL : Hid ((allOf us vs st).length = L) := by
              rw [← HEA.out, List.length_map]
              exact HL
            have HS1 : Hid (wr.rowIs w.heap.size 4 q (bfill (midS us vs st 0))) := HS.out.congr fun j _ => by
              unfold bfill midS
              rw [if_neg (by omega)]
            clear HE HS
            go_wp2
            go_loopw [9, 10] (fun sm i wr => ∃ (p : Nat) (sb : Bool), p ≤ q ∧ i = .int .i64 p ∧ sm = .bool sb ∧ Hid (Sames us vs st sb p) ∧ Hid (RowEs wr (w.heap.size + 1) g cp es) ∧ Hid (wr.rowIs w.heap.size 4 q (bfill (midS us vs st p))) ∧ Hid (Below w.heap.size w wr)) (fun _ i _ => q - (intOf i).toNat)
            case atStart => exact ⟨0, true, Nat.zero_le _, rfl, rfl, sames_start us vs st, HR, HS1, HB⟩
            case round =>
              clear HR HS1 HB
              obtain ⟨p, sb, hp, rfl, rfl, HSA, HR, HS, HB⟩ := hrel
              by_cases hp' : p < q
              · have i1 : (0 : Int) ≤ (p : Int) := by omega
                have i2 : (p : Int) < (q : Int) := by omega
                have c0 := HS.out.cell (i := p) (by omega)
                have fz := HS.out.frozen
                have c1 : bfill (midS us vs st p) p = .bool (st p) := by unfold bfill midS; rw [if_neg (by omega)]
                rw [c1] at c0
                clear c1
                obtain ⟨bb, oo, ad, cq, rfl, hz, ⟨e0, e1, e2, e3, e4, e5, e6⟩, hd⟩ := HJ.out.at HB.out HM.out hp'
                have hqb : p < vs.length := by rw [HM.out]; exact hp'
                cases hb : st p
                · have hnx : nextS us vs st p = st p := by unfold nextS; rw [hb, Bool.false_and]
                  have HSA2 := Lib.hid (sames_stay HSA.out hnx)
                  have HS2 : Hid (wr.rowIs w.heap.size 4 q (bfill (midS us vs st (p + 1)))) := HS.out.congr fun j _ => by unfold bfill; rw [mid_stay hnx]
                  rw [hb] at c0
                  clear hnx hb hd HS HSA HJ
                  go_wp2
                  exact ⟨⟨p + 1, sb, by omega, by go_num, rfl, HSA2, HR, HS2, HB⟩, by simp [intOf]; omega⟩
                · have HW : Hid (HoldsWs wr g (allOf us vs st) (gamma es)) := HR.out.holds HEA.out
                  have HC : Hid (Calls Try.prog 19 #[.slice (some ⟨g, 0, none⟩) L cp, .slice ad (vs.getD p wz).xs.length cq] wr fun e w' => e = .returned (.bool (covB (allOf us vs st) (vs.getD p wz).xs)) ∧ Below wr.heap.size wr w') :=
                    specCovered_any _ ad L _ cp cq (allOf us vs st) (vs.getD p wz).xs wr HLL.out (by omega) HF.out rfl (HY.out p hqb) (HW.out.isWs HF.out) hd
                  rw [hb] at c0
                  have hnx : nextS us vs st p = covB (allOf us vs st) (vs.getD p wz).xs := by unfold nextS; rw [hb, Bool.true_and]
                  cases hcv : covB (allOf us vs st) (vs.getD p wz).xs
                  · rw [hcv] at hnx HC
                    have HSA2 := Lib.hid (sames_go hb hnx)
                    have HGO := Lib.hid (mid_go (us := us) (vs := vs) hnx)
                    clear hnx hb hd hcv HSA HJ HW
                    generalize vs.getD p wz = x at *
                    obtain ⟨xk, xc, xs', xq, xv, xd, xx⟩ := x
                    simp only at e0 e1 e2 e3 e4 e5 e6 HC
                    go_wp2_with fail
                    refine HC.out.mono ?_
                    rintro e w2 ⟨rfl, hb2⟩
                    have HB2 := Lib.hid (below_step HB.out HB.out.size hb2)
                    have HS2 : Hid (w2.rowIs w.heap.size 4 q (bfill (midS us vs st p))) := HS.out.of_block (hb2.block _ HS.out.lt)
                    have HR2 := Lib.hid (HR.out.below hb2)
                    have d0 : w2.cell? ⟨w.heap.size, p, none⟩ = some (.bool true) := (World.cell?_of_block (a := ⟨w.heap.size, p, none⟩) (hb2.block _ HS.out.lt)).trans c0
                    have fz2 := HS2.out.frozen
                    clear hb2 c0 fz HC HB HS HR
                    have HS3 : Hid ((w2.setCell ⟨w.heap.size, p, none⟩ (.bool false)).rowIs w.heap.size 4 q (bfill (midS us vs st (p + 1)))) := (HS2.out.set p (.bool false)).congr fun j _ => HGO.out j
                    have HB3 : Hid (Below w.heap.size w (w2.setCell ⟨w.heap.size, p, none⟩ (.bool false))) := HB2.out.setCell (p := ⟨w.heap.size, p, none⟩) (Nat.le_refl _) _
                    have HR3 := Lib.hid (HR2.out.setBelow (Nat.lt_succ_self _) p (.bool false))
                    go_wp2
                    exact ⟨⟨p + 1, false, by omega, by go_num, rfl, HSA2, HR3, HS3, HB3⟩, by simp [intOf]; omega⟩
                  · rw [hcv] at hnx HC
                    have hnx2 : nextS us vs st p = st p := hnx.trans hb.symm
                    have HSA2 := Lib.hid (sames_stay HSA.out hnx2)
                    have HGO := Lib.hid (mid_stay hnx2)
                    clear hnx hnx2 hb hd hcv HSA HJ HW
                    generalize vs.getD p wz = x at *
                    obtain ⟨xk, xc, xs', xq, xv, xd, xx⟩ := x
                    simp only at e0 e1 e2 e3 e4 e5 e6 HC
                    go_wp2_with fail
                    refine HC.out.mono ?_
                    rintro e w2 ⟨rfl, hb2⟩
                    have HB2 := Lib.hid (below_step HB.out HB.out.size hb2)
                    have HS2 : Hid (w2.rowIs w.heap.size 4 q (bfill (midS us vs st (p + 1)))) := (HS.out.of_block (hb2.block _ HS.out.lt)).congr fun j _ => by unfold bfill; rw [HGO.out]
                    have HR2 := Lib.hid (HR.out.below hb2)
                    clear hb2 c0 fz HC HB HS HR
                    go_wp2
                    exact ⟨⟨p + 1, sb, by omega, by go_num, rfl, HSA2, HR2, HS2, HB2⟩, by simp [intOf]; omega⟩
              · have hpp : p = q := by omega
                subst hpp
                have HS2 : Hid (wr.rowIs w.heap.size 4 p (bfill (nextS us vs st))) := HS.out.congr fun j hj => mid_end hj
                cases sb
                · have HS3 : Hid (wr.rowIs w.heap.size 4 p (bfill (stayAt us vs (r + 1)))) := by
                    show Hid (wr.rowIs _ _ _ (bfill (nextS us vs (stayAt us vs r))))
                    rw [HST.out]
                    exact HS2
                  have hlt : cntW wr w.heap.size p < cntW wo w.heap.size p := by
                    rw [HME.out, cntW_row HS2.out]
                    exact cnt_lt (fun j _ h => next_le h) (HSA.out.2 rfl)
                  clear HS HS2 HSA
                  go_wp2
                  exact ⟨⟨r + 1, HS3, HB⟩, hlt⟩
                · have HS3 : Hid (wr.rowIs w.heap.size 4 p (bfill (stayAt us vs r)) ∧ ∀ j, j < p → nextS us vs (stayAt us vs r) j = stayAt us vs r j) := by
                    rw [HST.out]
                    exact ⟨HS2.out.congr fun j hj => by unfold bfill; rw [HSA.out.1 rfl j hj], HSA.out.1 rfl⟩
                  clear HS HS2 HSA
                  go_wp2
                  go_ret
                  exact ⟨rfl, r, HS3.out.1, HS3.out.2, HB.out⟩

end Go.Proofs.Ytidpcjcnhklmpaj

/- The orders of tags and writes: turned round they are turned round, and they go on. No Go in sight. -/
namespace Go.Proofs.Ytidpcjcnhklmpaj

def lexI (a b : Int) : Int := if a ≠ 0 then a else b

/-- What three answers of one order have to do with one another: of a with b, of b with c, of a with c. -/
structure T3 (x y z : Int) : Prop where
  l : x = 0 → z = y
  r : y = 0 → z = x
  n : x < 0 → y < 0 → z < 0

theorem T3.lex {x y z x' y' z' : Int} (h : T3 x y z) (h' : T3 x' y' z') : T3 (lexI x x') (lexI y y') (lexI z z') := by
  obtain ⟨l, r, n⟩ := h
  obtain ⟨l', r', n'⟩ := h'
  unfold lexI
  by_cases hx : x = 0
  · have hz := l hx
    by_cases hy : y = 0
    · have hz0 : z = 0 := by omega
      simp only [hx, hy, hz0, ne_eq, not_true_eq_false, if_false]
      exact ⟨l', r', n'⟩
    · have hz0 : z ≠ 0 := by omega
      simp only [hx, hy, hz0, ne_eq, not_true_eq_false, not_false_eq_true, if_false, if_true]
      exact ⟨fun _ => hz, fun e => absurd e hy, fun h1 h2 => by omega⟩
  · by_cases hy : y = 0
    · have hz := r hy
      have hz0 : z ≠ 0 := by omega
      simp only [hx, hy, hz0, ne_eq, not_true_eq_false, not_false_eq_true, if_false, if_true]
      exact ⟨fun e => absurd e hx, fun _ => hz, fun h1 h2 => by omega⟩
    · simp only [hx, hy, ne_eq, not_false_eq_true, if_true]
      refine ⟨fun e => absurd e hx, fun e => absurd e hy, fun h1 h2 => ?_⟩
      have := n h1 h2
      rw [if_pos (by omega)]
      exact this

theorem T3.on {x y z : Int} (h : T3 x y z) (hx : x ≤ 0) (hy : y ≤ 0) : z < 0 ∨ (z = 0 ∧ x = 0 ∧ y = 0) := by
  obtain ⟨l, r, n⟩ := h
  by_cases h0 : x = 0
  · have := l h0
    omega
  · by_cases h1 : y = 0
    · have := r h1
      omega
    · have := n (by omega) (by omega)
      omega

theorem lexI_neg (a b : Int) : lexI (-a) (-b) = -lexI a b := by
  unfold lexI
  by_cases h : a = 0
  · simp [h]
  · have h' : -a ≠ 0 := by omega
    simp [h]

theorem sgn_three (a b c : Int) : T3 (sgn a b) (sgn b c) (sgn a c) := by
  refine ⟨fun h => ?_, fun h => ?_, fun h1 h2 => ?_⟩
  · rw [sgn_zero.1 h]
  · rw [sgn_zero.1 h]
  · unfold sgn at *
    by_cases e1 : a < b
    · by_cases e2 : b < c
      · rw [if_pos (by omega)]
        omega
      · rw [if_neg e2] at h2
        split at h2 <;> omega
    · rw [if_neg e1] at h1
      split at h1 <;> omega

theorem tcmp_lex (c s q c' s' q' : Int) : tcmp c s q c' s' q' = lexI (sgn c c') (lexI (sgn s s') (sgn q q')) := by
  unfold tcmp lexI
  simp only [ne_eq, sgn_zero]

theorem tcmp_three (a1 a2 a3 b1 b2 b3 c1 c2 c3 : Int) : T3 (tcmp a1 a2 a3 b1 b2 b3) (tcmp b1 b2 b3 c1 c2 c3) (tcmp a1 a2 a3 c1 c2 c3) := by
  rw [tcmp_lex, tcmp_lex, tcmp_lex]
  exact (sgn_three _ _ _).lex ((sgn_three _ _ _).lex (sgn_three _ _ _))

theorem tcmp_neg (a1 a2 a3 b1 b2 b3 : Int) : tcmp b1 b2 b3 a1 a2 a3 = -tcmp a1 a2 a3 b1 b2 b3 := by
  rw [tcmp_lex, tcmp_lex, ← lexI_neg, ← lexI_neg, sgn_neg a1 b1, sgn_neg a2 b2, sgn_neg a3 b3]

theorem dcmp_lex (d e : Dp) : dcmp d e = lexI (sgn d.k e.k) (tcmp d.c d.s d.q e.c e.s e.q) := by
  unfold dcmp lexI
  simp only [ne_eq, sgn_zero]

theorem dcmp_three (d e f : Dp) : T3 (dcmp d e) (dcmp e f) (dcmp d f) := by
  rw [dcmp_lex, dcmp_lex, dcmp_lex]
  exact (sgn_three _ _ _).lex (tcmp_three _ _ _ _ _ _ _ _ _)

theorem dcmp_neg (d e : Dp) : dcmp e d = -dcmp d e := by
  rw [dcmp_lex, dcmp_lex, ← lexI_neg, sgn_neg d.k e.k, tcmp_neg d.c d.s d.q e.c e.s e.q]

theorem depsCmp_cons (d e : Dp) (r t : List Dp) : depsCmp (d :: r) (e :: t) = lexI (dcmp d e) (depsCmp r t) := rfl

theorem depsCmp_neg : ∀ xs ys : List Dp, depsCmp ys xs = -depsCmp xs ys
  | [], [] => rfl
  | [], _ :: _ => rfl
  | _ :: _, [] => rfl
  | d :: r, e :: t => by rw [depsCmp_cons, depsCmp_cons, dcmp_neg d e, depsCmp_neg r t, lexI_neg]

theorem depsCmp_three : ∀ xs ys zs : List Dp, T3 (depsCmp xs ys) (depsCmp ys zs) (depsCmp xs zs)
  | [], [], [] => ⟨fun _ => rfl, fun _ => rfl, fun h _ => absurd h (by simp [depsCmp])⟩
  | [], [], _ :: _ => ⟨fun _ => rfl, fun h => absurd h (by simp [depsCmp]), fun h _ => absurd h (by simp [depsCmp])⟩
  | [], _ :: _, [] => ⟨fun h => absurd h (by simp [depsCmp]), fun h => absurd h (by simp [depsCmp]), fun _ h => absurd h (by simp [depsCmp])⟩
  | [], _ :: _, _ :: _ => ⟨fun h => absurd h (by simp [depsCmp]), fun _ => rfl, fun _ _ => by simp [depsCmp]⟩
  | _ :: _, [], [] => ⟨fun h => absurd h (by simp [depsCmp]), fun _ => rfl, fun h _ => absurd h (by simp [depsCmp])⟩
  | _ :: _, [], _ :: _ => ⟨fun h => absurd h (by simp [depsCmp]), fun h => absurd h (by simp [depsCmp]), fun h _ => absurd h (by simp [depsCmp])⟩
  | _ :: _, _ :: _, [] => ⟨fun _ => rfl, fun h => absurd h (by simp [depsCmp]), fun _ h => absurd h (by simp [depsCmp])⟩
  | d :: r, e :: t, f :: u => by
    rw [depsCmp_cons, depsCmp_cons, depsCmp_cons]
    exact (dcmp_three d e f).lex (depsCmp_three r t u)

theorem wcmp_lex (k c s q v : Int) (de : Bool) (xs : List Dp) (k' c' s' q' v' : Int) (de' : Bool) (ys : List Dp) :
    wcmp k c s q v de xs k' c' s' q' v' de' ys = lexI (tcmp c s q c' s' q') (lexI (sgn k k') (lexI (sgn v v') (lexI (sgn (bit de) (bit de')) (depsCmp xs ys)))) := by
  unfold wcmp lexI
  simp only [ne_eq, sgn_zero (a := k), sgn_zero (a := v), bit_sgn]

theorem wcmp_three (k c s q v : Int) (de : Bool) (xs : List Dp) (k' c' s' q' v' : Int) (de' : Bool) (ys : List Dp) (k2 c2 s2 q2 v2 : Int) (de2 : Bool) (zs : List Dp) :
    T3 (wcmp k c s q v de xs k' c' s' q' v' de' ys) (wcmp k' c' s' q' v' de' ys k2 c2 s2 q2 v2 de2 zs) (wcmp k c s q v de xs k2 c2 s2 q2 v2 de2 zs) := by
  rw [wcmp_lex, wcmp_lex, wcmp_lex]
  exact (tcmp_three _ _ _ _ _ _ _ _ _).lex ((sgn_three _ _ _).lex ((sgn_three _ _ _).lex ((sgn_three _ _ _).lex (depsCmp_three _ _ _))))

theorem wcmp_neg (k c s q v : Int) (de : Bool) (xs : List Dp) (k' c' s' q' v' : Int) (de' : Bool) (ys : List Dp) :
    wcmp k' c' s' q' v' de' ys k c s q v de xs = -wcmp k c s q v de xs k' c' s' q' v' de' ys := by
  rw [wcmp_lex, wcmp_lex, ← lexI_neg, ← lexI_neg, ← lexI_neg, ← lexI_neg, tcmp_neg c s q, sgn_neg k k', sgn_neg v v', sgn_neg (bit de) (bit de'), depsCmp_neg xs ys]

theorem depsCmp_bd : ∀ xs ys : List Dp, -1 ≤ depsCmp xs ys ∧ depsCmp xs ys ≤ 1
  | [], [] => by simp [depsCmp]
  | [], _ :: _ => by simp [depsCmp]
  | _ :: _, [] => by simp [depsCmp]
  | d :: r, e :: t => by
    have h := depsCmp_bd r t
    have h1 := sgn_bd d.k e.k
    have h2 := tcmp_bd d.c d.s d.q e.c e.s e.q
    rw [depsCmp_cons, dcmp_lex]
    unfold lexI
    by_cases g1 : sgn d.k e.k = 0
    · by_cases g2 : tcmp d.c d.s d.q e.c e.s e.q = 0
      · simpa [g1, g2] using h
      · simpa [g1, g2] using h2
    · simpa [g1] using h1

theorem wcmp_bd (k c s q v : Int) (de : Bool) (xs : List Dp) (k' c' s' q' v' : Int) (de' : Bool) (ys : List Dp) : -1 ≤ wcmp k c s q v de xs k' c' s' q' v' de' ys ∧ wcmp k c s q v de xs k' c' s' q' v' de' ys ≤ 1 := by
  have h1 := tcmp_bd c s q c' s' q'
  have h2 := sgn_bd k k'
  have h3 := sgn_bd v v'
  have h4 := sgn_bd (bit de) (bit de')
  have h5 := depsCmp_bd xs ys
  unfold wcmp
  split
  · exact h1
  · split
    · exact h2
    · split
      · exact h3
      · split
        · exact h4
        · exact h5

end Go.Proofs.Ytidpcjcnhklmpaj

/- Maps as lists of writes whose keys rise: what is put, what is joined, what registers tell. No Go in sight. -/
namespace Go.Proofs.Ytidpcjcnhklmpaj

/-- The keys rise. -/
def Rise (ws : List Wr) : Prop := ws.Pairwise fun x y => x.k < y.k

theorem rise_of_next : ∀ {ws : List Wr}, (∀ i, i + 1 < ws.length → (ws.getD i wz).k < (ws.getD (i + 1) wz).k) → Rise ws
  | [], _ => List.Pairwise.nil
  | [x], _ => by simp [Rise]
  | x :: y :: r, h => by
    have ih : Rise (y :: r) := rise_of_next fun i hi => h (i + 1) (by simpa using hi)
    have h0 : x.k < y.k := h 0 (by simp)
    refine List.Pairwise.cons (fun z hz => ?_) ih
    rcases List.mem_cons.1 hz with e | hz
    · rw [e]; exact h0
    · have h1 : y.k < z.k := (List.pairwise_cons.1 ih).1 z hz
      omega

theorem rise_next : ∀ {ws : List Wr}, Rise ws → ∀ i, i + 1 < ws.length → (ws.getD i wz).k < (ws.getD (i + 1) wz).k
  | [], _, i, h => by simp at h
  | x :: r, hr, i, h => by
    have hp := List.pairwise_cons.1 hr
    cases i with
    | zero =>
      cases r with
      | nil => simp at h
      | cons y r => exact hp.1 y (by simp)
    | succ i => exact rise_next (ws := r) hp.2 i (by simpa using h)

theorem mapOk_iff (ws : List Wr) : mapOkB ws = true ↔ (∀ x ∈ ws, okW x = true) ∧ Rise ws := by
  unfold mapOkB
  rw [List.all_eq_true]
  constructor
  · intro h
    have h' : ∀ i, i < ws.length → okW (ws.getD i wz) = true ∧ (i = 0 ∨ (ws.getD (i - 1) wz).k < (ws.getD i wz).k) := fun i hi => by
      have := h i (List.mem_range.2 hi)
      unfold wrGood at this
      simpa only [Bool.and_eq_true, decide_eq_true_eq] using this
    refine ⟨fun x hx => ?_, rise_of_next fun i hi => ?_⟩
    · obtain ⟨i, hi, rfl⟩ := List.mem_iff_getElem.1 hx
      have := (h' i hi).1
      simpa [List.getD, hi] using this
    · rcases (h' (i + 1) hi).2 with h0 | h0
      · omega
      · simpa using h0
  · rintro ⟨h1, h2⟩ i hi
    have hi := List.mem_range.1 hi
    unfold wrGood
    simp only [Bool.and_eq_true, decide_eq_true_eq]
    refine ⟨h1 _ (by simp [List.getD, hi]), ?_⟩
    cases i with
    | zero => exact .inl rfl
    | succ i => exact .inr (by simpa using rise_next h2 i hi)

/-- A write put to a map, said by recursion. -/
def putR : List Wr → Wr → List Wr
  | [], x => [x]
  | y :: r, x => if y.k = x.k then (if cmpW y x < 0 then x else y) :: r else if x.k < y.k then x :: y :: r else y :: putR r x

theorem putStep_past (x : Wr) : ∀ (ws acc : List Wr), (∀ y ∈ ws, x.k < y.k) → ws.foldl (putStep x) (acc, true) = (acc ++ ws, true)
  | [], acc, _ => by simp
  | y :: r, acc, h => by
    have hy : x.k < y.k := h y (by simp)
    have e : putStep x (acc, true) y = (acc ++ [y], true) := by
      unfold putStep
      rw [if_neg (by omega), if_neg (by simp)]
    rw [List.foldl_cons, e, putStep_past x r _ fun z hz => h z (by simp [hz])]
    simp

theorem putStep_fold (x : Wr) : ∀ (ws acc : List Wr), Rise ws → (if (ws.foldl (putStep x) (acc, false)).2 then (ws.foldl (putStep x) (acc, false)).1 else (ws.foldl (putStep x) (acc, false)).1 ++ [x]) = acc ++ putR ws x
  | [], acc, _ => by simp [putR]
  | y :: r, acc, h => by
    have hp := List.pairwise_cons.1 h
    rw [List.foldl_cons]
    unfold putR
    by_cases h1 : y.k = x.k
    · have hr : ∀ z ∈ r, x.k < z.k := fun z hz => by have := hp.1 z hz; omega
      by_cases h2 : cmpW y x < 0
      · have e : putStep x (acc, false) y = (acc ++ [x], true) := by simp [putStep, h1, h2]
        rw [e, putStep_past x r _ hr]
        simp [h1, h2]
      · have e : putStep x (acc, false) y = (acc ++ [y], true) := by simp [putStep, h1, h2]
        rw [e, putStep_past x r _ hr]
        simp [h1, h2]
    · by_cases h2 : x.k < y.k
      · have hr : ∀ z ∈ r, x.k < z.k := fun z hz => by have := hp.1 z hz; omega
        have e : putStep x (acc, false) y = (acc ++ [x] ++ [y], true) := by simp [putStep, h1, h2]
        rw [e, putStep_past x r _ hr]
        simp [h1, h2]
      · have e : putStep x (acc, false) y = (acc ++ [y], false) := by simp [putStep, h1, h2]
        rw [e, putStep_fold x r _ hp.2]
        simp [h1, h2]

theorem putW_eq {ws : List Wr} (h : Rise ws) (x : Wr) : putW ws x = putR ws x := by
  have := putStep_fold x ws [] h
  rw [List.nil_append] at this
  exact this

/-- The later one of what is there and what comes. -/
def laterO (o : Option Wr) (x : Wr) : Wr := match o with | none => x | some y => if cmpW y x < 0 then x else y

theorem findW_cons (y : Wr) (r : List Wr) (key : Int) : findW (y :: r) key = if y.k = key then some y else findW r key := by
  unfold findW
  rw [List.find?_cons]
  by_cases h : y.k = key
  · simp [h]
  · rw [beq_eq_false_iff_ne.2 h, if_neg h]

theorem findW_past : ∀ {ws : List Wr} {key : Int}, (∀ y ∈ ws, key < y.k) → findW ws key = none
  | [], _, _ => rfl
  | y :: r, key, h => by
    rw [findW_cons, if_neg (by have := h y (by simp); omega), findW_past fun z hz => h z (by simp [hz])]

theorem later_key {o : Option Wr} {x : Wr} (h : ∀ y, o = some y → y.k = x.k) : (laterO o x).k = x.k := by
  unfold laterO
  split
  · rfl
  · split
    · rfl
    · exact h _ rfl

theorem findW_key {ws : List Wr} {key : Int} {x : Wr} (h : findW ws key = some x) : x.k = key := by
  have := List.find?_some h
  simpa using this

theorem findW_mem {ws : List Wr} {key : Int} {x : Wr} (h : findW ws key = some x) : x ∈ ws := List.mem_of_find?_eq_some h

theorem find_putR : ∀ (ws : List Wr) (x : Wr) (key : Int), Rise ws → findW (putR ws x) key = if key = x.k then some (laterO (findW ws x.k) x) else findW ws key
  | [], x, key, _ => by
    simp only [putR, findW_cons]
    by_cases h : x.k = key
    · rw [if_pos h, if_pos h.symm]
      rfl
    · rw [if_neg h, if_neg (fun e => h e.symm)]
  | y :: r, x, key, h => by
    have hp := List.pairwise_cons.1 h
    unfold putR
    by_cases h1 : y.k = x.k
    · rw [if_pos h1, findW_cons, findW_cons y r x.k, if_pos h1, findW_cons y r key]
      by_cases h2 : cmpW y x < 0
      · simp only [h2, if_true, laterO, h1, eq_comm]
        by_cases h3 : key = x.k <;> simp [h3]
      · simp only [h2, if_false, laterO, h1, eq_comm]
        by_cases h3 : key = x.k <;> simp [h3]
    · rw [if_neg h1]
      by_cases h2 : x.k < y.k
      · rw [if_pos h2, findW_cons]
        have hn : findW (y :: r) x.k = none := findW_past fun z hz => by
          rcases List.mem_cons.1 hz with e | hz
          · rw [e]; exact h2
          · have := hp.1 z hz; omega
        rw [hn]
        by_cases h3 : x.k = key
        · rw [if_pos h3, if_pos h3.symm]
          rfl
        · rw [if_neg h3, if_neg (fun e => h3 e.symm)]
      · rw [if_neg h2, findW_cons, find_putR r x key hp.2, findW_cons, if_neg h1, findW_cons]
        by_cases h3 : y.k = key
        · rw [if_pos h3, if_neg (by omega), if_pos h3]
        · rw [if_neg h3, if_neg h3]

theorem putR_mem : ∀ (ws : List Wr) (x z : Wr), z ∈ putR ws x → z = x ∨ z ∈ ws
  | [], x, z, h => by simpa [putR] using h
  | y :: r, x, z, h => by
    unfold putR at h
    by_cases h1 : y.k = x.k
    · rw [if_pos h1] at h
      by_cases h2 : cmpW y x < 0
      · rw [if_pos h2] at h
        rcases List.mem_cons.1 h with h | h
        · exact .inl h
        · exact .inr (by simp [h])
      · rw [if_neg h2] at h
        exact .inr h
    · rw [if_neg h1] at h
      by_cases h2 : x.k < y.k
      · rw [if_pos h2] at h
        rcases List.mem_cons.1 h with h | h
        · exact .inl h
        · exact .inr h
      · rw [if_neg h2] at h
        rcases List.mem_cons.1 h with h | h
        · exact .inr (by simp [h])
        · rcases putR_mem r x z h with h | h
          · exact .inl h
          · exact .inr (by simp [h])

theorem rise_putR : ∀ (ws : List Wr) (x : Wr), Rise ws → Rise (putR ws x)
  | [], x, _ => by simp [putR, Rise]
  | y :: r, x, h => by
    have hp := List.pairwise_cons.1 h
    unfold putR
    by_cases h1 : y.k = x.k
    · rw [if_pos h1]
      by_cases h2 : cmpW y x < 0
      · rw [if_pos h2]
        exact List.Pairwise.cons (fun z hz => by have := hp.1 z hz; omega) hp.2
      · rw [if_neg h2]
        exact h
    · rw [if_neg h1]
      by_cases h2 : x.k < y.k
      · rw [if_pos h2]
        refine List.Pairwise.cons (fun z hz => ?_) h
        rcases List.mem_cons.1 hz with e | hz
        · rw [e]; exact h2
        · have := hp.1 z hz; omega
      · rw [if_neg h2]
        refine List.Pairwise.cons (fun z hz => ?_) (rise_putR r x hp.2)
        rcases putR_mem r x z hz with e | hz
        · rw [e]; omega
        · exact hp.1 z hz

theorem rise_putW {ws : List Wr} (h : Rise ws) (x : Wr) : Rise (putW ws x) := by
  rw [putW_eq h]
  exact rise_putR ws x h

theorem putW_mem {ws : List Wr} (h : Rise ws) {x z : Wr} (hz : z ∈ putW ws x) : z = x ∨ z ∈ ws := by
  rw [putW_eq h] at hz
  exact putR_mem ws x z hz

theorem find_putW {ws : List Wr} (h : Rise ws) (x : Wr) (key : Int) : findW (putW ws x) key = if key = x.k then some (laterO (findW ws x.k) x) else findW ws key := by
  rw [putW_eq h]
  exact find_putR ws x key h

/-- What is told of six registers, in order. -/
def toldM (M : Int → Option Wr) : List Wr := [(0 : Int), 1, 2, 3, 4, 5].filterMap M

theorem filterMap_same {α β : Type} {f g : α → Option β} : ∀ {l : List α}, (∀ x ∈ l, f x = g x) → l.filterMap f = l.filterMap g
  | [], _ => rfl
  | x :: r, h => by rw [List.filterMap_cons, List.filterMap_cons, h x (by simp), filterMap_same fun y hy => h y (by simp [hy])]

theorem told_rise : ∀ (ks : List Int) (ws : List Wr), ks.Pairwise (· < ·) → Rise ws → (∀ x ∈ ws, x.k ∈ ks) → ks.filterMap (findW ws) = ws
  | [], [], _, _, _ => rfl
  | [], x :: r, _, _, h => by simpa using h x (by simp)
  | k :: ks, [], _, _, _ => by simp [findW, List.filterMap_eq_nil_iff]
  | k :: ks, x :: r, hk, hr, h => by
    have hpk := List.pairwise_cons.1 hk
    have hpr := List.pairwise_cons.1 hr
    by_cases e : x.k = k
    · rw [List.filterMap_cons, findW_cons, if_pos e]
      simp only
      have ih := told_rise ks r hpk.2 hpr.2 fun y hy => by
        have h1 := h y (by simp [hy])
        rcases List.mem_cons.1 h1 with h2 | h2
        · have := hpr.1 y hy; omega
        · exact h2
      congr 1
      refine (filterMap_same fun j hj => ?_).trans ih
      rw [findW_cons, if_neg (by have := hpk.1 j hj; omega)]
    · have hx : k < x.k := by
        have h1 := h x (by simp)
        rcases List.mem_cons.1 h1 with h2 | h2
        · exact absurd h2 e
        · exact hpk.1 _ h2
      have hn : findW (x :: r) k = none := findW_past fun z hz => by
        rcases List.mem_cons.1 hz with e | hz
        · rw [e]; exact hx
        · have := hpr.1 z hz; omega
      rw [List.filterMap_cons, hn]
      simp only
      refine told_rise ks (x :: r) hpk.2 hr fun y hy => ?_
      have h1 := h y hy
      rcases List.mem_cons.1 h1 with h2 | h2
      · rcases List.mem_cons.1 hy with e' | hy
        · rw [e'] at h2; exact absurd h2 e
        · have := hpr.1 y hy; omega
      · exact h2

theorem told_find {ws : List Wr} (hr : Rise ws) (hk : ∀ x ∈ ws, 0 ≤ x.k ∧ x.k ≤ 5) : toldM (findW ws) = ws := by
  refine told_rise _ ws (by decide) hr fun x hx => ?_
  have := hk x hx
  simp only [List.mem_cons, List.not_mem_nil, or_false]
  omega

/-- A write put to a register. -/
def regPut (M : Int → Option Wr) (x : Wr) : Int → Option Wr := fun key => if key = x.k then some (laterO (M x.k) x) else M key

def joinW (a b : List Wr) : List Wr := b.foldl putW a

theorem join_spec : ∀ (b a : List Wr), Rise a → Rise (joinW a b) ∧ (∀ z ∈ joinW a b, z ∈ a ∨ z ∈ b) ∧ ∀ key, findW (joinW a b) key = b.foldl regPut (findW a) key
  | [], a, h => ⟨h, fun _ hz => .inl hz, fun _ => rfl⟩
  | x :: b, a, h => by
    obtain ⟨h1, h2, h3⟩ := join_spec b (putW a x) (rise_putW h x)
    refine ⟨h1, fun z hz => ?_, fun key => ?_⟩
    · rcases h2 z hz with h4 | h4
      · rcases putW_mem h h4 with h5 | h5
        · exact .inr (by simp [h5])
        · exact .inl h5
      · exact .inr (by simp [h4])
    · have e : findW (putW a x) = regPut (findW a) x := funext fun key => find_putW h x key
      show findW (joinW (putW a x) b) key = _
      rw [h3 key, e]
      rfl

/-- A map's own writes, put one by one to empty registers, are the map. -/
theorem regs_self : ∀ (b a : List Wr), Rise (a ++ b) → b.foldl regPut (findW a) = findW (a ++ b)
  | [], a, _ => by simp
  | x :: b, a, h => by
    have h' : Rise (a ++ [x] ++ b) := by simpa using h
    have ha : ∀ y ∈ a, y.k < x.k := fun y hy => (List.pairwise_append.1 h).2.2 y hy x (by simp)
    have e : regPut (findW a) x = findW (a ++ [x]) := by
      funext key
      unfold regPut
      have hx : findW a x.k = none := by
        unfold findW
        rw [List.find?_eq_none]
        intro y hy
        have := ha y hy
        simp
        omega
      have hs : findW (a ++ [x]) key = (findW a key).or (findW [x] key) := by
        unfold findW
        rw [List.find?_append]
      rw [hs]
      by_cases hk : key = x.k
      · subst hk
        rw [if_pos rfl, hx, findW_cons, if_pos rfl]
        rfl
      · rw [if_neg hk, findW_cons, if_neg (fun e => hk e.symm)]
        cases findW a key <;> rfl
    show b.foldl regPut (regPut (findW a) x) = _
    rw [e, regs_self b (a ++ [x]) h']
    simp

theorem regs_map {a : List Wr} (h : Rise a) : a.foldl regPut (fun _ => none) = findW a := by
  have e : findW [] = fun _ => none := rfl
  have := regs_self a [] (by simpa using h)
  rw [e, List.nil_append] at this
  exact this

/-- What the registers tell at last is the join. -/
theorem told_join {a b : List Wr} (ha : Rise a) (ka : ∀ x ∈ a, 0 ≤ x.k ∧ x.k ≤ 5) (kb : ∀ x ∈ b, 0 ≤ x.k ∧ x.k ≤ 5) : toldM (b.foldl regPut (a.foldl regPut (fun _ => none))) = joinW a b := by
  obtain ⟨h1, h2, h3⟩ := join_spec b a ha
  have e : b.foldl regPut (a.foldl regPut (fun _ => none)) = findW (joinW a b) := by
    rw [regs_map ha]
    exact funext fun key => (h3 key).symm
  rw [e]
  exact told_find h1 fun x hx => by
    rcases h2 x hx with h | h
    · exact ka x h
    · exact kb x h

end Go.Proofs.Ytidpcjcnhklmpaj

/- What fits together, with no program in sight: the rounds end at the greatest that fits. -/
namespace Go.Proofs.Ytidpcjcnhklmpaj
open Go.ChangeShapes Go.WideShapes Go.ChangeAt Go.RowKit Go.Joins

theorem tcmp_ge_trans {c s q c' s' q' c2 s2 q2 : Int} (h : 0 ≤ tcmp c s q c' s' q') (h' : 0 ≤ tcmp c' s' q' c2 s2 q2) : 0 ≤ tcmp c s q c2 s2 q2 := by
  have t := tcmp_three c2 s2 q2 c' s' q' c s q
  rw [tcmp_neg c' s' q' c2 s2 q2, tcmp_neg c s q c' s' q', tcmp_neg c s q c2 s2 q2] at t
  rcases t.on (by omega) (by omega) with h1 | h1 <;> omega

theorem cmpW_neg_t {x y : Wr} (h : cmpW y x < 0) : 0 ≤ tcmp x.c x.s x.q y.c y.s y.q := by
  rw [tcmp_neg y.c y.s y.q x.c x.s x.q]
  unfold cmpW wcmp at h
  by_cases ht : tcmp y.c y.s y.q x.c x.s x.q = 0
  · omega
  · rw [if_pos ht] at h
    omega

theorem cmpW_ge_t {x y : Wr} (h : ¬ cmpW y x < 0) : 0 ≤ tcmp y.c y.s y.q x.c x.s x.q := by
  unfold cmpW wcmp at h
  by_cases ht : tcmp y.c y.s y.q x.c x.s x.q = 0
  · omega
  · rw [if_pos ht] at h
    omega

theorem has_put {ws : List Wr} (h : Rise ws) (x : Wr) (key c s q : Int) : hasB (putW ws x) key c s q = true ↔ hasB ws key c s q = true ∨ (x.k = key ∧ 0 ≤ tcmp x.c x.s x.q c s q) := by
  unfold hasB
  rw [find_putW h]
  by_cases hk : key = x.k
  · subst hk
    rw [if_pos rfl]
    cases hf : findW ws x.k with
    | none =>
      show decide (0 ≤ tcmp x.c x.s x.q c s q) = true ↔ false = true ∨ (x.k = x.k ∧ 0 ≤ tcmp x.c x.s x.q c s q)
      rw [decide_eq_true_eq]
      exact ⟨fun h => .inr ⟨rfl, h⟩, fun h => by
        rcases h with h | h
        · simp at h
        · exact h.2⟩
    | some y =>
      by_cases hc : cmpW y x < 0
      · have e : laterO (some y) x = x := by
          unfold laterO
          exact if_pos hc
        rw [e]
        show decide (0 ≤ tcmp x.c x.s x.q c s q) = true ↔ decide (0 ≤ tcmp y.c y.s y.q c s q) = true ∨ (x.k = x.k ∧ 0 ≤ tcmp x.c x.s x.q c s q)
        rw [decide_eq_true_eq, decide_eq_true_eq]
        exact ⟨fun h => .inr ⟨rfl, h⟩, fun h => by
          rcases h with h | h
          · exact tcmp_ge_trans (cmpW_neg_t hc) h
          · exact h.2⟩
      · have e : laterO (some y) x = y := by
          unfold laterO
          exact if_neg hc
        rw [e]
        show decide (0 ≤ tcmp y.c y.s y.q c s q) = true ↔ decide (0 ≤ tcmp y.c y.s y.q c s q) = true ∨ (x.k = x.k ∧ 0 ≤ tcmp x.c x.s x.q c s q)
        rw [decide_eq_true_eq]
        exact ⟨.inl, fun h => by
          rcases h with h | h
          · exact h
          · exact tcmp_ge_trans (cmpW_ge_t hc) h.2⟩
  · rw [if_neg hk]
    constructor
    · exact .inl
    · rintro (h1 | h1)
      · exact h1
      · exact absurd h1.1.symm hk

theorem rise_allTo {us : List Wr} (vs : List Wr) (st : Nat → Bool) (h : Rise us) : ∀ k, Rise (allTo us vs st k)
  | 0 => h
  | k + 1 => by
    cases hb : st k
    · rw [allTo_no hb]
      exact rise_allTo vs st h k
    · rw [allTo_yes hb]
      exact rise_putW (rise_allTo vs st h k) _

theorem has_allTo {us : List Wr} (vs : List Wr) (st : Nat → Bool) (h : Rise us) (key c s q : Int) : ∀ k, hasB (allTo us vs st k) key c s q = true ↔ hasB us key c s q = true ∨ ∃ j, j < k ∧ st j = true ∧ (vs.getD j wz).k = key ∧ 0 ≤ tcmp (vs.getD j wz).c (vs.getD j wz).s (vs.getD j wz).q c s q
  | 0 => by
    constructor
    · exact .inl
    · rintro (h1 | ⟨j, hj, _⟩)
      · exact h1
      · omega
  | k + 1 => by
    have ih := has_allTo vs st h key c s q k
    cases hb : st k
    · rw [allTo_no hb, ih]
      constructor
      · rintro (h1 | ⟨j, hj, h2⟩)
        · exact .inl h1
        · exact .inr ⟨j, by omega, h2⟩
      · rintro (h1 | ⟨j, hj, h2, h3⟩)
        · exact .inl h1
        · refine .inr ⟨j, ?_, h2, h3⟩
          have : j ≠ k := fun e => by rw [e, hb] at h2; simp at h2
          omega
    · rw [allTo_yes hb, has_put (rise_allTo vs st h k), ih]
      constructor
      · rintro ((h1 | ⟨j, hj, h2⟩) | h1)
        · exact .inl h1
        · exact .inr ⟨j, by omega, h2⟩
        · exact .inr ⟨k, by omega, hb, h1⟩
      · rintro (h1 | ⟨j, hj, h2, h3⟩)
        · exact .inl (.inl h1)
        · by_cases e : j = k
          · rw [e] at h3
            exact .inr h3
          · exact .inl (.inr ⟨j, by omega, h2, h3⟩)

theorem cov_iff (ws : List Wr) (ds : List Dp) : covB ws ds = true ↔ ∀ d ∈ ds, hasB ws d.k d.c d.s d.q = true := by
  unfold covB lacksL
  rw [beq_iff_eq, List.length_eq_zero_iff, List.filter_eq_nil_iff]
  constructor
  · intro h d hd
    have := h d hd
    unfold lacking at this
    simpa using this
  · intro h d hd
    unfold lacking
    rw [h d hd]
    simp

theorem cov_mono {us : List Wr} {vs : List Wr} {s t : Nat → Bool} (h : Rise us) (hst : ∀ j, j < vs.length → s j = true → t j = true) {ds : List Dp} (hc : covB (allOf us vs s) ds = true) : covB (allOf us vs t) ds = true := by
  rw [cov_iff] at *
  intro d hd
  have h1 := hc d hd
  unfold allOf at *
  rw [has_allTo vs _ h] at *
  rcases h1 with h1 | ⟨j, hj, h2, h3⟩
  · exact .inl h1
  · exact .inr ⟨j, hj, hst j hj h2, h3⟩

theorem allTo_congr {us vs : List Wr} {s t : Nat → Bool} : ∀ {k}, (∀ j, j < k → s j = t j) → allTo us vs s k = allTo us vs t k
  | 0, _ => rfl
  | k + 1, h => by
    have ih := allTo_congr (us := us) (vs := vs) (k := k) (fun j hj => h j (by omega))
    have hk := h k (by omega)
    cases hb : t k
    · rw [allTo_no hb, allTo_no (hk.trans hb), ih]
    · rw [allTo_yes hb, allTo_yes (hk.trans hb), ih]

theorem next_congr {us vs : List Wr} {s t : Nat → Bool} (h : ∀ j, j < vs.length → s j = t j) {j : Nat} (hj : j < vs.length) : nextS us vs s j = nextS us vs t j := by
  unfold nextS allOf
  rw [h j hj, allTo_congr h]

/-- Who fits. -/
def fixS (us vs : List Wr) : Nat → Bool := stayAt us vs vs.length

def Fixed (us vs : List Wr) (st : Nat → Bool) : Prop := ∀ j, j < vs.length → nextS us vs st j = st j

theorem fixed_on {us vs : List Wr} {r : Nat} (h : Fixed us vs (stayAt us vs r)) : ∀ s, ∀ j, j < vs.length → stayAt us vs (r + s) j = stayAt us vs r j
  | 0, j, _ => rfl
  | s + 1, j, hj => by
    show nextS us vs (stayAt us vs (r + s)) j = _
    rw [next_congr (fixed_on h s) hj]
    exact h j hj

theorem stay_rounds (us vs : List Wr) : ∀ r, (∃ s, s ≤ r ∧ Fixed us vs (stayAt us vs s)) ∨ cnt (stayAt us vs r) vs.length + r ≤ vs.length
  | 0 => by
    right
    have h : ∀ (st : Nat → Bool) m, cnt st m ≤ m := by
      intro st m
      induction m with
      | zero => exact Nat.le_refl _
      | succ m ih =>
        unfold cnt
        cases st m <;> simp <;> omega
    have := h (stayAt us vs 0) vs.length
    omega
  | r + 1 => by
    rcases stay_rounds us vs r with ⟨s, hs, hf⟩ | h
    · exact .inl ⟨s, by omega, hf⟩
    · by_cases hf : Fixed us vs (stayAt us vs r)
      · exact .inl ⟨r, by omega, hf⟩
      · right
        unfold Fixed at hf
        simp only [Classical.not_forall] at hf
        obtain ⟨j, hj, hne⟩ := hf
        have hlt : cnt (nextS us vs (stayAt us vs r)) vs.length < cnt (stayAt us vs r) vs.length := by
          refine cnt_lt (fun j _ h => next_le h) ⟨j, hj, ?_⟩
          cases h1 : stayAt us vs r j <;> cases h2 : nextS us vs (stayAt us vs r) j
          · rw [h1, h2] at hne; exact absurd rfl hne
          · have := next_le h2; rw [h1] at this; simp at this
          · exact ⟨rfl, rfl⟩
          · rw [h1, h2] at hne; exact absurd rfl hne
        show cnt (nextS us vs (stayAt us vs r)) vs.length + (r + 1) ≤ vs.length
        omega

theorem cnt_zero {s : Nat → Bool} : ∀ {m}, cnt s m = 0 → ∀ j, j < m → s j = false
  | 0, _, j, hj => by omega
  | m + 1, h, j, hj => by
    unfold cnt at h
    by_cases e : j = m
    · rw [e]
      cases hb : s m
      · rfl
      · rw [hb] at h; simp at h
    · exact cnt_zero (m := m) (by omega) j (by omega)

theorem fix_fixed (us vs : List Wr) : Fixed us vs (fixS us vs) := by
  rcases stay_rounds us vs vs.length with ⟨s, hs, hf⟩ | h
  · have h1 := fixed_on hf (vs.length - s)
    rw [show s + (vs.length - s) = vs.length by omega] at h1
    intro j hj
    unfold fixS
    rw [next_congr h1 hj, hf j hj, h1 j hj]
  · have h0 := cnt_zero (m := vs.length) (s := stayAt us vs vs.length) (by omega)
    intro j hj
    have h1 := h0 j hj
    unfold fixS
    rw [h1]
    cases h2 : nextS us vs (stayAt us vs vs.length) j
    · rfl
    · have := next_le h2
      rw [h1] at this
      simp at this

theorem stay_is_fix {us vs : List Wr} {r : Nat} (h : Fixed us vs (stayAt us vs r)) : ∀ j, j < vs.length → stayAt us vs r j = fixS us vs j := by
  intro j hj
  by_cases hr : r ≤ vs.length
  · have h1 := fixed_on h (vs.length - r) j hj
    rw [show r + (vs.length - r) = vs.length by omega] at h1
    exact h1.symm
  · have h1 := fixed_on (fix_fixed us vs) (r - vs.length) j hj
    rw [show vs.length + (r - vs.length) = r by omega] at h1
    exact h1

theorem fix_great {us vs : List Wr} (h : Rise us) {T : Nat → Bool} (hT : ∀ j, j < vs.length → T j = true → covB (allOf us vs T) (vs.getD j wz).xs = true) : ∀ r, ∀ j, j < vs.length → T j = true → stayAt us vs r j = true
  | 0, j, _, _ => rfl
  | r + 1, j, hj, h1 => by
    show nextS us vs (stayAt us vs r) j = true
    unfold nextS
    rw [fix_great h hT r j hj h1, Bool.true_and]
    exact cov_mono h (fun i hi h2 => fix_great h hT r i hi h2) (hT j hj h1)

/-- What strikes out only what is not covered strikes out nothing that fits. -/
theorem fix_kept {us vs : List Wr} (h : Rise us) {S : Nat → Bool} (hS : ∀ j, j < vs.length → fixS us vs j = true → S j = true) {p : Nat} (hp : p < vs.length) (hc : covB (allOf us vs S) (vs.getD p wz).xs = false) : fixS us vs p = false := by
  cases hb : fixS us vs p
  · rfl
  · have h1 := fix_fixed us vs p hp
    rw [hb] at h1
    unfold nextS at h1
    rw [Bool.and_eq_true] at h1
    have h2 := cov_mono h hS h1.2
    rw [hc] at h2
    simp at h2

/-- What keeps all that fits, and is covered by itself, is what fits. -/
theorem fix_is {us vs : List Wr} (h : Rise us) {S : Nat → Bool} (hS : ∀ j, j < vs.length → fixS us vs j = true → S j = true) (hc : ∀ j, j < vs.length → S j = true → covB (allOf us vs S) (vs.getD j wz).xs = true) : ∀ j, j < vs.length → S j = fixS us vs j := by
  intro j hj
  cases hb : S j
  · cases hf : fixS us vs j
    · rfl
    · rw [hS j hj hf] at hb
      simp at hb
  · exact (fix_great h hc vs.length j hj hb).symm

/-- Those of the first k that are marked so. -/
def thoseTo (vs : List Wr) (st : Nat → Bool) (fit : Bool) : Nat → List Wr
  | 0 => []
  | k + 1 => if st k = fit then thoseTo vs st fit k ++ [vs.getD k wz] else thoseTo vs st fit k

theorem those_congr {vs : List Wr} {s t : Nat → Bool} {fit : Bool} : ∀ {k}, (∀ j, j < k → s j = t j) → thoseTo vs s fit k = thoseTo vs t fit k
  | 0, _ => rfl
  | k + 1, h => by
    unfold thoseTo
    rw [h k (by omega), those_congr (k := k) (fun j hj => h j (by omega))]

theorem those_len (vs : List Wr) (st : Nat → Bool) (fit : Bool) : ∀ k, (thoseTo vs st fit k).length ≤ k
  | 0 => Nat.le_refl _
  | k + 1 => by
    have := those_len vs st fit k
    unfold thoseTo
    split
    · simp
      omega
    · omega

theorem allTo_join (us vs : List Wr) (st : Nat → Bool) : ∀ k, allTo us vs st k = joinW us (thoseTo vs st true k)
  | 0 => rfl
  | k + 1 => by
    have ih := allTo_join us vs st k
    unfold thoseTo
    cases hb : st k
    · rw [allTo_no hb, ih, if_neg (by simp)]
    · rw [allTo_yes hb, ih, if_pos rfl]
      unfold joinW
      rw [List.foldl_append]
      rfl

/-- What fits, what is held. -/
def fitL (us vs : List Wr) (fit : Bool) : List Wr := match rightB us vs with
  | true => thoseTo vs (fixS us vs) fit vs.length
  | false => []

end Go.Proofs.Ytidpcjcnhklmpaj

/- The contract of impl.WriteOk. -/
namespace Go.Proofs.Ytidpcjcnhklmpaj
open Go.ChangeShapes Go.WideShapes Go.ChangeAt Go.RowKit Go.Joins

set_option maxHeartbeats 1000000 in
theorem implWriteOk_ends (k c s q v : Int) (de : Bool) (a : Option Addr) (xs : List Dp) (cap : Nat) (w : World)
    (hbad : btw k 0 5 = false ∨ tagOkB c s q = false ∨ valOkB v de = false) :
    Calls Try.prog 53 #[wrV k c s q v de a xs.length cap] w fun e w' => e = .returned (.bool (writeOkB k c s q v de xs)) ∧ Below w.heap.size w w' := by
  cases h1 : btw k 0 5
  · rw [wok_key h1]
    clear hbad
    go_enter Try.func53, Try.ntmps53
    go_wp2_with (go_at_call 74; refine (keyOk_is _ false h1 _).mono ?_; rintro e w' ⟨rfl, rfl⟩)
    go_ret
    exact ⟨rfl, (Below.refl _ _).alloc (Nat.le_refl _) _⟩
  cases h2 : tagOkB c s q
  · rw [wok_tag h2]
    clear hbad
    go_enter Try.func53, Try.ntmps53
    go_wp2_with (first | (go_at_call 74; refine (keyOk_is _ true h1 _).mono ?_; rintro e w' ⟨rfl, rfl⟩) | (go_at_call 75; refine (implTagOk_is _ _ _ false h2 _).mono ?_; rintro e w' ⟨rfl, hb⟩))
    go_ret
    exact ⟨rfl, below_step ((Below.refl _ _).alloc (Nat.le_refl _) _) (by simp) hb⟩
  have h3 : valOkB v de = false := by
    rcases hbad with h | h | h
    · rw [h1] at h; cases h
    · rw [h2] at h; cases h
    · exact h
  rw [wok_val h3]
  clear hbad
  go_enter Try.func53, Try.ntmps53
  go_wp2_with fail
  refine (keyOk_is _ true h1 _).mono ?_
  rintro e w1 ⟨rfl, rfl⟩
  go_wp2_with fail
  refine (implTagOk_is _ _ _ true h2 _).mono ?_
  rintro e w2 ⟨rfl, hb⟩
  have HX := BoxIn.start hb
  have b4 := HX.c4
  have b5 := HX.c5
  clear hb
  go_wp2_with (go_at_call 76; refine (valOk_is _ _ false h3 _).mono ?_; rintro e w' ⟨rfl, rfl⟩)
  go_ret
  exact ⟨rfl, HX.below⟩

set_option maxHeartbeats 1000000 in
theorem implWriteOk_deps (k c s q v : Int) (de : Bool) (a : Option Addr) (xs : List Dp) (cap : Nat) (w : World) (hn : xs.length ≤ 1048576) (hh : IsDeps w a xs)
    (h1 : btw k 0 5 = true) (h2 : tagOkB c s q = true) (h3 : valOkB v de = true) (h4 : depsOkB xs = false) :
    Calls Try.prog 53 #[wrV k c s q v de a xs.length cap] w fun e w' => e = .returned (.bool (writeOkB k c s q v de xs)) ∧ Below w.heap.size w w' := by
  rw [wok_deps h4]
  have HH : Hid (IsDeps w a xs) := hh
  clear hh
  go_enter Try.func53, Try.ntmps53
  go_wp2_with fail
  refine (keyOk_is _ true h1 _).mono ?_
  rintro e w1 ⟨rfl, rfl⟩
  go_wp2_with fail
  refine (implTagOk_is _ _ _ true h2 _).mono ?_
  rintro e w2 ⟨rfl, hb⟩
  have HX := BoxIn.start hb
  have b4 := HX.c4
  have b5 := HX.c5
  have b6 := HX.c6
  clear hb
  go_wp2_with fail
  refine (valOk_is _ _ true h3 _).mono ?_
  rintro e w3 ⟨rfl, rfl⟩
  go_wp2_with fail
  refine (implDepsOk_is false _ xs h4 _ _ hn (HH.out.below HX.below)).mono ?_
  rintro e w4 ⟨rfl, hb4⟩
  have HB : Hid (Below w.heap.size w w4) := below_step HX.below HX.below.size hb4
  clear hb4
  go_wp2
  go_ret
  exact ⟨rfl, HB.out⟩

set_option maxHeartbeats 2000000 in
theorem implWriteOk_rest (k c s q v : Int) (de : Bool) (a : Option Addr) (xs : List Dp) (cap : Nat) (w : World) (hn : xs.length ≤ 1048576) (hh : IsDeps w a xs)
    (h1 : btw k 0 5 = true) (h2 : tagOkB c s q = true) (h3 : valOkB v de = true) (h4 : depsOkB xs = true) :
    Calls Try.prog 53 #[wrV k c s q v de a xs.length cap] w fun e w' => e = .returned (.bool (writeOkB k c s q v de xs)) ∧ Below w.heap.size w w' := by
  rw [wok_rest h1 h2 h3 h4]
  have HH : Hid (IsDeps w a xs) := hh
  have HT : Hid (∀ i, i < xs.length → tagOkB (xs.getD i dz).c (xs.getD i dz).s (xs.getD i dz).q = true) := fun i hi => depsOk_tag h4 hi
  clear hh
  go_enter Try.func53, Try.ntmps53
  go_wp2_with fail
  refine (keyOk_is _ true h1 _).mono ?_
  rintro e w1 ⟨rfl, rfl⟩
  go_wp2_with fail
  refine (implTagOk_is _ _ _ true h2 _).mono ?_
  rintro e w2 ⟨rfl, hb⟩
  have HX := BoxIn.start hb
  have b1 := HX.c1
  have b2 := HX.c2
  have b3 := HX.c3
  have b4 := HX.c4
  have b5 := HX.c5
  have b6 := HX.c6
  clear hb
  go_wp2_with fail
  refine (valOk_is _ _ true h3 _).mono ?_
  rintro e w3 ⟨rfl, rfl⟩
  go_wp2_with fail
  refine (implDepsOk_is true _ xs h4 _ _ hn (HH.out.below HX.below)).mono ?_
  rintro e w4 ⟨rfl, hb4⟩
  have HX4 : Hid (BoxIn w w4 k c s q v de a xs.length cap) := HX.step hb4
  clear hb4 HX b1 b2 b3 b4 b5 b6 h4 h3
  have b1 := HX4.out.c1
  have b2 := HX4.out.c2
  have b3 := HX4.out.c3
  have b6 := HX4.out.c6
  go_wp2_with fail
  refine (tagWord_any _ _ _ _ h2).mono ?_
  rintro e w5 ⟨rfl, hb5⟩
  have HX5 : Hid (BoxIn w w5 k c s q v de a xs.length cap) := HX4.out.step hb5
  clear hb5 b1 b2 b3 b6 HX4
  have b6 := HX5.out.c6
  go_wp2
  clear b6
  go_loopw [36] (fun i wr => ∃ j : Nat, j ≤ xs.length ∧ i = .int .i64 j ∧ Hid (∀ l, l < j → ahead xs c s q l = true) ∧ Hid (Below w.heap.size w wr)) (fun i _ => xs.length - (intOf i).toNat)
  case atStart => exact ⟨0, Nat.zero_le _, rfl, fun l hl => by omega, HX5.out.below⟩
  case round =>
    clear HX5
    obtain ⟨j, hj, rfl, HG, HB⟩ := hrel
    by_cases hj' : j < xs.length
    · obtain ⟨g, o, rfl, hz, e0, e1, e2, e3⟩ := HH.out.at HB.out hj'
      have HA : Hid (ahead xs c s q j = decide (tcmp (xs.getD j dz).c (xs.getD j dz).s (xs.getD j dz).q c s q < 0)) := rfl
      have h6 := HT.out j hj'
      have i1 : (0 : Int) ≤ (j : Int) := by omega
      have i2 : (j : Int) < (xs.length : Int) := by omega
      generalize (xs.getD j dz).k = x0 at *
      generalize (xs.getD j dz).c = x1 at *
      generalize (xs.getD j dz).s = x2 at *
      generalize (xs.getD j dz).q = x3 at *
      have HW := word_order h6 h2
      have HBA : Hid (Below w.heap.size w (wr.alloc (.cells #[.int .i64 x0, .int .i64 x1, .int .i64 x2, .int .i64 x3] 56))) := HB.out.alloc HB.out.size _
      by_cases hs : tcmp x1 x2 x3 c s q < 0
      · have HG' : Hid (∀ l, l < j + 1 → ahead xs c s q l = true) := fun l hl => by
          by_cases h : l < j
          · exact HG.out l h
          · have : l = j := by omega
            rw [this, HA.out]
            exact decide_eq_true hs
        have hw : x1 * 4096 + x2 * 1024 + x3 < c * 4096 + s * 1024 + q := by omega
        clear HA HW hs
        go_wp2_with fail
        refine (tagWord_any _ _ _ _ h6).mono ?_
        rintro e wq ⟨rfl, hq⟩
        have HBQ : Hid (Below w.heap.size w wq) := below_step HBA.out HBA.out.size hq
        clear hq
        go_wp2
        exact ⟨⟨j + 1, by omega, by go_num, HG', HBQ⟩, by simp [intOf]; omega⟩
      · have HF : Hid (aheadAll xs c s q = false) := ahead_false hj' (by rw [HA.out]; exact decide_eq_false hs)
        have hw : c * 4096 + s * 1024 + q ≤ x1 * 4096 + x2 * 1024 + x3 := by omega
        clear HA HW hs
        go_wp2_with fail
        refine (tagWord_any _ _ _ _ h6).mono ?_
        rintro e wq ⟨rfl, hq⟩
        have HBQ : Hid (Below w.heap.size w wq) := below_step HBA.out HBA.out.size hq
        clear hq
        go_wp2
        go_ret
        exact ⟨ret_bool HF.out.symm, HBQ.out⟩
    · go_wp2
      go_ret
      exact ⟨ret_bool (ahead_true fun i hi => HG.out i (by omega)).symm, HB.out⟩

theorem implWriteOk_gen (k c s q v : Int) (de : Bool) (a : Option Addr) (xs : List Dp) (len cap : Nat) (w : World) (hl : xs.length = len) (hn : len ≤ 1048576) (hh : IsDeps w a xs) :
    Calls Try.prog 53 #[wrV k c s q v de a len cap] w fun e w' => e = .returned (.bool (writeOkB k c s q v de xs)) ∧ Below w.heap.size w w' := by
  subst hl
  by_cases h : btw k 0 5 = false ∨ tagOkB c s q = false ∨ valOkB v de = false
  · exact implWriteOk_ends k c s q v de a xs cap w h
  · simp only [not_or, Bool.not_eq_false] at h
    obtain ⟨h1, h2, h3⟩ := h
    cases h4 : depsOkB xs
    · exact implWriteOk_deps k c s q v de a xs cap w hn hh h1 h2 h3 h4
    · exact implWriteOk_rest k c s q v de a xs cap w hn hh h1 h2 h3 h4

theorem implWriteOk_any (k c s q v : Int) (de : Bool) (g : Nat) (xs : List Dp) (len cap : Nat) (w : World) (hl : xs.length = len) (hn : len ≤ 1048576) (hlt : g < w.heap.size) (hh : HoldsDeps w g 0 xs) :
    Calls Try.prog 53 #[wrV k c s q v de (some ⟨g, 0, none⟩) len cap] w fun e w' => e = .returned (.bool (writeOkB k c s q v de xs)) ∧ Below w.heap.size w w' :=
  implWriteOk_gen k c s q v de _ xs len cap w hl hn (.inr ⟨g, 0, rfl, hlt, hh⟩)

end Go.Proofs.Ytidpcjcnhklmpaj
