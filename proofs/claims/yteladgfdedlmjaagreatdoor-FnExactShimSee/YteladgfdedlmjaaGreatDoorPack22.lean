import Derived.Test.YteladgfdedlmjaaGreatDoorPack21
import Derived.Test.YteladgfdedlmjaaGreatDoorPack11
import Derived.Deep.RegionHeld3
import Derived.WalkMore
import Derived.Test.YteladgfdedlmjaaGreatDoorPack7
import Derived.Test.YteladgfdedlmjaaGreatDoorPack20
import Derived.Test.YteladgfdedlmjaaGreatDoorPack5
import Derived.Test.YteladgfdedlmjaaGreatDoorPack12
import Derived.Laws.ShiftsVarLaws
import Derived.Laws.BitsAllLaws
import Derived.Test.YteladgfdedlmjaaGreatDoorPack19
import Derived.Test.YteladgfdedlmjaaGreatDoorPack18
namespace Go.Proofs.YteladgfdedlmjaaGreatDoor
open Go.ChangeShapes Go.WideShapes Go.ChangeAt Go.RowKit Go.Joins
set_option maxRecDepth 100000
attribute [local go_sem ↓] Go.wp_at_zero Go.wp_at_succ
theorem latest_rows {us vs : List Wr} {L : Nat → List Wr} (hu : ∀ x ∈ us, okW x = true) (hv : ∀ x ∈ vs, okW x = true) (h : ∀ k, k < 6 → (L k).Perm (startL us vs k) ∧ (L k).Pairwise fun x y => 0 ≤ tcmp x.c x.s x.q y.c y.s y.q) : Rows6 us vs (fun k => if k < 6 then L k else []) := by
 have hok : ∀ k, k < 6 → ∀ x ∈ L k, tagOkB x.c x.s x.q = true := fun k hk x hx => by
  have hm := (h k hk).1.mem_iff.1 hx
  unfold startL at hm
  rcases List.mem_append.1 hm with hm | hm
  ·obtain ⟨u, h1, rfl⟩ := List.mem_map.1 hm
   exact (okW_parts (hu u (List.mem_filter.1 h1).1)).2.1
  ·exact (okW_parts (hv x (List.mem_filter.1 hm).1)).2.1
 refine rows6_start hu hv (fun k hk => ?_) (fun k hk => ?_) (fun k => ?_)
 ·simp only [if_pos hk]
  exact (h k hk).1
 ·simp only [if_neg (Nat.not_lt.2 hk)]
 ·by_cases hk : k < 6
  ·simp only [if_pos hk]
   refine (h k hk).2.imp_of_mem ?_
   intro x y hx hy hxy
   exact (word_order (hok k hk x hx) (hok k hk y hy)).2 hxy
  ·simp only [if_neg hk]
   exact List.Pairwise.nil
theorem start_few {us vs : List Wr} {L : Nat → List Wr} (hu : ∀ x ∈ us, okW x = true) (hv : ∀ x ∈ vs, okW x = true) (k : Nat) (h : (L k).Perm (startL us vs k)) : ∀ x ∈ L k, x.xs.length ≤ 1048576 ∧ tagOkB x.c x.s x.q = true ∧ depsOkB x.xs = true := fun x hx => by
 have hm := h.mem_iff.1 hx
 unfold startL at hm
 rcases List.mem_append.1 hm with hm | hm
 ·obtain ⟨u, h1, rfl⟩ := List.mem_map.1 hm
  exact ⟨by simp [strip], (okW_parts (hu u (List.mem_filter.1 h1).1)).2.1, rfl⟩
 ·have h1 := okW_parts (hv x (List.mem_filter.1 hm).1)
  have h2 := okW_len (hv x (List.mem_filter.1 hm).1)
  exact ⟨by omega, h1.2.1, h1.2.2⟩
set_option maxHeartbeats 16000000 in
theorem widest_any (a b : Option Addr) (n m cap cap' : Nat) (us vs : List Wr) (w : World) (hn : us.length = n) (hm : vs.length = m) (hs : n + m ≤ 1048576) (hx : Few us) (hy : Few vs) (hi : IsWs w a us) (hj : IsWs w b vs) (hr : Rise us) (hu : ∀ x ∈ us, okW x = true) (hv : ∀ x ∈ vs, okW x = true) :
  Calls Tryz.prog 176 #[.slice a n cap, .slice b m cap'] w fun e w' => ∃ c : Nat → Int, e = .returned (covV c) ∧ (∀ j, j < vs.length → chas c (vs.getD j wz).xs = fixS us vs j) ∧ Below w.heap.size w w' := by
 have HU := Lib.hid hu
 have HV := Lib.hid hv
 have HR := Lib.hid hr
 have HB0 : Hid (Below w.heap.size w (w.alloc (.cells (six zeroU) 211))) := (Below.refl _ _).alloc (Nat.le_refl _) _
 have HQ0 : Hid (Box6 (w.alloc (.cells (six zeroU) 211)) w.heap.size zeroU) := box6_new w _ _ _ rfl
 have HC := Lib.hid (latest_any a b n m cap cap' us vs (w.alloc (.cells (six zeroU) 211)) hn hm hs hx hy (hi.below HB0.out) (hj.below HB0.out) (fun i hi => okW_key (hu _ (getV_mem hi))) (fun i hi => okW_key (hv _ (getV_mem hi))))
 clear hi hj hx hy hn hm hu hv hr
 go_enter Tryz.func176, Tryz.ntmps176
 go_wp2
 go_step3
 go_wp2_with fail
 refine HC.out.mono ?_
 rintro e w1 ⟨P, C, L0, rfl, hL, hb⟩
 have HB1 := Lib.hid (below_step HB0.out HB0.out.size hb)
 have HQ1 := Lib.hid (HQ0.out.below hb)
 have HL := Lib.hid hL
 clear hb hL HC HB0 HQ0
 have HLB : Hid (Box6 ((w1.alloc (.cells (six (sl6 P C L0)) 230)).alloc (.cells (six zeroU) 211)) w1.heap.size (sl6 P C L0)) := (box6_new w1 _ _ _ rfl).below ((Below.refl _ _).alloc (Nat.le_refl _) _)
 have HCB : Hid (Box6 ((w1.alloc (.cells (six (sl6 P C L0)) 230)).alloc (.cells (six zeroU) 211)) (w1.heap.size + 1) zeroU) := by
  have e : (w1.alloc (.cells (six (sl6 P C L0)) 230)).heap.size = w1.heap.size + 1 := by simp
  rw [← e]
  exact box6_new (w1.alloc (.cells (six (sl6 P C L0)) 230)) 211 zeroU _ rfl
 have HK1 : Hid (Below w1.heap.size w1 ((w1.alloc (.cells (six (sl6 P C L0)) 230)).alloc (.cells (six zeroU) 211))) := ((Below.refl _ _).alloc (Nat.le_refl _) _).alloc (by simp) _
 have HFW := Lib.hid (fun k (hk : k < 6) => start_few (L := L0) HU.out HV.out k (HL.out k hk).2.2.1)
 go_wp2
 go_loopw [15] (fun i wr => ∃ k : Nat, k ≤ 6 ∧ i = .int .i64 k ∧ Hid (Box6 wr w1.heap.size (sl6 P C L0)) ∧ Hid (Box6 wr (w1.heap.size + 1) (fun j => if j < k then .int .u64 (headW (L0 j)) else .int .u64 0)) ∧ Hid (Below w1.heap.size w1 wr)) (fun i _ => 6 - (intOf i).toNat)
 case atStart => exact ⟨0, Nat.zero_le _, rfl, HLB, HCB.out.congr fun k _ => rfl, HK1⟩
 case round =>
  clear HLB HCB HK1
  obtain ⟨k, hk, rfl, HLB, HCB, HK⟩ := hrel
  by_cases hk' : k < 6
  ·have i1 : (0 : Int) ≤ (k : Int) := by omega
   have i2 : (k : Int) < 6 := by omega
   have hix := run_index6 (sl6 P C L0) hk' _ rfl
   simp only [sl6] at hix
   have HFC := Lib.hid (firstWord_any (P k) (L0 k).length (C k) (L0 k) wr rfl ((HL.out k hk').1.below HK.out) (fun x hx => (HFW.out k hk' x hx).2.1))
   go_wp2_with fail
   refine HFC.out.mono ?_
   rintro e w2 ⟨rfl, hb⟩
   have HLB2 := Lib.hid (HLB.out.below hb)
   have HCB2 := Lib.hid (HCB.out.below hb)
   have HK2 := Lib.hid (below_step HK.out HK.out.size hb)
   clear hb HLB HCB HK HFC hix
   have cc := HCB2.out.cells k hk'
   have cf := HCB2.out.nf
   have HLB3 : Hid (Box6 (w2.setCell ⟨w1.heap.size + 1, k, none⟩ (.int .u64 (headW (L0 k)))) w1.heap.size (sl6 P C L0)) := HLB2.out.other (by omega) k _
   have HCB3 : Hid (Box6 (w2.setCell ⟨w1.heap.size + 1, k, none⟩ (.int .u64 (headW (L0 k)))) (w1.heap.size + 1) (fun j => if j < k + 1 then .int .u64 (headW (L0 j)) else .int .u64 0)) := (HCB2.out.set hk' _).congr fun j hj => by
    unfold updF
    by_cases e : j = k
    ·subst e
     rw [if_pos rfl, if_pos (by omega)]
    ·rw [if_neg e]
     show (if j < k then Value.int .u64 (headW (L0 j)) else .int .u64 0) = _
     by_cases e2 : j < k
     ·rw [if_pos e2, if_pos (by omega)]
     ·rw [if_neg e2, if_neg (by omega)]
   have HK3 : Hid (Below w1.heap.size w1 (w2.setCell ⟨w1.heap.size + 1, k, none⟩ (.int .u64 (headW (L0 k))))) := HK2.out.setCell (p := ⟨w1.heap.size + 1, k, none⟩) (by simp) _
   go_wp2
   exact ⟨⟨k + 1, by omega, by go_num, HLB3, HCB3, HK3⟩, by simp [intOf]; omega⟩
  ·have hkk : k = 6 := by omega
   subst hkk
   have HRT : Hid (Rest w1 wr w1.heap.size (w1.heap.size + 1) n us vs P C (fun k => if k < 6 then L0 k else [])) := by
    refine ⟨latest_rows HU.out HV.out fun k hk => (HL.out k hk).2.2, fun k hk => ?_, fun k hk => ?_, fun k hk x hx => ?_, HLB.out.congr fun k hk => ?_, HCB.out.congr fun k hk => ?_, HK.out⟩
    ·simp only [if_pos hk]
     exact (HL.out k hk).1
    ·simp only [if_pos hk]
     exact (HL.out k hk).2.1
    ·simp only [if_pos hk] at hx
     exact HFW.out k hk x hx
    ·unfold sl6
     simp only [if_pos hk]
    ·unfold covU tops
     simp only [if_pos hk]
   clear HLB HCB HK HFW HL
   generalize (fun k => if k < 6 then L0 k else []) = L at *
   go_wp2
   go_step3
   go_wp2
   rw [show ((6 : Nat) : Int) = 6 from rfl]
   go_loopw [25] (fun _ wr => ∃ (P : Nat → Option Addr) (C : Nat → Nat) (L : Nat → List Wr), Hid (Rest w1 wr w1.heap.size (w1.heap.size + 1) n us vs P C L)) (fun _ wr => lenSum wr w1.heap.size)
   case atStart => exact ⟨P, C, L, HRT⟩
   case round =>
    clear HRT
    obtain ⟨P, C, L, HT⟩ := hrel
    obtain ⟨wo, rfl⟩ : ∃ wo : World, wo = wr := ⟨_, rfl⟩
    have HME := Lib.hid (lenSum_eq HT.out.lb.cells)
    have c0 := HT.out.lb.cells 0 (by omega)
    have c1 := HT.out.lb.cells 1 (by omega)
    have c2 := HT.out.lb.cells 2 (by omega)
    have c3 := HT.out.lb.cells 3 (by omega)
    have c4 := HT.out.lb.cells 4 (by omega)
    have c5 := HT.out.lb.cells 5 (by omega)
    unfold sl6 at c0 c1 c2 c3 c4 c5
    go_wp2
    clear c0 c1 c2 c3 c4 c5
    go_loopw [25] (fun i wr => ∃ q : Nat, q ≤ 6 ∧ i = .int .i64 q ∧ Hid (Settled L q) ∧ Hid (Rest w1 wr w1.heap.size (w1.heap.size + 1) n us vs P C L)) (fun i _ => 6 - (intOf i).toNat)
    case atStart => exact ⟨0, Nat.zero_le _, rfl, fun k x t hk => absurd hk (Nat.not_lt_zero k), HT⟩
    case round =>
     clear HT
     obtain ⟨q, hq, rfl, HS, HT⟩ := hrel
     by_cases hq' : q < 6
     ·have i1 : (0 : Int) ≤ (q : Int) := by omega
      have i2 : (q : Int) < 6 := by omega
      cases hl : L q with
      | nil =>
       have hix := run_index6 (sl6 P C L) hq' (.slice (P q) 0 (C q)) (by unfold sl6; rw [hl]; rfl)
       simp only [sl6] at hix
       have HS2 := Lib.hid (settled_next HS.out fun x t h => by rw [hl] at h; cases h)
       clear hl HS
       go_wp2_with fail
       clear hix
       have ne := aft_some wr
       refine wp_region_aft (by kernel_rfl) (by kernel_rfl) ?_
       repeat (first | go_big_quiet_step (fail))
       refine wpQuiet_nil ?_
       intro wq hwq
       have HT2 := Lib.hid (HT.out.below hwq)
       clear hwq ne HT
       go_wp2
       exact ⟨⟨q + 1, by omega, by go_num, HS2, HT2⟩, by simp [intOf]; omega⟩
      | cons x t =>
       obtain ⟨bb, oo, ad, cq, hP, hz, ⟨e0, e1, e2, e3, e4, e5, e6⟩, hd⟩ := (HT.out.ws q hq').at HT.out.keep (n := t.length + 1) (k := 0) (by rw [hl]; rfl) (by omega)
       rw [hl] at e0 e1 e2 e3 e4 e5 e6 hd
       simp only [List.getD_cons_zero, Nat.zero_mul, Nat.add_zero] at e0 e1 e2 e3 e4 e5 e6 hd
       have hix := run_index6 (sl6 P C L) hq' (.slice (some ⟨bb, oo, none⟩) (t.length + 1) (C q)) (by unfold sl6; rw [hl, hP]; rfl)
       simp only [sl6] at hix
       obtain ⟨hf1, -, hf3⟩ := HT.out.few q hq' x (by rw [hl]; exact List.mem_cons_self)
       have HCH : Hid (∀ p : Aft wr.heap.size wr, Calls Tryz.prog 177 #[covV (tops L), .slice ad x.xs.length cq] p.now fun e w' => e = .returned (.bool (chas (tops L) x.xs)) ∧ Below p.now.heap.size p.now w') := fun p => covHas_any (tops L) ad _ cq x.xs p.now rfl hf1 (hd.below p.below) hf3
       have z0 := HT.out.cb.cells 0 (by omega)
       have z1 := HT.out.cb.cells 1 (by omega)
       have z2 := HT.out.cb.cells 2 (by omega)
       have z3 := HT.out.cb.cells 3 (by omega)
       have z4 := HT.out.cb.cells 4 (by omega)
       have z5 := HT.out.cb.cells 5 (by omega)
       unfold covU at z0 z1 z2 z3 z4 z5
       have hzc := HT.out.cb.lt
       have t1 : (0 : Int) < ((t.length + 1 : Nat) : Int) := by omega
       cases hc : chas (tops L) x.xs
       ·have HLQ := Lib.hid hl
        have HCX := Lib.hid hc
        rw [hc] at HCH
        clear hl hc hd HS
        generalize x.xs.length = xl at *
        go_wp2_with fail
        clear hix
        have ge6 := aft_cell hz e6
        have gz0 := aft_cell hzc z0
        have gz1 := aft_cell hzc z1
        have gz2 := aft_cell hzc z2
        have gz3 := aft_cell hzc z3
        have gz4 := aft_cell hzc z4
        have gz5 := aft_cell hzc z5
        have ne := aft_some wr
        refine wp_region_aft (by kernel_rfl) (by kernel_rfl) ?_
        repeat (first | go_big_quiet_step (first | (go_at_call 177; exact aft_of (HCH.out _))))
        refine wpQuiet_nil ?_
        intro wq hwq
        have HT2 := Lib.hid (HT.out.below hwq)
        clear hwq ne HT ge6 gz0 gz1 gz2 gz3 gz4 gz5 z0 z1 z2 z3 z4 z5 e0 e1 e2 e3 e4 e5 e6 HCH hzc hz
        have lc := HT2.out.lb.cells q hq'
        have lf := HT2.out.lb.nf
        by_cases hC : C q = 1
        ·have HTW : Hid (IsWs w1 (some ⟨bb, oo, none⟩) t) := by
          have h1 := HT2.out.ws q hq'
          rw [hP, HLQ.out] at h1
          have h2 := HT2.out.le q hq'
          rw [HLQ.out] at h2
          have h3 := isWs_tail h1 h2
          rw [if_pos hC] at h3
          exact h3
         have HTG : Hid (∀ y ∈ t, tagOkB y.c y.s y.q = true) := fun y hy => (HT2.out.few q hq' y (by rw [HLQ.out]; exact List.mem_cons_of_mem _ hy)).2.1
         have HKW : Hid (Below w1.heap.size w1 (wq.setCell ⟨w1.heap.size, q, none⟩ (.slice (some ⟨bb, oo, none⟩) t.length 0))) := HT2.out.keep.setCell (p := ⟨w1.heap.size, q, none⟩) (Nat.le_refl _) _
         have HFC := Lib.hid (firstWord_any (some ⟨bb, oo, none⟩) t.length 0 t _ rfl (HTW.out.below HKW.out) HTG.out)
         go_wp2_with fail
         refine HFC.out.mono ?_
         rintro e w3 ⟨rfl, hb⟩
         have HST := Lib.hid (HT2.out.step HR.out HU.out HV.out hq' hP HLQ.out HCX.out (pa := (some ⟨bb, oo, none⟩)) (c' := 0) (by rw [if_pos hC]) (by rw [hC]) hb (Nat.le_refl _) (Nat.le_succ _) (by omega))
         have HC3 := (HT2.out.cb.other (B' := w1.heap.size) (by omega) q (.slice (some ⟨bb, oo, none⟩) t.length 0)).below hb
         have y0 := HC3.cells q hq'
         have y1 := HC3.nf
         clear HC3 hb HT2 HFC HKW HTW HTG lc lf
         have hlt : lenSum (w3.setCell ⟨w1.heap.size + 1, q, none⟩ (.int .u64 (headW t))) w1.heap.size < lenSum wo w1.heap.size := by
          rw [HME.out, lenSum_eq HST.out.lb.cells]
          refine lenSum_less (L := L) hq' ?_ fun k hk => ?_
          ·unfold tailL
           rw [if_pos rfl, HLQ.out]
           simp
          ·unfold tailL
           rw [if_neg hk]
         generalize headW t = ht at *
         go_wp2
         exact ⟨⟨_, _, _, HST⟩, hlt⟩
        ·have HTW : Hid (IsWs w1 (some ⟨bb, oo + 7, none⟩) t) := by
          have h1 := HT2.out.ws q hq'
          rw [hP, HLQ.out] at h1
          have h2 := HT2.out.le q hq'
          rw [HLQ.out] at h2
          have h3 := isWs_tail h1 h2
          rw [if_neg hC] at h3
          exact h3
         have HTG : Hid (∀ y ∈ t, tagOkB y.c y.s y.q = true) := fun y hy => (HT2.out.few q hq' y (by rw [HLQ.out]; exact List.mem_cons_of_mem _ hy)).2.1
         have HKW : Hid (Below w1.heap.size w1 (wq.setCell ⟨w1.heap.size, q, none⟩ (.slice (some ⟨bb, oo + 7, none⟩) t.length (C q - 1)))) := HT2.out.keep.setCell (p := ⟨w1.heap.size, q, none⟩) (Nat.le_refl _) _
         have HFC := Lib.hid (firstWord_any (some ⟨bb, oo + 7, none⟩) t.length (C q - 1) t _ rfl (HTW.out.below HKW.out) HTG.out)
         go_wp2_with fail
         refine HFC.out.mono ?_
         rintro e w3 ⟨rfl, hb⟩
         have HST := Lib.hid (HT2.out.step HR.out HU.out HV.out hq' hP HLQ.out HCX.out (pa := (some ⟨bb, oo + 7, none⟩)) (c' := (C q - 1)) (by rw [if_neg hC]) rfl hb (Nat.le_refl _) (Nat.le_succ _) (by omega))
         have HC3 := (HT2.out.cb.other (B' := w1.heap.size) (by omega) q (.slice (some ⟨bb, oo + 7, none⟩) t.length (C q - 1))).below hb
         have y0 := HC3.cells q hq'
         have y1 := HC3.nf
         clear HC3 hb HT2 HFC HKW HTW HTG lc lf
         have hlt : lenSum (w3.setCell ⟨w1.heap.size + 1, q, none⟩ (.int .u64 (headW t))) w1.heap.size < lenSum wo w1.heap.size := by
          rw [HME.out, lenSum_eq HST.out.lb.cells]
          refine lenSum_less (L := L) hq' ?_ fun k hk => ?_
          ·unfold tailL
           rw [if_pos rfl, HLQ.out]
           simp
          ·unfold tailL
           rw [if_neg hk]
         generalize headW t = ht at *
         go_wp2
         exact ⟨⟨_, _, _, HST⟩, hlt⟩
       ·have HS2 := Lib.hid (settled_next HS.out fun y t' h => by rw [hl] at h; injection h with h1 h2; rw [← h1]; exact hc)
        rw [hc] at HCH
        clear hl hc hd HS
        generalize x.xs.length = xl at *
        go_wp2_with fail
        clear hix
        have ge6 := aft_cell hz e6
        have gz0 := aft_cell hzc z0
        have gz1 := aft_cell hzc z1
        have gz2 := aft_cell hzc z2
        have gz3 := aft_cell hzc z3
        have gz4 := aft_cell hzc z4
        have gz5 := aft_cell hzc z5
        have ne := aft_some wr
        refine wp_region_aft (by kernel_rfl) (by kernel_rfl) ?_
        repeat (first | go_big_quiet_step (first | (go_at_call 177; exact aft_of (HCH.out _))))
        refine wpQuiet_nil ?_
        intro wq hwq
        have HT2 := Lib.hid (HT.out.below hwq)
        clear hwq ne HT ge6 gz0 gz1 gz2 gz3 gz4 gz5 z0 z1 z2 z3 z4 z5 e0 e1 e2 e3 e4 e5 e6 HCH hzc hz
        go_wp2
        exact ⟨⟨q + 1, by omega, by go_num, HS2, HT2⟩, by simp [intOf]; omega⟩
     ·have hqq : q = 6 := by omega
      subst hqq
      have z0 := HT.out.cb.cells 0 (by omega)
      have z1 := HT.out.cb.cells 1 (by omega)
      have z2 := HT.out.cb.cells 2 (by omega)
      have z3 := HT.out.cb.cells 3 (by omega)
      have z4 := HT.out.cb.cells 4 (by omega)
      have z5 := HT.out.cb.cells 5 (by omega)
      unfold covU at z0 z1 z2 z3 z4 z5
      have HQ := HQ1.out.below HT.out.keep
      have r0 := HQ.cells 0 (by omega)
      have r1 := HQ.cells 1 (by omega)
      have r2 := HQ.cells 2 (by omega)
      have r3 := HQ.cells 3 (by omega)
      have r4 := HQ.cells 4 (by omega)
      have r5 := HQ.cells 5 (by omega)
      have rf := HQ.nf
      have HDN := Lib.hid (HT.out.rows.done HR.out HU.out HV.out HS.out)
      have HBB := Lib.hid (below_step HB1.out HB1.out.size HT.out.keep)
      clear HQ
      go_wp2
      try rw [Exit.noGoto_ret]
      refine bodyPost_ret (v := covV (tops L)) (by simp [results, Tryz.results176, go_sem, r0, r1, r2, r3, r4, r5]) rfl ⟨tops L, rfl, HDN.out, ?_⟩
      exact (((((HBB.out.setCell (by simp) _).setCell (by simp) _).setCell (by simp) _).setCell (by simp) _).setCell (by simp) _).setCell (by simp) _
end Go.Proofs.YteladgfdedlmjaaGreatDoor
namespace Go.Proofs.YteladgfdedlmjaaGreatDoor
open Go.ChangeShapes Go.WideShapes Go.ChangeAt Go.RowKit Go.Joins
attribute [local go_sem ↓] Go.wp_at_zero Go.wp_at_succ
structure BitW (w : World) (g N : Nat) (F : Nat → Nat) : Prop where
 lt : g < w.heap.size
 cells : CellsAre w g N (fun j => .int .u64 (F j : Int))
 nf : ∀ o, w.frozen? ⟨g, o, none⟩ = false
 small : ∀ j, F j < 18446744073709551616
theorem bit_at (x c : Nat) (hx : x < 18446744073709551616) : (bits .and .u64 ((x : Int) / 2 ^ c) 1 == (1 : Int)) = x.testBit c := by
 have h0 : (x : Int) / 2 ^ c = ((x / 2 ^ c : Nat) : Int) := by simp
 have h1 : x / 2 ^ c ≤ x := Nat.div_le_self _ _
 rw [h0]
 generalize hy : x / 2 ^ c = y at *
 rw [u64_and _ _ (by omega) (by omega) (by omega) (by omega)]
 simp only [Int.toNat_natCast, show (1 : Int).toNat = 1 from rfl]
 rw [Nat.and_one_is_mod, Nat.testBit_eq_decide_div_mod_eq, hy]
 rw [Bool.eq_iff_iff]
 simp
 omega
set_option maxHeartbeats 1000000 in
theorem placeHas_raw (g N c a b : Nat) (z : Int) (F : Nat → Nat) (w : World) (hF : BitW w g N F) (ha : a < N) (hz0 : 0 ≤ z) (hz1 : z ≤ 1099511627776) (d1 : z / 64 = a) (d2 : z % 64 = b) :
  Calls Tryz.prog 175 #[.slice (some ⟨g, 0, none⟩) N c, .int .i64 z] w fun e w' => e = .returned (.bool ((F a).testBit b)) ∧ w' = w := by
 have c0 := hF.cells a ha
 have HB := Lib.hid (bit_at (F a) b (hF.small a))
 have i0 : (0 : Int) ≤ (a : Int) := by omega
 have i1 : (a : Int) < (N : Int) := by omega
 clear hF
 generalize (F a).testBit b = tb at *
 go_enter Tryz.func175, Tryz.ntmps175
 go_wp2
 go_ret
 exact ⟨ret_bool HB.out, rfl⟩
theorem placeHas_any (g N c i : Nat) (F : Nat → Nat) (w : World) (hF : BitW w g N F) (hi : i ≤ 1048576) (hN : i / 64 < N) :
  Calls Tryz.prog 175 #[.slice (some ⟨g, 0, none⟩) N c, .int .i64 (i : Int)] w fun e w' => e = .returned (.bool ((F (i / 64)).testBit (i % 64))) ∧ w' = w :=
 placeHas_raw g N c (i / 64) (i % 64) (i : Int) F w hF hN (by omega) (by omega) (by omega) (by omega)
set_option maxHeartbeats 2000000 in
theorem placeAdd_raw (g N c a b : Nat) (z : Int) (F : Nat → Nat) (w : World) (hF : BitW w g N F) (ha : a < N) (hb : b < 64) (hz0 : 0 ≤ z) (hz1 : z ≤ 1099511627776) (d1 : z / 64 = a) (d2 : z % 64 = b) :
  Calls Tryz.prog 178 #[.slice (some ⟨g, 0, none⟩) N c, .int .i64 z] w fun e w' => e = .returned (.tuple #[]) ∧ BitW w' g N (updF F a (F a ||| 2 ^ b)) ∧ w.grownBy w' (some g) := by
 have c0 := hF.cells a ha
 have nf := hF.nf
 have i0 : (0 : Int) ≤ (a : Int) := by omega
 have i1 : (a : Int) < (N : Int) := by omega
 have HF := Lib.hid hF
 have t1 : IntKind.i64.wrap (z.tdiv 64) = (a : Int) := by
  rw [← d1, Int.tdiv_eq_ediv_of_nonneg hz0]
  exact IntWalk.i64_in _ (by omega)
 have t2 : z.tmod 64 = (b : Int) := by rw [← d2, Int.tmod_eq_emod_of_nonneg hz0]
 have hsh : IntKind.u64.wrap ((2 : Int) ^ b) = ((2 ^ b : Nat) : Int) := by
  have h2 : (2 : Nat) ^ b < 2 ^ 64 := Nat.pow_lt_pow_right (by omega) hb
  have h3 : (2 : Int) ^ b = ((2 ^ b : Nat) : Int) := by simp
  rw [h3]
  generalize (2 : Nat) ^ b = p at *
  rw [IntWalk.u64_in _ (by omega)]
 clear hF
 go_enter Tryz.func178, Tryz.ntmps178
 go_wp2_with fail
 refine wp_region_slots 10 [[(0, false)], [(1, false)], [(5, true)], [(4, true), (6, true)], [(7, true)], [(1, false)], [(9, true)], [(10, true)], [(8, true), (11, true)], [(4, true), (6, true)]] (fun w' => w' = w.drew) (fun w w' => w' = w) (by kernel_rfl) (by kernel_rfl) (by rfl) rfl (fun w w' h1 h2 => h2.trans h1) ?_
 iterate 10 (apply slot_eq; · (rintro ρ w' ⟨p1, p2, p3⟩ rfl hn; simp at hn; go_simp; exact ⟨rfl, rfl⟩))
 refine slot_end ?_
 rintro tv w4 rfl hF
 simp at hF
 obtain ⟨f13, f12, f11, f10, f9, f8, f7, f6, f5, f4⟩ := hF
 have h2 : (2 : Nat) ^ b < 2 ^ 64 := Nat.pow_lt_pow_right (by omega) hb
 have ho : bits .or .u64 ((F a : Nat) : Int) (((2 ^ b : Nat) : Int)) = ((F a ||| 2 ^ b : Nat) : Int) := u64_or_nat _ _ (HF.out.small a) h2
 have hw : F a ||| 2 ^ b < 2 ^ 64 := Nat.or_lt_two_pow (HF.out.small a) h2
 have HW : Hid (BitW (w.setCell ⟨g, a, none⟩ (.int .u64 ((F a ||| 2 ^ b : Nat) : Int))).drew g N (updF F a (F a ||| 2 ^ b))) := by
  have hd : CellsAre (w.setCell ⟨g, a, none⟩ (.int .u64 ((F a ||| 2 ^ b : Nat) : Int))).drew g N (fun j => if j = a then .int .u64 ((F a ||| 2 ^ b : Nat) : Int) else .int .u64 (F j : Int)) := HF.out.cells.set ha _
  refine ⟨by simpa using HF.out.lt, hd.congr fun o _ => ?_, fun o => ?_, fun j => ?_⟩
  ·unfold updF
   by_cases e : o = a
   ·rw [if_pos e, if_pos e]
   ·rw [if_neg e, if_neg e]
  ·have := HF.out.nf o
   simpa using this
  ·unfold updF
   by_cases e : j = a
   ·rw [if_pos e]
    exact hw
   ·rw [if_neg e]
    exact HF.out.small j
 have HG : Hid (w.grownBy (w.setCell ⟨g, a, none⟩ (.int .u64 ((F a ||| 2 ^ b : Nat) : Int))).drew (some g)) := by
  have h := grown_set w g a (.int .u64 ((F a ||| 2 ^ b : Nat) : Int))
  exact Lib.hid ⟨rfl, rfl, rfl, h.size, h.block⟩
 have e3 : (2 : Int) ^ b = ((2 ^ b : Nat) : Int) := by simp
 rw [e3, ho] at f12
 rw [e3] at f11
 clear h2 ho hw hsh
 simp only [List.take_succ_cons, List.take_zero, List.drop_succ_cons, List.drop_zero, putAll, f13, f12, f11, f10, f9, f8, f7, f6, f5, f4]
 clear f13 f12 f11 f10 f9 f8 f7 f6 f5 f4
 simp only [Act.put, List.setIfInBounds_toArray, List.set_cons_succ, List.set_cons_zero]
 go_wp2
 exact bodyPost_end (v := .tuple #[]) (by simp [results, Tryz.results178]) rfl ⟨rfl, HW.out, HG.out⟩
def addBit (F : Nat → Nat) (i : Nat) : Nat → Nat := updF F (i / 64) (F (i / 64) ||| 2 ^ (i % 64))
def bitOf (F : Nat → Nat) (j : Nat) : Bool := (F (j / 64)).testBit (j % 64)
theorem bit_add (F : Nat → Nat) (i j : Nat) : bitOf (addBit F i) j = (decide (j = i) || bitOf F j) := by
 unfold bitOf addBit updF
 by_cases e : j / 64 = i / 64
 ·rw [if_pos e, e, Nat.testBit_or, Nat.testBit_two_pow]
  by_cases e2 : j = i
  ·subst e2
   simp
  ·have : ¬ i % 64 = j % 64 := by omega
   simp [this, e2]
 ·rw [if_neg e]
  have : j ≠ i := fun h => e (by rw [h])
  simp [this]
theorem placeAdd_any (g N c i : Nat) (F : Nat → Nat) (w : World) (hF : BitW w g N F) (hi : i ≤ 1048576) (hN : i / 64 < N) :
  Calls Tryz.prog 178 #[.slice (some ⟨g, 0, none⟩) N c, .int .i64 (i : Int)] w fun e w' => e = .returned (.tuple #[]) ∧ BitW w' g N (addBit F i) ∧ w.grownBy w' (some g) :=
 placeAdd_raw g N c (i / 64) (i % 64) (i : Int) F w hF hN (Nat.mod_lt _ (by omega)) (by omega) (by omega) (by omega) (by omega)
theorem BitW.of_block {w w' : World} {g N : Nat} {F : Nat → Nat} (h : BitW w g N F) (hs : w.heap.size ≤ w'.heap.size) (hb : w'.heap[g]? = w.heap[g]?) : BitW w' g N F :=
 ⟨Nat.lt_of_lt_of_le h.lt hs, h.cells.of_block hb, fun o => (World.frozen?_of_block (a := ⟨g, o, none⟩) hb).trans (h.nf o), h.small⟩
theorem BitW.below {w w' : World} {g N : Nat} {F : Nat → Nat} (h : BitW w g N F) (hb : Below w.heap.size w w') : BitW w' g N F := h.of_block hb.size (hb.block g h.lt)
theorem infoU64 : (Tryz.prog.info? 124).map (fun i => (i.zero, i.size, i.bytes)) = some (some (.int .u64 0), 1, 8) := by kernel_rfl
theorem run_make_words (n : Nat) (hn : n ≤ 1048576) (w : World) :
  (Instr.makeSlice 179 (.int .i64 (n : Int)) (.int .i64 (n : Int))).run Tryz.prog w = .ok (.slice (some ⟨w.heap.size, 0, none⟩) n n) (w.alloc (.cells (madeCells #[.int .u64 0] n) 124)) := by
 obtain ⟨i, hi, hzz⟩ := Option.map_eq_some_iff.1 infoU64
 simp only [Prod.mk.injEq] at hzz
 obtain ⟨hz, hs, hb⟩ := hzz
 have hr := run_make (P := Tryz.prog) w 179 124 i _ Tryz.underlying179 hi hz .i64 .i64 n n (by omega) (Int.le_refl _) (by rw [hb]; omega) (by omega)
 simp only [Int.toNat_natCast, hs, Nat.mul_one] at hr
 exact hr
theorem words_made (w : World) (n t : Nat) : BitW (w.alloc (.cells (madeCells #[.int .u64 0] n) t)) w.heap.size n (fun _ => 0) := by
 refine ⟨by simp, fun o ho => ?_, fun o => frozen_of_row _ _ o _ _ (heap_alloc_new w _), fun _ => by omega⟩
 rw [cell_of_row _ _ o _ _ (0, 0) (heap_alloc_new w _)]
 simp [madeCells, ho, Nat.mod_one]
end Go.Proofs.YteladgfdedlmjaaGreatDoor
namespace Go.Proofs.YteladgfdedlmjaaGreatDoor
open Go.ChangeShapes Go.WideShapes Go.ChangeAt Go.RowKit Go.Joins
set_option maxRecDepth 100000
attribute [local go_sem ↓] Go.wp_at_zero Go.wp_at_succ
set_option maxHeartbeats 8000000 in
theorem writesAt_any (a : Option Addr) (n cap g N c : Nat) (ws : List Wr) (F : Nat → Nat) (w : World) (hn : ws.length = n) (hm : n ≤ 1048576) (hx : Few ws) (hi : IsWs w a ws) (hF : BitW w g N F) (hN : n ≤ N * 64) :
  Calls Tryz.prog 156 #[.slice a n cap, .slice (some ⟨g, 0, none⟩) N c] w fun e w' => ∃ v es, e = .returned v ∧ es.map (·.x) = thoseTo ws (bitOf F) true n ∧ RowG w' w.heap.size v es ∧ Below w.heap.size w w' := by
 have HI := Lib.hid hi
 have HN := Lib.hid hn
 have HX := Lib.hid hx
 have HF := Lib.hid hF
 clear hi hn hx hF
 obtain ⟨i0, hi0, hx0⟩ := Option.map_eq_some_iff.1 infoWr
 simp only [Prod.mk.injEq] at hx0
 have HI0 := Lib.hid hi0
 have HX0 := Lib.hid hx0
 clear hi0 hx0
 go_enter Tryz.func156, Tryz.ntmps156
 go_wp2
 go_loopw [5, 10] (fun t i wr => ∃ (k : Nat) (v : Value) (es : List EnG), k ≤ n ∧ i = .int .i64 k ∧ v = t ∧ Hid (es.map (·.x) = thoseTo ws (bitOf F) true k) ∧ Hid (RowG wr w.heap.size v es) ∧ Hid (Below w.heap.size w wr)) (fun _ i _ => n - (intOf i).toNat)
 case atStart => exact ⟨0, _, [], Nat.zero_le _, rfl, rfl, rfl, rowG_nil _ _, Below.refl _ _⟩
 case round =>
  obtain ⟨k, v, es, hk, rfl, rfl, HE, HR, HB⟩ := hrel
  have hln : es.length ≤ k := by
   have h1 := those_len ws (bitOf F) true k
   rw [← HE.out, List.length_map] at h1
   exact h1
  by_cases hk' : k < n
  ·obtain ⟨bb, oo, ad, cq, rfl, hz, ⟨e0, e1, e2, e3, e4, e5, e6⟩, hd⟩ := HI.out.at HB.out HN.out hk'
   have i1 : (0 : Int) ≤ (k : Int) := by omega
   have i2 : (k : Int) < (n : Int) := by omega
   have hxl := HX.out k (by rw [HN.out]; exact hk')
   have HD := Lib.hid hd
   have hbk : (F (k / 64)).testBit (k % 64) = bitOf F k := rfl
   have HPH : Hid (∀ W, Below wr.heap.size wr W → Calls Tryz.prog 175 #[.slice (some ⟨g, 0, none⟩) N c, .int .i64 (k : Int)] W fun e w' => e = .returned (.bool (bitOf F k)) ∧ w' = W) := fun W hW => placeHas_any g N c k F W ((HF.out.below HB.out).below hW) (by omega) (by omega)
   have HTY : Hid (bitOf F k = true → thoseTo ws (bitOf F) true (k + 1) = thoseTo ws (bitOf F) true k ++ [ws.getD k wz]) := fun h => those_yes h
   have HTN : Hid (bitOf F k = false → thoseTo ws (bitOf F) true (k + 1) = thoseTo ws (bitOf F) true k) := fun h => those_no (by rw [h]; simp)
   clear hd HI hbk
   generalize ws.getD k wz = x at *
   obtain ⟨xk, xc, xs', xq, xv, xd, xx⟩ := x
   simp only at e0 e1 e2 e3 e4 e5 e6 HD hxl HTY
   have HBX : Hid (Below wr.heap.size wr (wr.alloc (.cells #[.int .i64 xk, .int .i64 xc, .int .i64 xs', .int .i64 xq, .int .i64 xv, .bool xd, .slice ad xx.length cq] 33))) := (Below.refl _ _).alloc (Nat.le_refl _) _
   have HR1 := Lib.hid (HR.out.below HBX.out)
   have HB1 := Lib.hid (below_step HB.out HB.out.size HBX.out)
   cases hb : bitOf F k
   ·have HE1 : Hid (es.map (·.x) = thoseTo ws (bitOf F) true (k + 1)) := HE.out.trans (HTN.out hb).symm
    rw [hb] at HPH
    clear hb HTY HTN HE HR HB
    go_wp2_with fail
    refine (HPH.out _ HBX.out).mono ?_
    rintro e w1 ⟨rfl, rfl⟩
    go_wp2
    exact ⟨⟨k + 1, _, es, by omega, by go_num, rfl, HE1, HR1, HB1⟩, by simp [intOf]; omega⟩
   ·have HTE := Lib.hid (HTY.out hb)
    rw [hb] at HPH
    clear hb HTY HTN
    have hwr : w.heap.size ≤ wr.heap.size := HB.out.size
    go_wp2_with fail
    refine (HPH.out _ HBX.out).mono ?_
    rintro e w1 ⟨rfl, rfl⟩
    go_wp2_with fail
    refine (icopy_any ⟨xk, xc, xs', xq, xv, xd, xx⟩ ad cq _ hxl (HD.out.below HBX.out)).mono ?_
    rintro e w2 ⟨a2, g2, cp2, rfl, hg, hb⟩
    have HB2 : Hid (Below w.heap.size w w2) := below_step HB1.out HB1.out.size hb
    have HG : Hid (FreshDeps wr.heap.size w2 a2 g2 xx) := hg.mono HBX.out.size
    have HR2 : Hid (RowG w2 w.heap.size _ es) := HR1.out.below hb
    have HAP : Hid (∀ d ∈ es, 0 < d.x.xs.length → 0 < xx.length → d.g ≠ g2) := fun d hd hp hq => by
     have h1 := ((HR.out.deps d hd).1 hp).2.2.1
     have h2 := (HG.out hq).2.1
     omega
    have HV : Hid (0 < xx.length → v.ownBlock ≠ some g2) := fun hq e => by
     have h1 := (HR.out.own.lt g2 e).2
     have h2 := (HG.out hq).2.1
     omega
    clear hb hg HB1 HBX HD HR1 HR HB HPH
    have HBC : Hid (Below w2.heap.size w2 (w2.alloc (.cells #[.int .i64 xk, .int .i64 xc, .int .i64 xs', .int .i64 xq, .int .i64 xv, .bool xd, .slice a2 xx.length cp2] 33))) := (Below.refl _ _).alloc (Nat.le_refl _) _
    have HRC := Lib.hid (HR2.out.below HBC.out)
    have hsz : w.heap.size ≤ w2.heap.size := HB2.out.size
    go_wp2_with (at_builtin; refine wpList_append_lies _ (by rfl) _ _ _ (by rfl) w.heap.size 33 i0 (wrV 0 0 0 0 0 false none 0 0) 7 72 Tryz.underlying24 HI0.out HX0.out.1 HX0.out.2.1 HX0.out.2.2 (by rfl) (by omega) v es.length (es.flatMap wrValsG) (by rfl) HRC.out.own ⟨w2.heap.size, 0, none⟩ 1 1 (wrValsG ⟨⟨xk, xc, xs', xq, xv, xd, xx⟩, a2, g2, cp2⟩) (by rfl) (by rfl) (oneG_cells w2 _ ⟨⟨xk, xc, xs', xq, xv, xd, xx⟩, a2, g2, cp2⟩) (by simpa using valsG_one [⟨⟨xk, xc, xs', xq, xv, xd, xx⟩, a2, g2, cp2⟩]) (by omega) (by unfold maxLen; omega) (by omega) (by simp; omega) _ rfl ?_; intro g3 cp3 w5 hown hgrow hg3 _; refine Hid.out ?_)
    refine Lib.hid ?_
    have HB5 : Hid (Below w.heap.size w w5) := (HB2.out.alloc hsz _).grown hgrow (by simp; omega) fun j hj => (HR2.out.own.lt j hj).1
    have HR5 : Hid (RowG w5 w.heap.size (.slice (some ⟨g3, 0, none⟩) (es.length + 1) cp3) (es ++ [⟨⟨xk, xc, xs', xq, xv, xd, xx⟩, a2, g2, cp2⟩])) :=
     HRC.out.more ((HG.out.below HBC.out).mono hwr) HV.out HAP.out hown hgrow hg3
    have HE5 : Hid ((es ++ [(⟨⟨xk, xc, xs', xq, xv, xd, xx⟩, a2, g2, cp2⟩ : EnG)]).map (·.x) = thoseTo ws (bitOf F) true (k + 1)) := by
     rw [HTE.out, List.map_append, HE.out]
     exact Lib.hid rfl
    clear hown hgrow HRC HBC
    go_wp2
    exact ⟨⟨k + 1, _, _, by omega, by go_num, rfl, HE5, HR5, HB5⟩, by simp [intOf]; omega⟩
  ·have hkk : k = n := by omega
   subst hkk
   go_wp2
   go_ret
   exact ⟨_, es, rfl, HE.out, HR.out, HB.out⟩
end Go.Proofs.YteladgfdedlmjaaGreatDoor
namespace Go.Proofs.YteladgfdedlmjaaGreatDoor
open Go.ChangeShapes Go.WideShapes Go.ChangeAt Go.RowKit Go.Joins
set_option maxRecDepth 100000
attribute [local go_sem ↓] Go.wp_at_zero Go.wp_at_succ
set_option maxHeartbeats 400000 in
theorem fitPlaces_any (a b : Option Addr) (n m N cap cap' : Nat) (us vs : List Wr) (w : World) (hn : us.length = n) (hm : vs.length = m) (hs : n + m ≤ 1048576) (hx : Few us) (hy : Few vs) (hi : IsWs w a us) (hj : IsWs w b vs) (hr : Rise us) (hu : ∀ x ∈ us, okW x = true) (hv : ∀ x ∈ vs, okW x = true) (hN : N = (m + 63) / 64) :
  Calls Tryz.prog 157 #[.slice a n cap, .slice b m cap'] w fun e w' => ∃ g F, e = .returned (.slice (some ⟨g, 0, none⟩) N N) ∧ BitW w' g N F ∧ (∀ j, j < m → bitOf F j = fixS us vs j) ∧ Below w.heap.size w w' := by
 have HC := Lib.hid (widest_any a b n m cap cap' us vs w hn hm hs hx hy hi hj hr hu hv)
 have HJ := Lib.hid hj
 have HM := Lib.hid hm
 have HY := Lib.hid hy
 have HV := Lib.hid hv
 clear hi hj hn hm hx hy hr hu hv
 have dN : ((m : Int) + 64 - 1) / 64 = (N : Int) := by omega
 have hmk : ∀ W, (Instr.makeSlice 179 (.int .i64 (((m : Int) + 64 - 1) / 64)) (.int .i64 (((m : Int) + 64 - 1) / 64))).run Tryz.prog W = .ok (.slice (some ⟨W.heap.size, 0, none⟩) N N) (W.alloc (.cells (madeCells #[.int .u64 0] N) 124)) := fun W => by
  rw [dN]
  exact run_make_words N (by omega) W
 have n64 : m ≤ N * 64 := by omega
 clear dN hN
 go_enter Tryz.func157, Tryz.ntmps157
 go_wp2_with fail
 refine HC.out.mono ?_
 rintro e w1 ⟨c, rfl, hc, hb⟩
 have HB1 := Lib.hid hb
 have HCX := Lib.hid hc
 clear hb hc HC
 have HCB : Hid (Box6 ((w1.alloc (.cells (covCells c) 211)).alloc (.cells (madeCells #[.int .u64 0] N) 124)) w1.heap.size (covU c)) := (box6_new w1 _ _ _ rfl).below ((Below.refl _ _).alloc (Nat.le_refl _) _)
 have HW0 : Hid (BitW ((w1.alloc (.cells (covCells c) 211)).alloc (.cells (madeCells #[.int .u64 0] N) 124)) (w1.heap.size + 1) N (fun _ => 0)) := by
  have e : (w1.alloc (.cells (covCells c) 211)).heap.size = w1.heap.size + 1 := by simp
  rw [← e]
  exact words_made _ N 124
 have HB2 : Hid (Below w.heap.size w ((w1.alloc (.cells (covCells c) 211)).alloc (.cells (madeCells #[.int .u64 0] N) 124))) := (HB1.out.alloc HB1.out.size _).alloc (by have := HB1.out.size; simp; omega) _
 have hw1 : w.heap.size ≤ w1.heap.size := HB1.out.size
 go_wp2
 clear hmk
 go_loopw [20] (fun i wr => ∃ (k : Nat) (F : Nat → Nat), k ≤ m ∧ i = .int .i64 k ∧ Hid (∀ j, bitOf F j = (decide (j < k) && chas c (vs.getD j wz).xs)) ∧ Hid (BitW wr (w1.heap.size + 1) N F) ∧ Hid (Box6 wr w1.heap.size (covU c)) ∧ Hid (Below w.heap.size w wr)) (fun i _ => m - (intOf i).toNat)
 case atStart => exact ⟨0, fun _ => 0, Nat.zero_le _, rfl, fun j => by simp [bitOf], HW0, HCB, HB2⟩
 case round =>
  clear HW0 HCB HB2
  obtain ⟨k, F, hk, rfl, HE, HW, HCB, HB⟩ := hrel
  by_cases hk' : k < m
  ·obtain ⟨bb, oo, ad, cq, rfl, hz, ⟨e0, e1, e2, e3, e4, e5, e6⟩, hd⟩ := HJ.out.at HB.out HM.out hk'
   have i1 : (0 : Int) ≤ (k : Int) := by omega
   have i2 : (k : Int) < (m : Int) := by omega
   have hkm : k < vs.length := by rw [HM.out]; exact hk'
   have HCH : Hid (∀ W, Below wr.heap.size wr W → Calls Tryz.prog 177 #[covV c, .slice ad (vs.getD k wz).xs.length cq] W fun e w' => e = .returned (.bool (chas c (vs.getD k wz).xs)) ∧ Below W.heap.size W w') := fun W hW => covHas_any c ad _ cq _ W rfl (HY.out k hkm) (hd.below hW) (okW_parts (HV.out _ (getV_mem hkm))).2.2
   have HEY : Hid (chas c (vs.getD k wz).xs = true → ∀ j, bitOf (addBit F k) j = (decide (j < k + 1) && chas c (vs.getD j wz).xs)) := fun h j => by
    rw [bit_add, HE.out j]
    by_cases e : j = k
    ·rw [e, h]
     simp
    ·have : (decide (j < k + 1)) = decide (j < k) := by simp only [decide_eq_decide]; omega
     rw [this, decide_eq_false e, Bool.false_or]
   have HEN : Hid (chas c (vs.getD k wz).xs = false → ∀ j, bitOf F j = (decide (j < k + 1) && chas c (vs.getD j wz).xs)) := fun h j => by
    rw [HE.out j]
    by_cases e : j = k
    ·rw [e, h]
     simp
    ·have : (decide (j < k + 1)) = decide (j < k) := by simp only [decide_eq_decide]; omega
     rw [this]
   clear hd HJ HE
   have z0 := HCB.out.cells 0 (by omega)
   have z1 := HCB.out.cells 1 (by omega)
   have z2 := HCB.out.cells 2 (by omega)
   have z3 := HCB.out.cells 3 (by omega)
   have z4 := HCB.out.cells 4 (by omega)
   have z5 := HCB.out.cells 5 (by omega)
   unfold covU at z0 z1 z2 z3 z4 z5
   have hzc := HCB.out.lt
   generalize vs.getD k wz = x at *
   obtain ⟨xk, xc, xs', xq, xv, xd, xx⟩ := x
   simp only at e0 e1 e2 e3 e4 e5 e6 HCH HEY HEN
   have HBX : Hid (Below wr.heap.size wr (wr.alloc (.cells #[.int .i64 xk, .int .i64 xc, .int .i64 xs', .int .i64 xq, .int .i64 xv, .bool xd, .slice ad xx.length cq] 33))) := (Below.refl _ _).alloc (Nat.le_refl _) _
   replace z0 := held_cell HBX.out z0 hzc
   replace z1 := held_cell HBX.out z1 hzc
   replace z2 := held_cell HBX.out z2 hzc
   replace z3 := held_cell HBX.out z3 hzc
   replace z4 := held_cell HBX.out z4 hzc
   replace z5 := held_cell HBX.out z5 hzc
   cases hc : chas c xx
   ·have HE2 := Lib.hid (HEN.out hc)
    rw [hc] at HCH
    clear hc HEN HEY
    go_wp2_with fail
    refine (HCH.out _ HBX.out).mono ?_
    rintro e w2 ⟨rfl, hb⟩
    have hb2 := below_step HBX.out HBX.out.size hb
    have HW2 := Lib.hid (HW.out.below hb2)
    have HC2 := Lib.hid (HCB.out.below hb2)
    have HB2 := Lib.hid (below_step HB.out HB.out.size hb2)
    clear hb hb2 HW HCB HB HCH HBX z0 z1 z2 z3 z4 z5
    go_wp2
    exact ⟨⟨k + 1, F, by omega, by go_num, HE2, HW2, HC2, HB2⟩, by simp [intOf]; omega⟩
   ·have HE2 := Lib.hid (HEY.out hc)
    rw [hc] at HCH
    clear hc HEN HEY
    go_wp2_with fail
    refine (HCH.out _ HBX.out).mono ?_
    rintro e w2 ⟨rfl, hb⟩
    have hb2 := below_step HBX.out HBX.out.size hb
    have HW2 := Lib.hid (HW.out.below hb2)
    have HC2 := Lib.hid (HCB.out.below hb2)
    have HB2 := Lib.hid (below_step HB.out HB.out.size hb2)
    clear hb hb2 HW HCB HB HCH HBX z0 z1 z2 z3 z4 z5
    go_wp2_with fail
    refine (placeAdd_any (w1.heap.size + 1) N N k F _ HW2.out (by omega) (by omega)).mono ?_
    rintro e w3 ⟨rfl, hw, hg⟩
    have HW3 := Lib.hid hw
    have HC3 : Hid (Box6 w3 w1.heap.size (covU c)) := HC2.out.of_block hg.size (hg.block _ HC2.out.lt (by simp))
    have HB3 : Hid (Below w.heap.size w w3) := HB2.out.grown hg HB2.out.size fun b hb => by injection hb with hb; omega
    clear hw hg HW2 HC2 HB2
    go_wp2
    exact ⟨⟨k + 1, _, by omega, by go_num, HE2, HW3, HC3, HB3⟩, by simp [intOf]; omega⟩
  ·have hkk : k = m := by omega
   subst hkk
   have HE2 : Hid (∀ j, j < k → bitOf F j = fixS us vs j) := fun j hj => by
    rw [HE.out j, HCX.out j (by rw [HM.out]; exact hj)]
    simp [hj]
   go_wp2
   go_ret
   exact ⟨_, F, rfl, HW.out, HE2.out, HB.out⟩
end Go.Proofs.YteladgfdedlmjaaGreatDoor
namespace Go.Proofs.YteladgfdedlmjaaGreatDoor
open Go.ChangeShapes Go.WideShapes Go.ChangeAt Go.RowKit Go.Joins
set_option maxRecDepth 100000
attribute [local go_sem ↓] Go.wp_at_zero Go.wp_at_succ
set_option maxHeartbeats 2000000 in
theorem implFitting_any (a b : Option Addr) (n m cap cap' : Nat) (us vs : List Wr) (w : World) (hn : us.length = n) (hm : vs.length = m) (hs : n + m ≤ 1048576) (hx : Few us) (hy : Few vs) (hi : IsWs w a us) (hj : IsWs w b vs) :
  Calls Tryz.prog 123 #[.slice a n cap, .slice b m cap'] w fun e w' => ∃ v es, e = .returned v ∧ es.map (·.x) = fitL us vs true ∧ RowG w' w.heap.size v es ∧ Below w.heap.size w w' := by
 have HI := Lib.hid hi
 have HJ := Lib.hid hj
 have HN := Lib.hid hn
 have HM := Lib.hid hm
 have HX := Lib.hid hx
 have HY := Lib.hid hy
 have HC := Lib.hid (seen_any a b n m cap cap' us vs w hn hm (by omega) (by omega) hx hy hi hj)
 clear hi hj hn hm hx hy
 cases hr : rightB us vs
 ·have HF := Lib.hid (fitL_wrong hr true)
  rw [hr] at HC
  clear hr
  go_enter Tryz.func123, Tryz.ntmps123
  go_wp2_with fail
  refine HC.out.mono ?_
  rintro e w1 ⟨rfl, hb⟩
  have HB1 := Lib.hid hb
  clear hb
  go_wp2
  go_ret
  exact ⟨_, [], rfl, HF.out.symm, rowG_nil _ _, HB1.out⟩
 ·have HF := Lib.hid (fitL_right hr true)
  have HP := Lib.hid (right_parts hr)
  rw [hr] at HC
  clear hr
  obtain ⟨N, hN⟩ : ∃ N, N = (m + 63) / 64 := ⟨_, rfl⟩
  have n64 : m ≤ N * 64 := by omega
  have nN : N ≤ 1048576 := by omega
  have HNN := Lib.hid hN
  clear hN
  go_enter Tryz.func123, Tryz.ntmps123
  go_wp2_with fail
  refine HC.out.mono ?_
  rintro e w1 ⟨rfl, hb⟩
  have HB1 := Lib.hid hb
  clear hb HC
  go_wp2_with fail
  refine (fitPlaces_any a b n m N cap cap' us vs _ HN.out HM.out hs HX.out HY.out (HI.out.below HB1.out) (HJ.out.below HB1.out) HP.out.1 HP.out.2.1 HP.out.2.2 HNN.out).mono ?_
  rintro e w2 ⟨g, F, rfl, hw, hf, hb⟩
  have HB2 := Lib.hid (below_step HB1.out HB1.out.size hb)
  have HW := Lib.hid hw
  have HFX := Lib.hid hf
  clear hb hw hf HB1
  go_wp2_with fail
  refine (writesAt_any b m cap' g N N vs F _ HM.out (by omega) HY.out (HJ.out.below HB2.out) HW.out n64).mono ?_
  rintro e w3 ⟨v, es, rfl, he, hrow, hb⟩
  have HE : Hid (es.map (·.x) = fitL us vs true) := by
   rw [he, HF.out, HM.out]
   exact Lib.hid (those_congr fun j hj => HFX.out j hj)
  have HR := Lib.hid (hrow.mono HB2.out.size)
  have HB3 := Lib.hid (below_step HB2.out HB2.out.size hb)
  clear he hrow hb
  go_wp2
  go_ret
  exact ⟨v, es, rfl, HE.out, HR.out, HB3.out⟩
end Go.Proofs.YteladgfdedlmjaaGreatDoor
namespace Go.Proofs.YteladgfdedlmjaaGreatDoor
open Go.ChangeShapes Go.WideShapes Go.ChangeAt Go.RowKit Go.Joins
set_option maxRecDepth 100000
attribute [local go_sem ↓] Go.wp_at_zero Go.wp_at_succ
set_option maxHeartbeats 4000000 in
theorem implWidest_any (a b : Option Addr) (n m cap cap' : Nat) (us vs : List Wr) (w : World) (hn : us.length = n) (hm : vs.length = m) (hs : n + m ≤ 1048576) (hx : Few us) (hy : Few vs) (hi : IsWs w a us) (hj : IsWs w b vs) :
  Calls Tryz.prog 78 #[.slice a n cap, .slice b m cap'] w fun e w' => ∃ v es, e = .returned v ∧ es.map (·.x) = widL us vs ∧ RowG w' w.heap.size v es ∧ Below w.heap.size w w' := by
 have HI := Lib.hid hi
 have HJ := Lib.hid hj
 have HN := Lib.hid hn
 have HM := Lib.hid hm
 have HX := Lib.hid hx
 have HY := Lib.hid hy
 have HC := Lib.hid (seen_any a b n m cap cap' us vs w hn hm (by omega) (by omega) hx hy hi hj)
 clear hi hj hn hm hx hy
 cases hr : rightB us vs
 ·have HF := Lib.hid (widL_wrong hr)
  rw [hr] at HC
  clear hr
  go_enter Tryz.func78, Tryz.ntmps78
  go_wp2_with fail
  refine HC.out.mono ?_
  rintro e w1 ⟨rfl, hb⟩
  have HB1 := Lib.hid hb
  clear hb HC
  go_wp2
  go_ret
  exact ⟨_, [], rfl, HF.out.symm, rowG_nil _ _, HB1.out⟩
 ·have HF := Lib.hid (widL_right hr)
  obtain ⟨hp1, hp2, hp3⟩ := right_parts hr
  have HKU : Hid (∀ i, i < us.length → 0 ≤ (us.getD i wz).k ∧ (us.getD i wz).k ≤ 5) := fun i hi => okW_key (hp2 _ (getV_mem hi))
  have HKF : Hid (∀ i, i < (fitL us vs true).length → 0 ≤ ((fitL us vs true).getD i wz).k ∧ ((fitL us vs true).getD i wz).k ≤ 5) := fun i hi => okW_key (hp3 _ (fitL_mem (getV_mem hi)))
  have HTJ : Hid (toldM ((fitL us vs true).foldl regPut (us.foldl regPut (fun _ => none))) = widL us vs) := by
   rw [HF.out]
   exact Lib.hid (told_join hp1 (fun x hx => okW_key (hp2 x hx)) (fun x hx => okW_key (hp3 x (fitL_mem hx))))
  have HFB : Hid (∀ x ∈ fitL us vs true, x.xs.length ≤ 1048576) := fun x hx => by
   have := okW_len (hp3 x (fitL_mem hx))
   omega
  rw [hr] at HC
  clear hr hp1 hp2 hp3
  have hmm := @run_makeMap Tryz.prog
  go_enter Tryz.func78, Tryz.ntmps78
  go_wp2_with fail
  refine HC.out.mono ?_
  rintro e w1 ⟨rfl, hb⟩
  have HB1 := Lib.hid hb
  clear hb HC
  go_wp2_with fail
  clear hmm
  have HB2 : Hid (Below w.heap.size w (w1.alloc (.map #[] 0))) := HB1.out.alloc HB1.out.size _
  refine (putAll_any w w1.heap.size 0 (fun _ => none) a n cap us _ HN.out (by omega) (by omega) HX.out HKU.out HI.out HB2.out HB1.out.size ⟨_, regs_made w1, fun k => ⟨fun _ => rfl, fun x h => by cases h⟩⟩).mono ?_
  rintro e w2 ⟨rfl, hr2, hb⟩
  have HB3 := Lib.hid hb
  have HR2 := Lib.hid (hr2.away hb HB1.out.size)
  have hlt := hr2.lt
  clear hr2 hb HB2
  go_wp2_with fail
  refine (implFitting_any a b n m cap cap' us vs _ HN.out HM.out hs HX.out HY.out (HI.out.below HB3.out) (HJ.out.below HB3.out)).mono ?_
  rintro e w3 ⟨v, es, rfl, he, hrow, hb⟩
  obtain ⟨fa, fc, rfl, hwx⟩ := hrow.away hlt he HFB.out
  have HWX := Lib.hid hwx
  have HB4 := Lib.hid (below_step HB3.out HB3.out.size hb)
  have HR3 := Lib.hid (HR2.out.later hb (hb.block _ hlt))
  have hfl := fitL_len us vs true
  rw [HM.out] at hfl
  have hw1 : w.heap.size ≤ w1.heap.size := HB1.out.size
  have HFF := Lib.hid (fitL_few (us := us) HY.out true)
  clear hb he hrow hwx HR2 HB3 hlt
  generalize fitL us vs true = fs at *
  go_wp2_with fail
  refine (putAll_x w3 w1.heap.size (0 + n) _ fa fs.length fc fs w3 rfl (by omega) (by omega) HFF.out HKF.out HWX.out ⟨rfl, rfl, rfl, Nat.le_refl _, fun _ _ _ => rfl⟩ HR3.out).mono ?_
  rintro e w4 ⟨rfl, hr4, hg4⟩
  have HR4 := Lib.hid (hr4.now hg4)
  have HB5 : Hid (Below w.heap.size w w4) := HB4.out.grown hg4 HB4.out.size fun j hj => by injection hj with hj; omega
  clear hr4 hg4
  go_wp2_with fail
  refine (told_any w4 w1.heap.size _ _ _ (Below.refl _ _) HR4.out).mono ?_
  rintro e w5 ⟨v, es5, rfl, hes, hrow, hb⟩
  have HES : Hid (es5.map (·.x) = widL us vs) := hes.trans HTJ.out
  have HRW := Lib.hid (hrow.mono HB5.out.size)
  have HB6 : Hid (Below w.heap.size w w5) := below_step HB5.out HB5.out.size hb
  clear hes hrow hb
  go_wp2
  go_ret
  exact ⟨v, es5, rfl, HES.out, HRW.out, HB6.out⟩
end Go.Proofs.YteladgfdedlmjaaGreatDoor
