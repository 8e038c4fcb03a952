/- At every code the law FnRepaired answers true: of two drawn maps what is told to differ differs in its leaf; a map does not differ from itself; what is repaired is no less than it was, and no more than both. The tables of Go's library that it reads are listed in the row and tied to the program's text by the card. -/
import Derived.Test.YtidpcjcnhklmpacDoorPack12
import Derived.Test.YtidpcjcnhklmpacDoorPack13
import Derived.Test.YtidpcjcnhklmpacDoorPack16
import Derived.Test.YtidpcjcnhklmpacDoorTie
import Derived.Test.YtidpcjcnhklmpacDoorCards
import Derived.LaidMore
import Derived.Stop.LaidErr
import Derived.Lib.LaidTab
import Derived.SevenTiedAt
namespace Go.Proofs.YtidpcjcnhklmpacDoor.lawRepaired
open Go.ChangeShapes Go.WideShapes Go.ChangeAt Go.RowKit Go.Joins
open Go.Proofs.YtidpcjcnhklmpacDoor.lawBytes
attribute [local go_sem ↓] Go.wp_at_zero Go.wp_at_succ

set_option maxRecDepth 100000 in
theorem repair_is (a b : Option Addr) (n m cap cap' : Nat) (us vs : List Wr) (w : World) (hn : us.length = n) (hm : vs.length = m) (hn1 : n ≤ 1000) (hm1 : m ≤ 1000) (hx : Few us) (hy : Few vs) (hi : IsWs w a us) (hj : IsWs w b vs) (ht : Tab w) :
    Calls Tryd.prog 15 #[.slice a n cap, .slice b m cap'] w fun e w' => ∃ ad L cpd, e = .returned (.tuple #[.slice ad L cpd, .int .i64 ((repKeys us vs).length : Int)]) ∧ (repB us vs).length = L ∧ L ≤ 6 ∧ IsWs w' ad (repB us vs) ∧ Below w.heap.size w w' := by
  refine (implRepair_any a b n m cap cap' us vs w hn hm (by omega) (by omega) hx hy hi hj ht).mono ?_
  rintro e w' ⟨v, es, rfl, he, hr, hb⟩
  obtain ⟨ad, cpd, L, rfl, hl, ho⟩ := hr.ownA he
  exact ⟨ad, L, cpd, rfl, hl, by have := mapOk_len (repB_mapOk us vs); omega, ho.isWs (few_of_bulk (by have := mapOk_bulk (repB_mapOk us vs); omega)), hb⟩

set_option maxRecDepth 100000 in
theorem specRepair_is (a b : Option Addr) (n m cap cap' : Nat) (us vs : List Wr) (w : World) (hn : us.length = n) (hm : vs.length = m) (hn1 : n ≤ 1000) (hm1 : m ≤ 1000) (hx : Few us) (hy : Few vs) (hi : IsWs w a us) (hj : IsWs w b vs) :
    Calls Tryd.prog 16 #[.slice a n cap, .slice b m cap'] w fun e w' => ∃ ad L cpd, e = .returned (.tuple #[.slice ad L cpd, .int .i64 ((repKeys us vs).length : Int)]) ∧ (repB us vs).length = L ∧ L ≤ 6 ∧ IsWs w' ad (repB us vs) ∧ Below w.heap.size w w' := by
  refine (specRepair_any a b n m cap cap' us vs w hn hm (by omega) (by omega) hx hy hi hj).mono ?_
  rintro e w' ⟨g, cp, es, L, rfl, rfl, he, hr, hb⟩
  have hl : (repB us vs).length = es.length := by rw [← he]; simp
  exact ⟨_, _, cp, rfl, hl, by have := mapOk_len (repB_mapOk us vs); omega, (hr.holds he).isWs (few_of_bulk (by have := mapOk_bulk (repB_mapOk us vs); omega)), hb⟩

set_option maxRecDepth 100000 in
set_option maxHeartbeats 16000000 in
theorem walk_small (a : Option Addr) (len cap : Nat) (w : World) (h : Bytes w a len) (hl : len ≤ 1048576) (ht : Tab w) :
    Calls Tryd.prog 4 #[.slice a len cap] w fun e w' => e = .returned (.bool true) ∧ Below w.heap.size w w' := by
  have HO := Lib.hid (drawRepair_any a len cap w h hl)
  have HT := Lib.hid ht
  have hlt : 1 < w.heap.size := ht.lt
  have d1 : decide (1048576 < len) = false := by simpa using hl
  clear h ht
  go_enter Tryd.func4, Tryd.ntmps4
  go_wp2_with fail
  refine (big_is _ _ _ false d1 (by unfold maxLen; omega) _).mono ?_
  rintro e w0 ⟨rfl, hw0⟩
  subst w0
  clear d1
  go_wp2_with fail
  refine HO.out.mono ?_
  rintro e w1 ⟨v1, v2, es1, es2, rfl, ⟨g1, cp1, rfl, l1, f1, r1⟩, ⟨g2, cp2, rfl, l2, f2, r2⟩, hb1⟩
  have HX := Lib.hid (few_of f1)
  have HY := Lib.hid (few_of f2)
  have HA1 := Lib.hid ((r1.holds rfl).isWs HX.out)
  have HV1 := Lib.hid ((r2.holds rfl).isWs HY.out)
  have HB1 := Lib.hid hb1
  have HN : Hid ((es1.map (·.x)).length = es1.length) := by simp [Hid]
  have HM : Hid ((es2.map (·.x)).length = es2.length) := by simp [Hid]
  clear f1 f2 r1 r2 hb1 HO
  generalize es1.map (·.x) = us at *
  generalize es2.map (·.x) = vs at *
  generalize es1.length = n at *
  generalize es2.length = m at *
  obtain ⟨z, hz⟩ : ∃ z : Int, ((repKeys us vs).length : Int) = z := ⟨_, rfl⟩
  have HZ := Lib.hid hz
  clear hz
  have HRF : Hid (Few (repB us vs)) := few_of_bulk (by have := mapOk_bulk (repB_mapOk us vs); omega)
  have HJF := Lib.hid (joinB_few us vs)
  have HSM := Lib.hid (rep_same us vs)
  go_wp2_with fail
  refine (repair_is _ _ n m _ _ us vs _ HN.out HM.out (by omega) (by omega) HX.out HY.out HA1.out HV1.out (HT.out.below HB1.out hlt)).mono ?_
  rintro e w2 ⟨am, L, cm, rfl, hL, hL6, hi, hb⟩
  rw [HZ.out]
  have HB2 : Hid (Below w.heap.size w w2) := below_step HB1.out HB1.out.size hb
  have HA2 := Lib.hid (HA1.out.below hb)
  have HV2 := Lib.hid (HV1.out.below hb)
  have HR2 := Lib.hid hi
  have HLN := Lib.hid hL
  clear hb HB1 HA1 HV1 hi hL
  go_wp2_with fail
  refine (specRepair_is _ _ n m _ _ us vs _ HN.out HM.out (by omega) (by omega) HX.out HY.out HA2.out HV2.out).mono ?_
  rintro e w3 ⟨as_, L', cs, rfl, hL', -, hi, hb⟩
  rw [HZ.out]
  obtain rfl : L' = L := hL'.symm.trans HLN.out
  have HB3 : Hid (Below w.heap.size w w3) := below_step HB2.out HB2.out.size hb
  have HA3 := Lib.hid (HA2.out.below hb)
  have HV3 := Lib.hid (HV2.out.below hb)
  have HR3 := Lib.hid (HR2.out.below hb)
  have HS3 := Lib.hid hi
  clear hb HB2 HA2 HV2 HR2 hi hL'
  go_wp2_with fail
  refine (same_is true _ _ L' L' _ _ (repB us vs) (repB us vs) _ HSM.out HLN.out HLN.out (by omega) (by omega) HRF.out HRF.out HR3.out HS3.out).mono ?_
  rintro e w4 ⟨rfl, hb⟩
  have HB4 : Hid (Below w.heap.size w w4) := below_step HB3.out HB3.out.size hb
  have HA4 := Lib.hid (HA3.out.below hb)
  have HV4 := Lib.hid (HV3.out.below hb)
  have HR4 := Lib.hid (HR3.out.below hb)
  clear hb HB3 HA3 HV3 HR3 HS3
  cases ha : mapOkB us
  · have HE : Hid (repB us vs = []) := repB_not (.inl ha)
    have HK : Hid (repKeys us vs = []) := repKeys_not (.inl ha)
    have hL0 : L' = 0 := by rw [← HLN.out, HE.out]; rfl
    have hz0 : z = 0 := by rw [← HZ.out, HK.out]; rfl
    subst hL0
    subst hz0
    go_wp2_with fail
    refine (specOk_is false _ n _ us _ ha HN.out (by omega) HX.out HA4.out).mono ?_
    rintro e w5 ⟨rfl, hb⟩
    have HB5 : Hid (Below w.heap.size w w5) := below_step HB4.out HB4.out.size hb
    clear hb
    go_wp2
    go_ret
    exact ⟨rfl, HB5.out⟩
  go_wp2_with fail
  refine (specOk_is true _ n _ us _ ha HN.out (by omega) HX.out HA4.out).mono ?_
  rintro e w5 ⟨rfl, hb⟩
  have HB5 : Hid (Below w.heap.size w w5) := below_step HB4.out HB4.out.size hb
  have HA5 := Lib.hid (HA4.out.below hb)
  have HV5 := Lib.hid (HV4.out.below hb)
  have HR5 := Lib.hid (HR4.out.below hb)
  clear hb HB4 HA4 HV4 HR4 
  cases hv : mapOkB vs
  · have HE : Hid (repB us vs = []) := repB_not (.inr hv)
    have HK : Hid (repKeys us vs = []) := repKeys_not (.inr hv)
    have hL0 : L' = 0 := by rw [← HLN.out, HE.out]; rfl
    have hz0 : z = 0 := by rw [← HZ.out, HK.out]; rfl
    subst hL0
    subst hz0
    go_wp2_with fail
    refine (specOk_is false _ m _ vs _ hv HM.out (by omega) HY.out HV5.out).mono ?_
    rintro e w6 ⟨rfl, hb⟩
    have HB6 : Hid (Below w.heap.size w w6) := below_step HB5.out HB5.out.size hb
    clear hb
    go_wp2
    go_ret
    exact ⟨rfl, HB6.out⟩
  go_wp2_with fail
  refine (specOk_is true _ m _ vs _ hv HM.out (by omega) HY.out HV5.out).mono ?_
  rintro e w6 ⟨rfl, hb⟩
  have HB6 : Hid (Below w.heap.size w w6) := below_step HB5.out HB5.out.size hb
  have HA6 := Lib.hid (HA5.out.below hb)
  have HV6 := Lib.hid (HV5.out.below hb)
  have HR6 := Lib.hid (HR5.out.below hb)
  clear hb HB5 HA5 HV5 HR5 
  have HLF : Hid (∀ z ∈ repKeys us vs, leafB us z ≠ leafB vs z) := fun z hz => rep_leaf ha hv hz
  have HLS := Lib.hid (rep_less ha hv)
  have HMO := Lib.hid (rep_more ha hv)
  have HSE := Lib.hid (rep_self ha)
  have HTK : Hid (diffB (treeB us) (treeB vs) = repKeys us vs) := rfl
  have HTS : Hid (diffB (treeB us) (treeB us) = []) := diffB_same _
  have HKS : Hid (repKeys us us = []) := repKeys_self us
  have hkl := repKeys_len us vs
  have l1' := treeB_len us
  have l2' := treeB_len vs
  clear ha hv
  obtain ⟨ks, hks⟩ : ∃ ks, repKeys us vs = ks := ⟨_, rfl⟩
  rw [hks] at HLF HTK HZ hkl
  clear hks
  obtain ⟨q, hq⟩ : ∃ q, ks.length = q := ⟨_, rfl⟩
  have HQ := Lib.hid hq
  have hzq : z = (q : Int) := by rw [← HZ.out, hq]
  rw [hq] at hkl
  clear hq HZ
  subst hzq
  go_wp2_with fail
  refine (implTree_any _ n _ us _ HN.out (by omega) HX.out HA6.out (HT.out.below HB6.out hlt)).mono ?_
  rintro e w7 ⟨ax, cx, rfl, ho, hb⟩
  have HB7 : Hid (Below w.heap.size w w7) := below_step HB6.out HB6.out.size hb
  have HA7 := Lib.hid (HA6.out.below hb)
  have HV7 := Lib.hid (HV6.out.below hb)
  have HR7 := Lib.hid (HR6.out.below hb)
  have HI7 := Lib.hid ho.isInts
  clear hb HB6 HA6 HV6 HR6 ho
  go_wp2_with fail
  refine (implTree_any _ m _ vs _ HM.out (by omega) HY.out HV7.out (HT.out.below HB7.out hlt)).mono ?_
  rintro e w8 ⟨ay, cy, rfl, ho, hb⟩
  have HB8 : Hid (Below w.heap.size w w8) := below_step HB7.out HB7.out.size hb
  have HA8 := Lib.hid (HA7.out.below hb)
  have HV8 := Lib.hid (HV7.out.below hb)
  have HR8 := Lib.hid (HR7.out.below hb)
  have HI8 := Lib.hid (HI7.out.below hb)
  have HJ8 := Lib.hid ho.isInts
  clear hb HB7 HA7 HV7 HR7 HI7 ho
  go_wp2_with fail
  refine (implDiffer_any _ _ _ _ _ _ (treeB us) (treeB vs) _ rfl rfl (by omega) (by omega) HI8.out HJ8.out).mono ?_
  rintro e w9 ⟨v9, rfl, hrow, hb⟩
  rw [HTK.out] at hrow
  obtain ⟨al, cl, rfl, hk⟩ := hrow.form
  rw [HQ.out]
  have HB9 : Hid (Below w.heap.size w w9) := below_step HB8.out HB8.out.size hb
  have HA9 := Lib.hid (HA8.out.below hb)
  have HV9 := Lib.hid (HV8.out.below hb)
  have HR9 := Lib.hid (HR8.out.below hb)
  have HI9 := Lib.hid (HI8.out.below hb)
  have HK9 := Lib.hid hk.isInts
  clear hb HB8 HA8 HV8 HR8 HI8 hrow hk HJ8
  go_wp2
  go_loopw [12] (fun i wr => ∃ k : Nat, k ≤ q ∧ i = .int .i64 k ∧ Hid (Below w9.heap.size w9 wr)) (fun i _ => q - (intOf i).toNat)
  case atStart => exact ⟨0, Nat.zero_le _, rfl, Below.refl _ _⟩
  case round =>
  obtain ⟨k, hk, rfl, HW⟩ := hrel
  by_cases hk' : k < q
  · have i1 : (0 : Int) ≤ (k : Int) := by omega
    have i2 : (k : Int) < (q : Int) := by omega
    have hkk : k < ks.length := by rw [HQ.out]; exact hk'
    obtain ⟨bl, rfl, -, -⟩ := HK9.out.at HW.out hkk
    have HC : Hid (∀ w', Below wr.heap.size wr w' → w'.cell? ⟨bl, k, none⟩ = some (.int .i64 (ks.getD k 0))) := fun w' hb => by
      obtain ⟨b2, e2, -, c2⟩ := HK9.out.at (below_step HW.out HW.out.size hb) hkk
      obtain rfl : bl = b2 := by simpa using e2
      exact c2
    have hne := HLF.out (ks.getD k 0) (by rw [List.getD_eq_getElem?_getD, List.getElem?_eq_getElem hkk]; exact List.getElem_mem _)
    have HLA : Hid (∀ w', Below wr.heap.size wr w' → Calls Tryd.prog 21 #[.slice (some ⟨g1, 0, none⟩) n cp1, .int .i64 (ks.getD k 0)] w' fun e w'' => e = .returned (.int .i64 (leafB us (ks.getD k 0))) ∧ Below w'.heap.size w' w'') := fun w' hb => by
      have h1 := below_step HW.out HW.out.size hb
      exact implLeaf_any _ n _ _ us w' HN.out (by omega) HX.out (HA9.out.below h1) (HT.out.below (below_step HB9.out HB9.out.size h1) hlt)
    have HLV : Hid (∀ w', Below wr.heap.size wr w' → Calls Tryd.prog 21 #[.slice (some ⟨g2, 0, none⟩) m cp2, .int .i64 (ks.getD k 0)] w' fun e w'' => e = .returned (.int .i64 (leafB vs (ks.getD k 0))) ∧ Below w'.heap.size w' w'') := fun w' hb => by
      have h1 := below_step HW.out HW.out.size hb
      exact implLeaf_any _ m _ _ vs w' HM.out (by omega) HY.out (HV9.out.below h1) (HT.out.below (below_step HB9.out HB9.out.size h1) hlt)
    generalize leafB us (ks.getD k 0) = x at *
    generalize leafB vs (ks.getD k 0) = y at *
    generalize ks.getD k 0 = key at *
    go_wp2_with fail
    refine wp_region_slots 13 [[(3, false)], [(11, false)], [(12, false)], [(72, true), (73, true)], [(74, true)], [(71, true), (75, true)], [(4, false)], [(11, false)], [(12, false)], [(78, true), (79, true)], [(80, true)], [(77, true), (81, true)], [(76, true), (82, true)]] (fun w' => Below wr.heap.size wr w') (fun w w' => Below w.heap.size w w') (by kernel_rfl) (by kernel_rfl) (by rfl) ((Below.refl _ _).drew) (fun _ _ h hb => below_step h h.size hb) ?_
    iterate 5 (apply slot_eq; · (intro ρ w' ⟨p1, p2, p3⟩ hbl hn; have c1 := HC.out w' hbl; simp at hn; go_simp; exact ⟨Below.refl _ _, rfl⟩))
    apply slot_eq
    · intro ρ w' ⟨p1, p2, p3⟩ hbl hn
      simp at hn
      obtain ⟨e1, e2⟩ := hn
      go_simp
      exact got_call (HLA.out w' hbl) fun e w'' ⟨he, hb⟩ => ⟨_, he, hb, rfl⟩
    iterate 5 (apply slot_eq; · (intro ρ w' ⟨p1, p2, p3⟩ hbl hn; have c1 := HC.out w' hbl; simp at hn; go_simp; exact ⟨Below.refl _ _, rfl⟩))
    apply slot_eq
    · intro ρ w' ⟨p1, p2, p3⟩ hbl hn
      simp at hn
      obtain ⟨e1, e2⟩ := hn
      go_simp
      exact got_call (HLV.out w' hbl) fun e w'' ⟨he, hb⟩ => ⟨_, he, hb, rfl⟩
    refine slot_eq (e := .bool false) ?_ ?_
    · intro ρ w' ⟨p1, p2, p3⟩ hbl hn
      simp at hn
      obtain ⟨e1, e2⟩ := hn
      go_simp
      exact ⟨Below.refl _ _, by rw [beq_eq_false_iff_ne.2 hne]⟩
    refine slot_end ?_
    intro vs' w3 hS hF
    simp at hF
    obtain ⟨h83, -⟩ := hF
    have HW3 := Lib.hid (below_step HW.out HW.out.size hS)
    clear hS
    simp only [List.take_succ_cons, List.take_zero, List.drop_succ_cons, List.drop_zero, putAll, h83]
    clear h83
    simp only [Act.put, List.setIfInBounds_toArray, List.set_cons_succ, List.set_cons_zero]
    go_wp2
    exact ⟨⟨k + 1, by omega, by go_num, HW3⟩, by simp [intOf]; omega⟩
  have hkk : k = q := by omega
  subst hkk
  have HB10 : Hid (Below w.heap.size w wr) := below_step HB9.out HB9.out.size HW.out
  have HA10 := Lib.hid (HA9.out.below HW.out)
  have HV10 := Lib.hid (HV9.out.below HW.out)
  have HR10 := Lib.hid (HR9.out.below HW.out)
  have HI10 := Lib.hid (HI9.out.below HW.out)
  clear HB9 HA9 HV9 HR9 HI9 HK9 HW
  go_wp2_with fail
  refine (repair_is _ _ n n _ _ us us _ HN.out HN.out (by omega) (by omega) HX.out HX.out HA10.out HA10.out (HT.out.below HB10.out hlt)).mono ?_
  rintro e w11 ⟨an, Ln, cn, rfl, hL, -, hi, hb⟩
  rw [HSE.out] at hL hi
  obtain rfl : n = Ln := HN.out.symm.trans hL
  rw [HKS.out]
  have HB11 : Hid (Below w.heap.size w w11) := below_step HB10.out HB10.out.size hb
  have HA11 := Lib.hid (HA10.out.below hb)
  have HV11 := Lib.hid (HV10.out.below hb)
  have HR11 := Lib.hid (HR10.out.below hb)
  have HI11 := Lib.hid (HI10.out.below hb)
  have HZ11 := Lib.hid hi
  clear hb HB10 HA10 HV10 HR10 HI10 hi hL
  go_wp2_with fail
  refine (implDiffer_any _ _ _ _ _ _ (treeB us) (treeB us) _ rfl rfl (by omega) (by omega) HI11.out HI11.out).mono ?_
  rintro e w12 ⟨v12, rfl, hrow, hb⟩
  rw [HTS.out] at hrow
  obtain ⟨ad, cd, rfl, -⟩ := hrow.form
  have HB12 : Hid (Below w.heap.size w w12) := below_step HB11.out HB11.out.size hb
  have HA12 := Lib.hid (HA11.out.below hb)
  have HV12 := Lib.hid (HV11.out.below hb)
  have HR12 := Lib.hid (HR11.out.below hb)
  have HZ12 := Lib.hid (HZ11.out.below hb)
  clear hb HB11 HA11 HV11 HR11 HZ11 hrow HI11
  go_wp2_with fail
  refine (within_is true _ _ n L' _ _ us (repB us vs) _ HLS.out HN.out HLN.out (by omega) (by omega) HX.out HRF.out HA12.out HR12.out).mono ?_
  rintro e w13 ⟨rfl, hb⟩
  have HB13 : Hid (Below w.heap.size w w13) := below_step HB12.out HB12.out.size hb
  have HA13 := Lib.hid (HA12.out.below hb)
  have HV13 := Lib.hid (HV12.out.below hb)
  have HR13 := Lib.hid (HR12.out.below hb)
  have HZ13 := Lib.hid (HZ12.out.below hb)
  clear hb HB12 HA12 HV12 HR12 HZ12 
  go_wp2_with fail
  refine (join_is _ _ n m _ _ us vs _ HN.out HM.out (by omega) (by omega) HX.out HY.out HA13.out HV13.out).mono ?_
  rintro e w14 ⟨aj, Lj, cj, rfl, hLj, hLj6, hi, hb⟩
  have HB14 : Hid (Below w.heap.size w w14) := below_step HB13.out HB13.out.size hb
  have HA14 := Lib.hid (HA13.out.below hb)
  have HR14 := Lib.hid (HR13.out.below hb)
  have HZ14 := Lib.hid (HZ13.out.below hb)
  have HJ14 := Lib.hid hi
  have HLJ := Lib.hid hLj
  clear hb HB13 HA13 HR13 HZ13 hi hLj HV13
  go_wp2_with fail
  refine (within_is true _ _ L' Lj _ _ (repB us vs) (joinB us vs) _ HMO.out HLN.out HLJ.out (by omega) (by omega) HRF.out HJF.out HR14.out HJ14.out).mono ?_
  rintro e w15 ⟨rfl, hb⟩
  have HB15 : Hid (Below w.heap.size w w15) := below_step HB14.out HB14.out.size hb
  have HA15 := Lib.hid (HA14.out.below hb)
  have HZ15 := Lib.hid (HZ14.out.below hb)
  clear hb HB14 HA14 HZ14 HR14 HJ14
  go_wp2_with fail
  refine (same_is true _ _ n n _ _ us us _ ((same_iff us us).2 rfl) HN.out HN.out (by omega) (by omega) HX.out HX.out HZ15.out HA15.out).mono ?_
  rintro e w16 ⟨rfl, hb⟩
  have HB16 : Hid (Below w.heap.size w w16) := below_step HB15.out HB15.out.size hb
  clear hb HB15  HZ15 HA15
  go_wp2
  go_ret
  exact ⟨rfl, HB16.out⟩

set_option maxRecDepth 100000 in
set_option maxHeartbeats 1000000 in
theorem walk_big (a : Option Addr) (len cap : Nat) (w : World) (hm : len ≤ maxLen) (h : 1048576 < len) :
    Calls Tryd.prog 4 #[.slice a len cap] w fun e w' => e = .returned (.bool true) ∧ Below w.heap.size w w' := by
  have d1 : decide (1048576 < len) = true := by simpa using h
  clear h
  go_enter Tryd.func4, Tryd.ntmps4
  go_wp2_with fail
  refine (big_is _ _ _ true d1 hm _).mono ?_
  rintro e w1 ⟨rfl, rfl⟩
  go_wp2
  go_ret
  exact ⟨rfl, Below.refl _ _⟩

set_option maxRecDepth 100000 in
theorem walk (a : Option Addr) (len cap : Nat) (w : World) (hr : len ≤ maxLen ∧ Bytes w a len) (ht : Tab w) :
    Calls Tryd.prog 4 #[.slice a len cap] w fun e w' => e = .returned (.bool true) ∧ Below w.heap.size w w' := by
  by_cases h : 1048576 < len
  · exact walk_big a len cap w hr.1 h
  · exact walk_small a len cap w hr.2 (by omega) ht

abbrev laid := Rows.fnRepairedRow.laid

set_option maxRecDepth 100000 in
theorem door_met (os : Os) (args : Array Value) : laidMetH Tryd.prog laid ((World.doorLaid Tryd.prog 72 os).forCall (fun _ _ => 0) ⟨#[], args, []⟩).memory :=
  laidMetH_of_parts3 (fuel := 8) (laidMet_of_run' 8 (by kernel_rfl) (by kernel_rfl)) (by kernel_rfl) (by kernel_rfl)

set_option maxRecDepth 100000 in
theorem pow_same : (Rows.laid_internal_strconv_uint64pow10 : DataW Unit) = Lib.tabData .u64 Lib.pow10Tab := by kernel_rfl

set_option maxRecDepth 100000 in
theorem tab_of {W : World} (h : laidMetH Tryd.prog laid W) : Tab W := by
  rw [MakeChecks.laidMetH_plain _ _ _ (by kernel_rfl)] at h
  have h2 := h.tail.tail
  rw [pow_same] at h2
  exact Lib.tabIs_of_head gPow (by kernel_rfl) Tryd.underlying146 Tryd.underlying119 (by kernel_rfl) (by kernel_rfl) h2

set_option maxRecDepth 100000 in
theorem lifted (os : Os) (started : os.Started) (H : Type) (enc : TypeId × Value → H) :
    ReturnsInHanded {} Tryd.checked os 4 .any (fun w args => (Rows.fnRepairedSpec.pre enc Tryd.prog Tryd.f4 [] false w args ∧ laidMetH Tryd.prog laid w) ∧ sizedMet enc Tryd.prog Tryd.f4 (OpenSpec.ofChange Rows.fnRepairedSpec) false w args)
      (Rows.fnRepairedSpec.post enc Tryd.prog Tryd.f4 false true false false) := by
  refine returnsInHanded_of_change_and (C := Tryd.checked) (X := fun w _ => laidMetH Tryd.prog laid w) (fun _ _ _ hh h => h.of_heap hh) own started (by kernel_rfl) Tryd.func4
    (ChangeSpec.witness_shaped (enc := enc) (C := Tryd.checked) (os := os) (X := fun w _ => laidMetH Tryd.prog laid w) false (World.doorLaid Tryd.prog 72 os) #[.slice none 0 0] 8 rfl (World.shaped_of_RefB (by kernel_rfl) (by kernel_rfl)) (by kernel_rfl) (by kernel_rfl) (by kernel_rfl) (door_met os _)) ?_
  intro W base args ds gs before hval0 hW _ _ hL _
  have hval : ∀ (j : Nat) t v, Tryd.f4.params[j]? = some t → args[j]? = some v → Value.okWide Tryd.prog W .any base t v := hval0
  have hW' := hW
  obtain ⟨p, q, hA0, hV, rfl, hfz, hnd⟩ := hW
  have hA : DataW.TrodAll enc Tryd.prog W 0 (fun _ => true) true Tryd.f4.params.toList args.toList ds p := hA0
  rw [Tryd.params4] at hA hval
  obtain ⟨v0, d0, rfl, rfl, h0⟩ := trodAll_one hA
  have k0 := h0
  have lt0 : ∀ x ∈ p, x.block < W.heap.size := by obtain ⟨m, hm⟩ := k0; exact DataW.trod_lt m _ _ _ hm
  obtain ⟨rfl, rfl⟩ := trodVars_none hV
  obtain ⟨a0, len0, cap0, hv0, hr0⟩ := open_bytes (hval 0 22 v0 rfl rfl) h0
  subst hv0
  clear hA0 hval0
  refine (walk a0 len0 cap0 W hr0 (tab_of hL)).mono fun e W' ⟨he, bel⟩ => ?_
  subst he
  exact ⟨_, rfl, _, _, _, [], _, [], hW', trodAll_mk1 (shut_bool Tryd.underlying4 _), (trodAll_mk1 (Below.trod laidOut (by kernel_rfl) (of_decide_eq_true (by kernel_rfl)) k0 bel lt0)), rfl, bel.frame _, fun h => by cases h⟩

set_option maxRecDepth 100000 in
theorem over : Rows.fnRepairedRow.holds Tryd.pinned (OpenSpec.ofChange Rows.fnRepairedSpec) :=
  OpenClaim.holds_of_wide 4 Tryd.f4 rfl rfl rfl rfl rfl rfl rfl ⟨rfl, rfl, rfl, rfl, rfl⟩ rfl rfl rfl rfl rfl (by kernel_rfl) Tryd.func4 (by kernel_rfl)
    (of_decide_eq_true (by kernel_rfl)) (by unfold Func.isWrapper; rw [if_neg (by decide +kernel)]; exact ⟨rfl, rfl⟩)
    (fun os started H enc _ => lifted os started H enc)

set_option maxRecDepth 100000 in
theorem card : Rows.FnRepairedCardSaid :=
  Claim7.holds_tied_plain_at .later [] [.data, .data, .data] true Rows.fnRepairedCard.stood.harness Rows.fnRepairedCard.stood.looks
    over (fun _ h => by cases h) (by kernel_rfl) (fun _ h => by cases h) fnRepaired_row_tie rfl ⟨rfl, rfl⟩ (by kernel_rfl) rfl
    (fun f fn hf hfn => by
      obtain rfl : f = 4 := Option.some.inj ((show Tryd.prog.funcNamed Rows.fnRepairedRow.func = some 4 by kernel_rfl).symm.trans hf) |>.symm
      obtain rfl : fn = Tryd.f4 := (Option.some.inj (Tryd.func4.symm.trans hfn)).symm
      exact ⟨by kernel_rfl, fun j t ht => by
        rw [Tryd.params4] at ht
        have hm : t ∈ [22] := by simpa using Array.mem_of_getElem? ht
        have hall : ([22].all fun u => !Tryd.prog.wantsStandIn u) = true := by kernel_rfl
        exact (show Tryd.prog.wantsStandIn t = false by simpa using List.all_eq_true.1 hall t hm)⟩)
    (by kernel_rfl)

end Go.Proofs.YtidpcjcnhklmpacDoor.lawRepaired
namespace Go.Proofs.YtidpcjcnhklmpacDoor
theorem fnRepaired_holds : Rows.FnRepairedCardSaid := lawRepaired.card
#print axioms fnRepaired_holds
end Go.Proofs.YtidpcjcnhklmpacDoor
