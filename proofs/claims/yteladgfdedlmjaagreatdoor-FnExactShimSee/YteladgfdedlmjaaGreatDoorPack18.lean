import Derived.Test.YteladgfdedlmjaaGreatDoorPack12
import Derived.Test.YteladgfdedlmjaaGreatDoorPack5
import Derived.Test.YteladgfdedlmjaaGreatDoorPack11
import Derived.Test.YteladgfdedlmjaaGreatDoorPack17
import Derived.Test.YteladgfdedlmjaaGreatDoorPack7
import Derived.Test.YteladgfdedlmjaaGreatDoorPack1
import Derived.Test.YteladgfdedlmjaaGreatDoorPack6
import Derived.Test.YteladgfdedlmjaaGreatDoorPack2
import Derived.Test.YteladgfdedlmjaaGreatDoorPack3
import Derived.Lib.RabinKarpLaws
namespace Go.Proofs.YteladgfdedlmjaaGreatDoor
open Go.ChangeShapes Go.WideShapes Go.ChangeAt Go.RowKit Go.Joins
attribute [local go_sem ↓] Go.wp_at_zero Go.wp_at_succ
set_option maxHeartbeats 4000000 in
theorem implLacks_any (a ad : Option Addr) (n m cap cd : Nat) (ws : List Wr) (ds : List Dp) (w : World) (hn : ws.length = n) (hm : n ≤ 1048576) (hl : ds.length = m) (hml : m ≤ 1048576) (hh : IsWs w a ws) (hd : IsDeps w ad ds) :
  Calls Tryz.prog 65 #[.slice a n cap, .slice ad m cd] w fun e w' => ∃ v, e = .returned v ∧ RowD w' w.heap.size v (lacksL ws ds) ∧ Below w.heap.size w w' := by
 have HH : Hid (IsWs w a ws) := hh
 have HD : Hid (IsDeps w ad ds) := hd
 have HN : Hid (ws.length = n) := hn
 have HL : Hid (ds.length = m) := hl
 clear hh hd hn hl
 obtain ⟨i0, hi0, hx0⟩ := Option.map_eq_some_iff.1 infoDep
 simp only [Prod.mk.injEq] at hx0
 have HI0 := Lib.hid hi0
 have HX0 := Lib.hid hx0
 clear hi0 hx0
 have HR0 : Hid (RowD w w.heap.size (.slice none 0 0) (lacksL ws (ds.take 0))) := World.ownsRow_nil _ _ _ _
 go_enter Tryz.func65, Tryz.ntmps65
 go_wp2
 go_loopw [5, 10] (fun t i wr => ∃ (k : Nat) (v : Value), k ≤ m ∧ i = .int .i64 k ∧ v = t ∧ Hid (RowD wr w.heap.size v (lacksL ws (ds.take k))) ∧ Hid (Below w.heap.size w wr)) (fun _ i _ => m - (intOf i).toNat)
 case atStart => exact ⟨0, _, Nat.zero_le _, rfl, rfl, HR0, Below.refl _ _⟩
 case round =>
  clear HR0
  obtain ⟨k, v, hk, rfl, rfl, HR, HB⟩ := hrel
  by_cases hk' : k < m
  ·have hkd : k < ds.length := by rw [HL.out]; exact hk'
   obtain ⟨b, o, rfl, hz, e0, e1, e2, e3⟩ := HD.out.at HB.out hkd
   have i1 : (0 : Int) ≤ (k : Int) := by omega
   have i2 : (k : Int) < (m : Int) := by omega
   have hln := lacks_len ws ds k
   have HC : Hid (∀ W, Below wr.heap.size wr W → Calls Tryz.prog 116 #[.slice a n cap, .int .i64 (ds.getD k dz).k, tagV (ds.getD k dz).c (ds.getD k dz).s (ds.getD k dz).q] W fun e w' => e = .returned (.bool (hasB ws (ds.getD k dz).k (ds.getD k dz).c (ds.getD k dz).s (ds.getD k dz).q)) ∧ Below W.heap.size W w') := fun W hW =>
    implMapHas_any a n cap _ _ _ _ ws _ HN.out hm (HH.out.below (below_step HB.out HB.out.size hW))
   have HM : Hid (hasB ws (ds.getD k dz).k (ds.getD k dz).c (ds.getD k dz).s (ds.getD k dz).q = false → lacksL ws (ds.take (k + 1)) = lacksL ws (ds.take k) ++ [ds.getD k dz]) := fun h => lacks_more hkd (by unfold lacking; rw [h]; rfl)
   have HS : Hid (hasB ws (ds.getD k dz).k (ds.getD k dz).c (ds.getD k dz).s (ds.getD k dz).q = true → lacksL ws (ds.take (k + 1)) = lacksL ws (ds.take k)) := fun h => lacks_same hkd (by unfold lacking; rw [h]; rfl)
   clear HD
   generalize ds.getD k dz = d at *
   obtain ⟨dk, dc, dd, dq⟩ := d
   simp only at e0 e1 e2 e3 HC HM HS
   have HBX : Hid (Below wr.heap.size wr (wr.alloc (.cells #[.int .i64 dk, .int .i64 dc, .int .i64 dd, .int .i64 dq] 85))) := (Below.refl _ _).alloc (Nat.le_refl _) _
   cases hb : hasB ws dk dc dd dq
   ·have HE := Lib.hid (HM.out hb)
    rw [hb] at HC
    clear hb HM HS
    generalize lacksL ws (ds.take k) = zs at *
    go_wp2_with fail
    refine (HC.out _ HBX.out).mono ?_
    rintro e wq ⟨rfl, hq⟩
    have HBQ : Hid (Below w.heap.size w wq) := below_step HB.out HB.out.size (below_step HBX.out HBX.out.size hq)
    have HRQ := Lib.hid (HR.out.below (below_step HBX.out HBX.out.size hq))
    have z0 : wq.cell? ⟨wr.heap.size, 0, none⟩ = some (.int .i64 dk) := box_cells hq 0 (by simp)
    have z1 : wq.cell? ⟨wr.heap.size, 1, none⟩ = some (.int .i64 dc) := box_cells hq 1 (by simp)
    have z2 : wq.cell? ⟨wr.heap.size, 2, none⟩ = some (.int .i64 dd) := box_cells hq 2 (by simp)
    have z3 : wq.cell? ⟨wr.heap.size, 3, none⟩ = some (.int .i64 dq) := box_cells hq 3 (by simp)
    have hwq : w.heap.size ≤ wq.heap.size := HBQ.out.size
    clear hq HC HR HB HBX
    have HBC : Hid (Below wq.heap.size wq (wq.alloc (.cells #[.int .i64 dk, .int .i64 dc, .int .i64 dd, .int .i64 dq] 85))) := (Below.refl _ _).alloc (Nat.le_refl _) _
    have HRC := Lib.hid (HRQ.out.below HBC.out)
    have HBD := Lib.hid (below_step HBQ.out HBQ.out.size HBC.out)
    go_wp2_with (at_builtin; refine wpList_append_lies _ (by rfl) _ _ _ (by rfl) w.heap.size 85 i0 (depV 0 0 0 0) 4 32 Tryz.underlying31 HI0.out HX0.out.1 HX0.out.2.1 HX0.out.2.2 (by rfl) (by omega) v zs.length (zs.flatMap dpVals) (by rfl) HRC.out ⟨wq.heap.size, 0, none⟩ 1 1 (dpVals ⟨dk, dc, dd, dq⟩) (by rfl) (by rfl) (oneD_cells wq _ ⟨dk, dc, dd, dq⟩) (dp_one _) (by omega) (by unfold maxLen; omega) (by omega) (by simp; omega) _ rfl ?_; intro g3 cp3 w5 hown hgrow hg3 _; refine Hid.out ?_)
    refine Lib.hid ?_
    have HB5 : Hid (Below w.heap.size w w5) := HBD.out.grown hgrow HBD.out.size fun j hj => (World.ownsRow.lt HRC.out j hj).1
    have HR5 : Hid (RowD w5 w.heap.size (.slice (some ⟨g3, 0, none⟩) (zs.length + 1) cp3) (lacksL ws (ds.take (k + 1)))) := by
     refine Lib.hid ?_
     rw [HE.out]
     unfold RowD
     rw [List.length_append, List.flatMap_append]
     simpa using hown
    clear hown hgrow
    go_wp2
    exact ⟨⟨k + 1, _, by omega, by go_num, rfl, HR5, HB5⟩, by simp [intOf]; omega⟩
   ·have HE := Lib.hid (HS.out hb)
    rw [hb] at HC
    clear hb HM HS
    go_wp2_with fail
    refine (HC.out _ HBX.out).mono ?_
    rintro e wq ⟨rfl, hq⟩
    have HBQ : Hid (Below w.heap.size w wq) := below_step HB.out HB.out.size (below_step HBX.out HBX.out.size hq)
    have HRQ : Hid (RowD wq w.heap.size v (lacksL ws (ds.take (k + 1)))) := by
     rw [HE.out]
     exact HR.out.below (below_step HBX.out HBX.out.size hq)
    clear hq HC HR HB HBX
    go_wp2
    exact ⟨⟨k + 1, _, by omega, by go_num, rfl, HRQ, HBQ⟩, by simp [intOf]; omega⟩
  ·have hkk : k = m := by omega
   subst hkk
   have HF : Hid (RowD wr w.heap.size v (lacksL ws ds)) := by
    have h := HR.out
    rw [List.take_of_length_le (by rw [HL.out]; exact Nat.le_refl _)] at h
    exact h
   go_wp2
   go_ret
   exact ⟨_, rfl, HF.out, HB.out⟩
set_option maxHeartbeats 1000000 in
theorem implCovered_any (a ad : Option Addr) (n m cap cd : Nat) (ws : List Wr) (ds : List Dp) (w : World) (hn : ws.length = n) (hm : n ≤ 1048576) (hl : ds.length = m) (hml : m ≤ 1048576) (hh : IsWs w a ws) (hd : IsDeps w ad ds) :
  Calls Tryz.prog 16 #[.slice a n cap, .slice ad m cd] w fun e w' => e = .returned (.bool (covB ws ds)) ∧ Below w.heap.size w w' := by
 have HC : Hid (Calls Tryz.prog 65 #[.slice a n cap, .slice ad m cd] w fun e w' => ∃ v, e = .returned v ∧ RowD w' w.heap.size v (lacksL ws ds) ∧ Below w.heap.size w w') := implLacks_any a ad n m cap cd ws ds w hn hm hl hml hh hd
 have HE : Hid (covB ws ds = (((lacksL ws ds).length : Int) == 0)) := by
  unfold covB
  show _ = _
  rw [Bool.eq_iff_iff]
  simp
 clear hh hd hn hl
 go_enter Tryz.func16, Tryz.ntmps16
 go_wp2_with fail
 refine HC.out.mono ?_
 rintro e w1 ⟨v, rfl, hrow, hb⟩
 obtain ⟨al, cl, rfl, -⟩ := hrow.form
 have HB := Lib.hid hb
 clear hrow hb HC
 go_wp2
 go_ret
 exact ⟨ret_bool HE.out.symm, HB.out⟩
def cutB (ws : List Wr) : Bool := mapOkB ws && ws.all fun x => covB ws x.xs
theorem cut_false {ws : List Wr} {k : Nat} (h : k < ws.length) (hk : covB ws (ws.getD k wz).xs = false) : cutB ws = false := by
 unfold cutB
 rw [Bool.and_eq_false_iff]
 refine .inr ?_
 rw [List.all_eq_false]
 refine ⟨ws.getD k wz, ?_, by rw [hk]; simp⟩
 have e : ws.getD k wz = ws[k] := by simp [List.getD, h]
 rw [e]
 exact List.getElem_mem h
theorem cut_true {ws : List Wr} {n : Nat} (hn : ws.length = n) (hm : mapOkB ws = true) (h : ∀ j, j < n → covB ws (ws.getD j wz).xs = true) : cutB ws = true := by
 unfold cutB
 rw [hm, Bool.true_and, List.all_eq_true]
 intro x hx
 obtain ⟨i, hi, rfl⟩ := List.mem_iff_getElem.1 hx
 have := h i (by rw [← hn]; exact hi)
 simpa [List.getD, hi] using this
theorem upto_next {P : Nat → Prop} {k : Nat} (h : ∀ j, j < k → P j) (hk : P k) : ∀ j, j < k + 1 → P j := fun j hj => by
 by_cases e : j < k
 ·exact h j e
 ·have : j = k := by omega
  rw [this]
  exact hk
set_option maxHeartbeats 2000000 in
theorem specIsCut_any (a : Option Addr) (n cap : Nat) (ws : List Wr) (w : World) (hn : ws.length = n) (hm : n ≤ 1048576) (hx : Few ws) (hh : IsWs w a ws) :
  Calls Tryz.prog 86 #[.slice a n cap] w fun e w' => e = .returned (.bool (cutB ws)) ∧ Below w.heap.size w w' := by
 have HH : Hid (IsWs w a ws) := hh
 have HN : Hid (ws.length = n) := hn
 have HX : Hid (Few ws) := hx
 have HC : Hid (Calls Tryz.prog 124 #[.slice a n cap] w fun e w' => e = .returned (.bool (mapOkB ws)) ∧ Below w.heap.size w w') := specMapOk_gen a n cap ws w hn hm hx hh
 clear hh hn hx
 cases ha : mapOkB ws
 ·have HE : Hid (cutB ws = false) := by unfold cutB; rw [ha, Bool.false_and]; exact Lib.hid rfl
  rw [ha] at HC
  clear ha
  go_enter Tryz.func86, Tryz.ntmps86
  go_wp2_with fail
  refine HC.out.mono ?_
  rintro e w1 ⟨rfl, hb⟩
  have HB1 := Lib.hid hb
  clear hb
  go_wp2
  go_ret
  exact ⟨ret_bool HE.out.symm, HB1.out⟩
 have HA := Lib.hid ha
 rw [ha] at HC
 clear ha
 go_enter Tryz.func86, Tryz.ntmps86
 go_wp2_with fail
 refine HC.out.mono ?_
 rintro e w1 ⟨rfl, hb⟩
 have HB1 := Lib.hid hb
 clear hb HC
 go_wp2
 go_loopw [3] (fun i wr => ∃ k : Nat, k ≤ n ∧ i = .int .i64 k ∧ Hid (∀ j, j < k → covB ws (ws.getD j wz).xs = true) ∧ Hid (Below w.heap.size w wr)) (fun i _ => n - (intOf i).toNat)
 case atStart => exact ⟨0, Nat.zero_le _, rfl, fun j hj => absurd hj (Nat.not_lt_zero j), HB1⟩
 case round =>
  clear HB1
  obtain ⟨k, hk, rfl, HK, HB⟩ := hrel
  by_cases hk' : k < n
  ·obtain ⟨b1, o1, ad, cp, ha1, hz, ⟨e0, e1, e2, e3, e4, e5, e6⟩, hd⟩ := HH.out.at HB.out HN.out hk'
   have i1 : (0 : Int) ≤ (k : Int) := by omega
   have i2 : (k : Int) < (n : Int) := by omega
   have hkm : k < ws.length := by rw [HN.out]; exact hk'
   have HW : Hid (Calls Tryz.prog 129 #[.slice a n cap, .slice ad (ws.getD k wz).xs.length cp] wr fun e w' => e = .returned (.bool (covB ws (ws.getD k wz).xs)) ∧ Below wr.heap.size wr w') := specCovered_any a ad n _ cap cp ws _ wr HN.out hm HX.out rfl (HX.out k hkm) (HH.out.below HB.out) hd
   subst ha1
   clear hd HH e0 e1 e2 e3 e4 e5
   cases h1 : covB ws (ws.getD k wz).xs
   ·have HF : Hid (cutB ws = false) := cut_false hkm h1
    rw [h1] at HW
    clear h1
    generalize (ws.getD k wz).xs = xx at *
    go_wp2_with fail
    refine HW.out.mono ?_
    rintro e w2 ⟨rfl, hb⟩
    have HB2 : Hid (Below w.heap.size w w2) := below_step HB.out HB.out.size hb
    clear hb
    go_wp2
    go_ret
    exact ⟨ret_bool HF.out.symm, HB2.out⟩
   ·have HK2 : Hid (∀ j, j < k + 1 → covB ws (ws.getD j wz).xs = true) := upto_next HK.out h1
    rw [h1] at HW
    clear h1
    generalize (ws.getD k wz).xs = xx at *
    go_wp2_with fail
    refine HW.out.mono ?_
    rintro e w2 ⟨rfl, hb⟩
    have HB2 : Hid (Below w.heap.size w w2) := below_step HB.out HB.out.size hb
    clear hb
    go_wp2
    exact ⟨⟨k + 1, by omega, by go_num, HK2, HB2⟩, by simp [intOf]; omega⟩
  ·have hkk : k = n := by omega
   subst hkk
   have HF : Hid (cutB ws = true) := cut_true HN.out HA.out HK.out
   go_wp2
   go_ret
   exact ⟨ret_bool HF.out.symm, HB.out⟩
set_option maxHeartbeats 2000000 in
theorem implIsCut_any (a : Option Addr) (n cap : Nat) (ws : List Wr) (w : World) (hn : ws.length = n) (hm : n ≤ 1048576) (hx : Few ws) (hh : IsWs w a ws) :
  Calls Tryz.prog 62 #[.slice a n cap] w fun e w' => e = .returned (.bool (cutB ws)) ∧ Below w.heap.size w w' := by
 have HH : Hid (IsWs w a ws) := hh
 have HN : Hid (ws.length = n) := hn
 have HX : Hid (Few ws) := hx
 have HC : Hid (Calls Tryz.prog 66 #[.slice a n cap] w fun e w' => e = .returned (.bool (mapOkB ws)) ∧ Below w.heap.size w w') := implMapOk_any a n cap ws w hn hm hx hh
 clear hh hn hx
 cases ha : mapOkB ws
 ·have HE : Hid (cutB ws = false) := by unfold cutB; rw [ha, Bool.false_and]; exact Lib.hid rfl
  rw [ha] at HC
  clear ha
  go_enter Tryz.func62, Tryz.ntmps62
  go_wp2_with fail
  refine HC.out.mono ?_
  rintro e w1 ⟨rfl, hb⟩
  have HB1 := Lib.hid hb
  clear hb
  go_wp2
  go_ret
  exact ⟨ret_bool HE.out.symm, HB1.out⟩
 have HA := Lib.hid ha
 rw [ha] at HC
 clear ha
 go_enter Tryz.func62, Tryz.ntmps62
 go_wp2_with fail
 refine HC.out.mono ?_
 rintro e w1 ⟨rfl, hb⟩
 have HB1 := Lib.hid hb
 clear hb HC
 go_wp2
 go_loopw [10] (fun i wr => ∃ k : Nat, k ≤ n ∧ i = .int .i64 k ∧ Hid (∀ j, j < k → covB ws (ws.getD j wz).xs = true) ∧ Hid (Below w.heap.size w wr)) (fun i _ => n - (intOf i).toNat)
 case atStart => exact ⟨0, Nat.zero_le _, rfl, fun j hj => absurd hj (Nat.not_lt_zero j), HB1⟩
 case round =>
  clear HB1
  obtain ⟨k, hk, rfl, HK, HB⟩ := hrel
  by_cases hk' : k < n
  ·obtain ⟨b1, o1, ad, cp, ha1, hz, ⟨e0, e1, e2, e3, e4, e5, e6⟩, hd⟩ := HH.out.at HB.out HN.out hk'
   have i1 : (0 : Int) ≤ (k : Int) := by omega
   have i2 : (k : Int) < (n : Int) := by omega
   have hkm : k < ws.length := by rw [HN.out]; exact hk'
   have HW : Hid (∀ W, Below wr.heap.size wr W → Calls Tryz.prog 16 #[.slice a n cap, .slice ad (ws.getD k wz).xs.length cp] W fun e w' => e = .returned (.bool (covB ws (ws.getD k wz).xs)) ∧ Below W.heap.size W w') := fun W hW => implCovered_any a ad n _ cap cp ws _ W HN.out hm rfl (HX.out k hkm) (HH.out.below (below_step HB.out HB.out.size hW)) (hd.below hW)
   subst ha1
   have HK1 : Hid (covB ws (ws.getD k wz).xs = true → ∀ j, j < k + 1 → covB ws (ws.getD j wz).xs = true) := fun h1 => upto_next HK.out h1
   have HF1 : Hid (covB ws (ws.getD k wz).xs = false → cutB ws = false) := fun h1 => cut_false hkm h1
   clear hd HH HK
   generalize ws.getD k wz = x at *
   obtain ⟨xk, xc, xs', xq, xv, xd, xx⟩ := x
   simp only at e0 e1 e2 e3 e4 e5 e6 HW HK1 HF1
   cases h1 : covB ws xx
   ·have HF := Lib.hid (HF1.out h1)
    rw [h1] at HW
    clear h1 HK1 HF1
    go_wp2_with fail
    refine (HW.out _ ((Below.refl _ _).alloc (Nat.le_refl _) _)).mono ?_
    rintro e w2 ⟨rfl, hb⟩
    have HB2 : Hid (Below w.heap.size w w2) := below_step HB.out HB.out.size (BoxIn.start hb).below
    clear hb
    go_wp2
    go_ret
    exact ⟨ret_bool HF.out.symm, HB2.out⟩
   ·have HK2 := Lib.hid (HK1.out h1)
    rw [h1] at HW
    clear h1 HK1 HF1
    go_wp2_with fail
    refine (HW.out _ ((Below.refl _ _).alloc (Nat.le_refl _) _)).mono ?_
    rintro e w2 ⟨rfl, hb⟩
    have HB2 : Hid (Below w.heap.size w w2) := below_step HB.out HB.out.size (BoxIn.start hb).below
    clear hb
    go_wp2
    exact ⟨⟨k + 1, by omega, by go_num, HK2, HB2⟩, by simp [intOf]; omega⟩
  ·have hkk : k = n := by omega
   subst hkk
   have HF : Hid (cutB ws = true) := cut_true HN.out HA.out HK.out
   go_wp2
   go_ret
   exact ⟨ret_bool HF.out.symm, HB.out⟩
end Go.Proofs.YteladgfdedlmjaaGreatDoor
namespace Go.Proofs.YteladgfdedlmjaaGreatDoor
open Go.ChangeShapes Go.WideShapes Go.ChangeAt Go.RowKit Go.Joins
attribute [local go_sem ↓] Go.wp_at_zero Go.wp_at_succ
def sameB (us vs : List Wr) : Bool := decide (us.length = vs.length) && (List.range us.length).all fun i => decide (cmpW (us.getD i wz) (vs.getD i wz) = 0)
theorem same_len {us vs : List Wr} (h : us.length ≠ vs.length) : sameB us vs = false := by
 unfold sameB
 rw [decide_eq_false h, Bool.false_and]
theorem same_false {us vs : List Wr} {i : Nat} (hi : i < us.length) (h : cmpW (us.getD i wz) (vs.getD i wz) ≠ 0) : sameB us vs = false := by
 unfold sameB
 rw [Bool.and_eq_false_iff]
 refine .inr ?_
 rw [List.all_eq_false]
 exact ⟨i, List.mem_range.2 hi, by simpa using h⟩
theorem same_true {us vs : List Wr} (hl : us.length = vs.length) (h : ∀ i, i < us.length → cmpW (us.getD i wz) (vs.getD i wz) = 0) : sameB us vs = true := by
 unfold sameB
 rw [decide_eq_true hl, Bool.true_and, List.all_eq_true]
 intro i hi
 exact decide_eq_true (h i (List.mem_range.1 hi))
set_option maxHeartbeats 1000000 in
theorem sameWrite_any (x y : Wr) (a a' : Option Addr) (cp cp' : Nat) (w : World) (hn : x.xs.length ≤ 1048576) (hm : y.xs.length ≤ 1048576) (hh : IsDeps w a x.xs) (hh' : IsDeps w a' y.xs) :
  Calls Tryz.prog 64 #[wrOf x a cp, wrOf y a' cp'] w fun e w' => e = .returned (.bool (cmpW x y == 0)) ∧ Below w.heap.size w w' := by
 obtain ⟨xk, xc, xs', xq, xv, xd, xx⟩ := x
 obtain ⟨yk, yc, ys, yq, yv, yd, yy⟩ := y
 have HB : Hid (Below w.heap.size w ((w.alloc (.cells #[.int .i64 xk, .int .i64 xc, .int .i64 xs', .int .i64 xq, .int .i64 xv, .bool xd, .slice a xx.length cp] 33)).alloc (.cells #[.int .i64 yk, .int .i64 yc, .int .i64 ys, .int .i64 yq, .int .i64 yv, .bool yd, .slice a' yy.length cp'] 33))) := ((Below.refl _ _).alloc (Nat.le_refl _) _).alloc (by simp) _
 have HI := Lib.hid (hh.below HB.out)
 have HJ := Lib.hid (hh'.below HB.out)
 clear hh hh'
 go_enter Tryz.func64, Tryz.ntmps64
 go_wp2_with fail
 refine (implWriteCmp_gen xk xc xs' xq xv xd a xx _ cp yk yc ys yq yv yd a' yy _ cp' _ rfl rfl hn hm HI.out HJ.out).mono ?_
 rintro e w1 ⟨rfl, hb⟩
 have HB1 := Lib.hid (below_step HB.out HB.out.size hb)
 clear hb
 go_wp2
 go_ret
 exact ⟨rfl, HB1.out⟩
set_option maxHeartbeats 4000000 in
theorem equalFunc_any (a b : Option Addr) (n m cap cap' : Nat) (us vs : List Wr) (w : World) (hn : us.length = n) (hm : vs.length = m) (hn1 : n ≤ 1048576) (hm1 : m ≤ 1048576) (hx : Few us) (hy : Few vs) (hi : IsWs w a us) (hj : IsWs w b vs) :
  Calls Tryz.prog 63 #[.slice a n cap, .slice b m cap', .func (.func 64) #[] #[]] w fun e w' => e = .returned (.bool (sameB us vs)) ∧ Below w.heap.size w w' := by
 have HI : Hid (IsWs w a us) := hi
 have HJ : Hid (IsWs w b vs) := hj
 have HN : Hid (us.length = n) := hn
 have HM : Hid (vs.length = m) := hm
 have HX : Hid (Few us) := hx
 have HY : Hid (Few vs) := hy
 clear hi hj hn hm hx hy
 by_cases hnm : n = m
 case neg =>
  have HF : Hid (sameB us vs = false) := same_len (by rw [HN.out, HM.out]; exact hnm)
  have hb : ((n : Int) != (m : Int)) = true := by rw [bne_iff_ne]; omega
  go_enter Tryz.func63, Tryz.ntmps63
  go_wp2
  go_ret
  exact ⟨ret_bool HF.out.symm, Below.refl _ _⟩
 subst hnm
 go_enter Tryz.func63, Tryz.ntmps63
 go_wp2
 go_loopw [17] (fun i wr => ∃ k : Nat, k ≤ n ∧ i = .int .i64 k ∧ Hid (∀ j, j < k → cmpW (us.getD j wz) (vs.getD j wz) = 0) ∧ Hid (Below w.heap.size w wr)) (fun i _ => n - (intOf i).toNat)
 case atStart => exact ⟨0, Nat.zero_le _, rfl, fun j hj => absurd hj (Nat.not_lt_zero j), Below.refl _ _⟩
 case round =>
  obtain ⟨k, hk, rfl, HK, HB⟩ := hrel
  by_cases hk' : k < n
  ·obtain ⟨b1, o1, ad, cp, rfl, hz, ⟨e0, e1, e2, e3, e4, e5, e6⟩, hd⟩ := HI.out.at HB.out HN.out hk'
   obtain ⟨b2, o2, ad', cp', rfl, hz', ⟨f0, f1, f2, f3, f4, f5, f6⟩, hd'⟩ := HJ.out.at HB.out HM.out hk'
   have i1 : (0 : Int) ≤ (k : Int) := by omega
   have i2 : (k : Int) < (n : Int) := by omega
   have HS : Hid (∀ W, Below wr.heap.size wr W → Calls Tryz.prog 64 #[wrOf (us.getD k wz) ad cp, wrOf (vs.getD k wz) ad' cp'] W fun e w' => e = .returned (.bool (cmpW (us.getD k wz) (vs.getD k wz) == 0)) ∧ Below W.heap.size W w') := fun W hW =>
    sameWrite_any _ _ ad ad' cp cp' W (HX.out k (by rw [HN.out]; exact hk')) (HY.out k (by rw [HM.out]; exact hk')) (hd.below hW) (hd'.below hW)
   have HE : Hid (cmpW (us.getD k wz) (vs.getD k wz) ≠ 0 → sameB us vs = false) := fun h => same_false (by rw [HN.out]; exact hk') h
   have HK' : Hid (cmpW (us.getD k wz) (vs.getD k wz) = 0 → ∀ j, j < k + 1 → cmpW (us.getD j wz) (vs.getD j wz) = 0) := fun h j hj => by
    by_cases h' : j < k
    ·exact HK.out j h'
    ·have : j = k := by omega
     rw [this]
     exact h
   clear hd hd' HI HJ
   by_cases hc : cmpW (us.getD k wz) (vs.getD k wz) = 0
   ·have HK2 := Lib.hid (HK'.out hc)
    have hcb : (cmpW (us.getD k wz) (vs.getD k wz) == 0) = true := by simpa using hc
    rw [hcb] at HS
    clear hc hcb HE HK'
    generalize us.getD k wz = x at *
    generalize vs.getD k wz = y at *
    obtain ⟨xk, xc, xs', xq, xv, xd, xx⟩ := x
    obtain ⟨yk, yc, ys, yq, yv, yd, yy⟩ := y
    simp only at e0 e1 e2 e3 e4 e5 e6 f0 f1 f2 f3 f4 f5 f6 HS
    go_wp2_with fail
    refine (HS.out _ (((Below.refl _ _).alloc (Nat.le_refl _) _).alloc (by simp) _)).mono ?_
    rintro e w2 ⟨rfl, hb⟩
    have HB2 : Hid (Below w.heap.size w w2) := below_step HB.out HB.out.size (below_step (((Below.refl _ _).alloc (Nat.le_refl _) _).alloc (by simp) _) (by simp; omega) hb)
    clear hb
    go_wp2
    exact ⟨⟨k + 1, by omega, by go_num, HK2, HB2⟩, by simp [intOf]; omega⟩
   ·have HF := Lib.hid (HE.out hc)
    have hcb : (cmpW (us.getD k wz) (vs.getD k wz) == 0) = false := by simpa using hc
    rw [hcb] at HS
    clear hc hcb HE HK'
    generalize us.getD k wz = x at *
    generalize vs.getD k wz = y at *
    obtain ⟨xk, xc, xs', xq, xv, xd, xx⟩ := x
    obtain ⟨yk, yc, ys, yq, yv, yd, yy⟩ := y
    simp only at e0 e1 e2 e3 e4 e5 e6 f0 f1 f2 f3 f4 f5 f6 HS
    go_wp2_with fail
    refine (HS.out _ (((Below.refl _ _).alloc (Nat.le_refl _) _).alloc (by simp) _)).mono ?_
    rintro e w2 ⟨rfl, hb⟩
    have HB2 : Hid (Below w.heap.size w w2) := below_step HB.out HB.out.size (below_step (((Below.refl _ _).alloc (Nat.le_refl _) _).alloc (by simp) _) (by simp; omega) hb)
    clear hb
    go_wp2
    go_ret
    exact ⟨ret_bool HF.out.symm, HB2.out⟩
  ·have hkk : k = n := by omega
   subst hkk
   have HF : Hid (sameB us vs = true) := same_true (by rw [HN.out, HM.out]) (fun i hi => HK.out i (by rw [← HN.out]; exact hi))
   go_wp2
   go_ret
   exact ⟨ret_bool HF.out.symm, HB.out⟩
def withinB (us vs : List Wr) : Bool := mapOkB us && (mapOkB vs && sameB (joinB us vs) vs)
set_option maxHeartbeats 4000000 in
theorem l02Same_gen (a b : Option Addr) (n m cap cap' : Nat) (us vs : List Wr) (w : World) (hn : us.length = n) (hm : vs.length = m) (hn1 : n ≤ 1048576) (hm1 : m ≤ 1048576) (hx : Few us) (hy : Few vs) (hi : IsWs w a us) (hj : IsWs w b vs) :
  Calls Tryz.prog 88 #[.slice a n cap, .slice b m cap'] w fun e w' => e = .returned (.bool (sameB us vs)) ∧ Below w.heap.size w w' := by
 have HI : Hid (IsWs w a us) := hi
 have HJ : Hid (IsWs w b vs) := hj
 have HN : Hid (us.length = n) := hn
 have HM : Hid (vs.length = m) := hm
 have HX : Hid (Few us) := hx
 have HY : Hid (Few vs) := hy
 clear hi hj hn hm hx hy
 by_cases hnm : n = m
 case neg =>
  have HF : Hid (sameB us vs = false) := same_len (by rw [HN.out, HM.out]; exact hnm)
  have hb : ((n : Int) != (m : Int)) = true := by rw [bne_iff_ne]; omega
  go_enter Tryz.func88, Tryz.ntmps88
  go_wp2
  go_ret
  exact ⟨ret_bool HF.out.symm, Below.refl _ _⟩
 subst hnm
 go_enter Tryz.func88, Tryz.ntmps88
 go_wp2
 go_loopw [5] (fun i wr => ∃ k : Nat, k ≤ n ∧ i = .int .i64 k ∧ Hid (∀ j, j < k → cmpW (us.getD j wz) (vs.getD j wz) = 0) ∧ Hid (Below w.heap.size w wr)) (fun i _ => n - (intOf i).toNat)
 case atStart => exact ⟨0, Nat.zero_le _, rfl, fun j hj => absurd hj (Nat.not_lt_zero j), Below.refl _ _⟩
 case round =>
  obtain ⟨k, hk, rfl, HK, HB⟩ := hrel
  by_cases hk' : k < n
  ·obtain ⟨b1, o1, ad, cp, rfl, hz, ⟨e0, e1, e2, e3, e4, e5, e6⟩, hd⟩ := HI.out.at HB.out HN.out hk'
   obtain ⟨b2, o2, ad', cp', rfl, hz', ⟨f0, f1, f2, f3, f4, f5, f6⟩, hd'⟩ := HJ.out.at HB.out HM.out hk'
   have i1 : (0 : Int) ≤ (k : Int) := by omega
   have i2 : (k : Int) < (n : Int) := by omega
   have HC : Hid (∀ p : Aft wr.heap.size wr, Calls Tryz.prog 13 #[wrOf (us.getD k wz) ad cp, wrOf (vs.getD k wz) ad' cp'] p.now fun e w' => e = .returned (.int .i64 (cmpW (us.getD k wz) (vs.getD k wz))) ∧ Below p.now.heap.size p.now w') := fun p =>
    specWriteCmp_gen _ _ _ _ _ _ _ (us.getD k wz).xs _ _ _ _ _ _ _ _ _ (vs.getD k wz).xs _ _ _ rfl rfl (HX.out k (by rw [HN.out]; exact hk')) (HY.out k (by rw [HM.out]; exact hk')) (hd.below p.below) (hd'.below p.below)
   have HE : Hid (cmpW (us.getD k wz) (vs.getD k wz) ≠ 0 → sameB us vs = false) := fun h => same_false (by rw [HN.out]; exact hk') h
   have HK' : Hid (cmpW (us.getD k wz) (vs.getD k wz) = 0 → ∀ j, j < k + 1 → cmpW (us.getD j wz) (vs.getD j wz) = 0) := fun h j hj => by
    by_cases h' : j < k
    ·exact HK.out j h'
    ·have : j = k := by omega
     rw [this]
     exact h
   clear hd hd' HI HJ
   by_cases hc : cmpW (us.getD k wz) (vs.getD k wz) = 0
   ·have HK2 := Lib.hid (HK'.out hc)
    rw [hc] at HC
    clear hc HE HK'
    generalize us.getD k wz = x at *
    generalize vs.getD k wz = y at *
    obtain ⟨xk, xc, xs', xq, xv, xd, xx⟩ := x
    obtain ⟨yk, yc, ys, yq, yv, yd, yy⟩ := y
    simp only at e0 e1 e2 e3 e4 e5 e6 f0 f1 f2 f3 f4 f5 f6 HC
    go_wp2_with fail
    have ge0 := aft_cell hz e0
    have ge1 := aft_cell hz e1
    have ge2 := aft_cell hz e2
    have ge3 := aft_cell hz e3
    have ge4 := aft_cell hz e4
    have ge5 := aft_cell hz e5
    have ge6 := aft_cell hz e6
    have gf0 := aft_cell hz' f0
    have gf1 := aft_cell hz' f1
    have gf2 := aft_cell hz' f2
    have gf3 := aft_cell hz' f3
    have gf4 := aft_cell hz' f4
    have gf5 := aft_cell hz' f5
    have gf6 := aft_cell hz' f6
    have ne := aft_some wr
    refine wp_region_aft (by kernel_rfl) (by kernel_rfl) ?_
    repeat (first | go_big_quiet_step (first | (go_at_call 13; exact aft_of (HC.out _))))
    refine wpQuiet_nil ?_
    intro wq hq
    have HBQ : Hid (Below w.heap.size w wq) := below_step HB.out HB.out.size hq
    clear hq
    go_wp2
    exact ⟨⟨k + 1, by omega, by go_num, HK2, HBQ⟩, by simp [intOf]; omega⟩
   ·have HF := Lib.hid (HE.out hc)
    have hcb : (cmpW (us.getD k wz) (vs.getD k wz) != 0) = true := by rw [bne_iff_ne]; exact hc
    clear hc HE HK'
    generalize cmpW (us.getD k wz) (vs.getD k wz) = z at *
    generalize us.getD k wz = x at *
    generalize vs.getD k wz = y at *
    obtain ⟨xk, xc, xs', xq, xv, xd, xx⟩ := x
    obtain ⟨yk, yc, ys, yq, yv, yd, yy⟩ := y
    simp only at e0 e1 e2 e3 e4 e5 e6 f0 f1 f2 f3 f4 f5 f6 HC
    go_wp2_with fail
    have ge0 := aft_cell hz e0
    have ge1 := aft_cell hz e1
    have ge2 := aft_cell hz e2
    have ge3 := aft_cell hz e3
    have ge4 := aft_cell hz e4
    have ge5 := aft_cell hz e5
    have ge6 := aft_cell hz e6
    have gf0 := aft_cell hz' f0
    have gf1 := aft_cell hz' f1
    have gf2 := aft_cell hz' f2
    have gf3 := aft_cell hz' f3
    have gf4 := aft_cell hz' f4
    have gf5 := aft_cell hz' f5
    have gf6 := aft_cell hz' f6
    have ne := aft_some wr
    refine wp_region_aft (by kernel_rfl) (by kernel_rfl) ?_
    repeat (first | go_big_quiet_step (first | (go_at_call 13; exact aft_of (HC.out _))))
    refine wpQuiet_nil ?_
    intro wq hq
    have HBQ : Hid (Below w.heap.size w wq) := below_step HB.out HB.out.size hq
    clear hq
    go_wp2
    go_ret
    exact ⟨ret_bool HF.out.symm, HBQ.out⟩
  ·have hkk : k = n := by omega
   subst hkk
   have HF : Hid (sameB us vs = true) := same_true (by rw [HN.out, HM.out]) (fun i hi => HK.out i (by rw [← HN.out]; exact hi))
   go_wp2
   go_ret
   exact ⟨ret_bool HF.out.symm, HB.out⟩
end Go.Proofs.YteladgfdedlmjaaGreatDoor
namespace Go.Proofs.YteladgfdedlmjaaGreatDoor
theorem dcmp_zero {d e : Dp} (h : dcmp d e = 0) : d = e := by
 obtain ⟨k, c, s, q⟩ := d
 obtain ⟨k', c', s', q'⟩ := e
 unfold dcmp at h
 simp only at h
 by_cases hk : k = k'
 ·rw [if_neg (by simp [hk])] at h
  obtain ⟨rfl, rfl, rfl⟩ := tcmp_zero.1 h
  rw [hk]
 ·rw [if_pos hk] at h
  exact absurd (sgn_zero.1 h) hk
theorem depsCmp_zero : ∀ {xs ys : List Dp}, depsCmp xs ys = 0 → xs = ys
 | [], [], _ => rfl
 | [], _ :: _, h => by simp [depsCmp] at h
 | _ :: _, [], h => by simp [depsCmp] at h
 | d :: r, e :: t, h => by
  unfold depsCmp at h
  by_cases hd : dcmp d e = 0
  ·rw [if_neg (by simp [hd])] at h
   rw [dcmp_zero hd, depsCmp_zero h]
  ·rw [if_pos hd] at h
   exact absurd h hd
theorem cmpW_zero {x y : Wr} (h : cmpW x y = 0) : x = y := by
 obtain ⟨k, c, s, q, v, de, xs⟩ := x
 obtain ⟨k', c', s', q', v', de', ys⟩ := y
 unfold cmpW wcmp at h
 simp only at h
 by_cases h1 : tcmp c s q c' s' q' = 0
 ·rw [if_neg (by simp [h1])] at h
  obtain ⟨rfl, rfl, rfl⟩ := tcmp_zero.1 h1
  by_cases h2 : k = k'
  ·subst h2
   rw [if_neg (by simp)] at h
   by_cases h3 : v = v'
   ·subst h3
    rw [if_neg (by simp)] at h
    by_cases h4 : de = de'
    ·subst h4
     rw [if_neg (by simp)] at h
     rw [depsCmp_zero h]
    ·rw [if_pos h4] at h
     exact absurd (sgn_zero.1 h) (by cases de <;> cases de' <;> simp [bit] at h4 ⊢)
   ·rw [if_pos h3] at h
    exact absurd (sgn_zero.1 h) h3
  ·rw [if_pos h2] at h
   exact absurd (sgn_zero.1 h) h2
 ·rw [if_pos h1] at h
  exact absurd h h1
theorem cmpW_self (x : Wr) : cmpW x x = 0 := by
 have h := wcmp_neg x.k x.c x.s x.q x.v x.de x.xs x.k x.c x.s x.q x.v x.de x.xs
 unfold cmpW
 omega
theorem same_iff (us vs : List Wr) : sameB us vs = true ↔ us = vs := by
 constructor
 ·intro h
  unfold sameB at h
  rw [Bool.and_eq_true, decide_eq_true_eq, List.all_eq_true] at h
  refine List.ext_getElem h.1 fun i h1 h2 => ?_
  have h3 := h.2 i (List.mem_range.2 h1)
  have e1 : us.getD i wz = us[i] := by simp [List.getD, h1]
  have e2 : vs.getD i wz = vs[i] := by simp [List.getD, h2]
  rw [decide_eq_true_eq, e1, e2] at h3
  exact cmpW_zero h3
 ·rintro rfl
  exact same_true rfl fun i _ => cmpW_self _
def later2 (a b : Option Wr) : Option Wr := match b with
 | none => a
 | some y => some (laterO a y)
theorem fold_find : ∀ (b : List Wr) (M : Int → Option Wr), Rise b → ∀ key, b.foldl regPut M key = later2 (M key) (findW b key)
 | [], M, _, key => rfl
 | x :: r, M, h, key => by
  have hp := List.pairwise_cons.1 h
  show r.foldl regPut (regPut M x) key = _
  rw [fold_find r (regPut M x) hp.2 key, findW_cons]
  by_cases hk : x.k = key
  ·subst hk
   rw [if_pos rfl, findW_past (fun z hz => hp.1 z hz)]
   show regPut M x x.k = _
   unfold regPut later2
   rw [if_pos rfl]
  ·rw [if_neg hk]
   unfold regPut
   rw [if_neg (Ne.symm hk)]
theorem find_join {a b : List Wr} (ha : Rise a) (hb : Rise b) (key : Int) : findW (joinW a b) key = later2 (findW a key) (findW b key) := by
 rw [(join_spec b a ha).2.2 key, fold_find b _ hb]
theorem later_some (x y : Wr) : later2 (some x) (some y) = some (if cmpW x y < 0 then y else x) := rfl
theorem cmpW_turn (x y : Wr) : cmpW y x = -cmpW x y := wcmp_neg ..
theorem later_self (a : Option Wr) : later2 a a = a := by
 cases a with
 | none => rfl
 | some x => rw [later_some, if_neg (by rw [cmpW_self]; omega)]
theorem cmpW_three (x y z : Wr) : T3 (cmpW x y) (cmpW y z) (cmpW x z) := wcmp_three ..
theorem later_assoc (a b c : Option Wr) : later2 (later2 a b) c = later2 a (later2 b c) := by
 cases c with
 | none => rfl
 | some z =>
  cases b with
  | none => rfl
  | some y =>
   cases a with
   | none =>
    show later2 (some y) (some z) = later2 none (later2 (some y) (some z))
    rw [later_some]
    rfl
   | some x =>
    rw [later_some x y, later_some y z]
    have t1 := cmpW_three x y z
    have t2 := cmpW_three z y x
    rw [cmpW_turn y z, cmpW_turn x y, cmpW_turn x z] at t2
    by_cases h1 : cmpW x y < 0
    ·rw [if_pos h1, later_some]
     by_cases h2 : cmpW y z < 0
     ·rw [if_pos h2, later_some, if_pos (t1.n h1 h2)]
     ·rw [if_neg h2, later_some, if_pos h1]
    ·rw [if_neg h1, later_some]
     by_cases h2 : cmpW y z < 0
     ·rw [if_pos h2, later_some]
     ·rw [if_neg h2, later_some, if_neg h1]
      by_cases h3 : cmpW x z < 0
      ·exfalso
       rcases t2.on (by omega) (by omega) with h4 | h4 <;> omega
      ·rw [if_neg h3]
structure OkM (ws : List Wr) : Prop where
 rise : Rise ws
 keys : ∀ x ∈ ws, 0 ≤ x.k ∧ x.k ≤ 5
theorem OkM.join {a b : List Wr} (ha : OkM a) (hb : OkM b) : OkM (joinW a b) where
 rise := (join_spec b a ha.rise).1
 keys := fun x hx => ((join_spec b a ha.rise).2.1 x hx).elim (ha.keys x) (hb.keys x)
theorem OkM.ext {a b : List Wr} (ha : OkM a) (hb : OkM b) (h : ∀ key, findW a key = findW b key) : a = b := by
 rw [← told_find ha.rise ha.keys, ← told_find hb.rise hb.keys, funext h]
theorem join_self {a : List Wr} (ha : OkM a) : joinW a a = a :=
 (ha.join ha).ext ha fun key => by rw [find_join ha.rise ha.rise, later_self]
theorem join_assoc {a b c : List Wr} (ha : OkM a) (hb : OkM b) (hc : OkM c) : joinW (joinW a b) c = joinW a (joinW b c) :=
 ((ha.join hb).join hc).ext (ha.join (hb.join hc)) fun key => by
  rw [find_join (ha.join hb).rise hc.rise, find_join ha.rise hb.rise, find_join ha.rise (hb.join hc).rise, find_join hb.rise hc.rise, later_assoc]
theorem joinB_yes {us vs : List Wr} (h : mapOkB us = true) (h' : mapOkB vs = true) : joinB us vs = joinW us vs := by
 unfold joinB
 exact if_pos ⟨h, h'⟩
theorem within_iff (us vs : List Wr) : withinB us vs = true ↔ mapOkB us = true ∧ mapOkB vs = true ∧ joinW us vs = vs := by
 unfold withinB
 rw [Bool.and_eq_true, Bool.and_eq_true, same_iff]
 constructor
 ·rintro ⟨h1, h2, h3⟩
  rw [joinB_yes h1 h2] at h3
  exact ⟨h1, h2, h3⟩
 ·rintro ⟨h1, h2, h3⟩
  refine ⟨h1, h2, ?_⟩
  rw [joinB_yes h1 h2]
  exact h3
end Go.Proofs.YteladgfdedlmjaaGreatDoor
namespace Go.Proofs.YteladgfdedlmjaaGreatDoor
open Go.ChangeShapes Go.WideShapes Go.ChangeAt Go.RowKit Go.Joins
set_option maxRecDepth 100000
attribute [local go_sem ↓] Go.wp_at_zero Go.wp_at_succ
noncomputable def smOkB (x : Sm) : Bool := btw x.si 0 3 && cutB x.ws && decide (x.t.size ≤ 60000) && btw x.cl 0 100000 && sameB (backX x.si x.t).ws x.ws && decide ((backX x.si x.t).t = x.t) && decide ((backX x.si x.t).sq = x.sq) && decide ((backX x.si x.t).la = x.la) && decide ((backX x.si x.t).cl ≤ x.cl)
theorem clock_nonneg (ws : List Wr) : 0 ≤ clockL ws := by
 have h : ∀ (ws : List Wr) (n : Int), 0 ≤ n → 0 ≤ ws.foldl (fun n x => max n x.c) n := by
  intro ws
  induction ws with
  | nil => exact fun n h => h
  | cons x r ih => exact fun n h => ih _ (by show 0 ≤ max n x.c; omega)
 exact h ws 0 (Int.le_refl 0)
theorem backX_cl (si : Int) (s : ByteArray) : 0 ≤ (backX si s).cl := by
 unfold backX
 split
 ·exact clock_nonneg _
 ·exact Int.le_refl 0
theorem bytes_beq (a b : ByteArray) : (a.toList == b.toList) = decide (a = b) := by
 rw [Bool.eq_iff_iff, decide_eq_true_iff, beq_iff_eq, ByteArray.toList_eq, ByteArray.toList_eq]
 constructor
 ·intro h
  cases a with
  | mk d =>
   cases b with
   | mk d' => exact congrArg ByteArray.mk (Array.toList_inj.1 h)
 ·rintro rfl
  rfl
set_option maxHeartbeats 8000000 in
theorem specOk_x (x : Sm) (a : Option Addr) (cap : Nat) (w : World) (hn : x.ws.length ≤ 1048576) (hx : Few x.ws) (ht : x.t.size ≤ 1048576) (h : IsWs w a x.ws) :
  Calls Tryz.prog 27 #[smV x a cap] w fun e w' => e = .returned (.bool (smOkB x)) ∧ Below w.heap.size w w' := by
 obtain ⟨si, cl, sq, la, ws, t⟩ := x
 simp only at hn hx ht h
 have H := Lib.hid h
 have HX := Lib.hid hx
 clear h hx
 unfold smV
 simp only
 obtain ⟨n, hnn⟩ : ∃ n, ws.length = n := ⟨_, rfl⟩
 rw [hnn] at hn ⊢
 have HN := Lib.hid hnn
 clear hnn
 have HB0 : Hid (Below w.heap.size w (w.alloc (.cells #[.int .i64 si, .int .i64 cl, .int .i64 sq, .int .i64 la, .slice a n cap, .string t] 26))) := (Below.refl _ _).alloc (Nat.le_refl _) _
 have HS0 := Lib.hid (SBox.start w si cl sq la a n cap t 26)
 obtain ⟨r, hr⟩ : ∃ r, r = smOkB ⟨si, cl, sq, la, ws, t⟩ := ⟨_, rfl⟩
 rw [← hr]
 unfold smOkB at hr
 simp only at hr
 have HR := Lib.hid hr
 clear hr
 unfold shV
 go_enter Tryz.func27, Tryz.ntmps27
 go_wp2_with fail
 generalize w.alloc (.cells #[.int .i64 si, .int .i64 cl, .int .i64 sq, .int .i64 la, .slice a n cap, .string t] 26) = W0 at *
 refine (site_any si _).mono ?_
 rintro e w1 ⟨rfl, hw⟩
 subst w1
 cases h1 : btw si 0 3
 ·have HF : Hid (r = false) := by rw [HR.out, h1]; exact Lib.hid (by simp)
  clear h1 HR
  go_wp2
  go_ret
  exact ⟨by rw [HF.out]; rfl, HB0.out⟩
 rw [h1] at HR
 obtain ⟨-, x0, x1, x2, x3, x4, x5, -⟩ := HS0.out
 go_wp2_with fail
 refine (specIsCut_any a n cap ws _ HN.out hn HX.out (H.out.below HB0.out)).mono ?_
 rintro e w2 ⟨rfl, hb⟩
 have HB2 := Lib.hid (below_step HB0.out HB0.out.size hb)
 have HS2 := Lib.hid (HS0.out.below hb)
 clear hb HB0 HS0 x0 x1 x2 x3 x4 x5
 obtain ⟨-, x0, x1, x2, x3, x4, x5, -⟩ := HS2.out
 cases h2 : cutB ws
 ·have HF : Hid (r = false) := by rw [HR.out, h2]; exact Lib.hid (by simp)
  clear h2 HR
  go_wp2
  go_ret
  exact ⟨by rw [HF.out]; rfl, HB2.out⟩
 rw [h2] at HR
 by_cases h3 : t.size ≤ 60000
 rotate_left
 ·have HF : Hid (r = false) := by rw [HR.out, decide_eq_false h3]; exact Lib.hid (by simp)
  have h3' : (60000 : Int) < (t.size : Int) := by omega
  clear HR
  go_wp2
  go_ret
  exact ⟨by rw [HF.out]; rfl, HB2.out⟩
 rw [decide_eq_true h3] at HR
 have h3' : ¬ (60000 : Int) < (t.size : Int) := by omega
 go_wp2_with fail
 refine (between_any _ _ _ _).mono ?_
 rintro e w3 ⟨rfl, hw⟩
 subst w3
 cases h4 : btw cl 0 100000
 ·have HF : Hid (r = false) := by rw [HR.out, h4]; exact Lib.hid (by simp)
  clear h4 HR
  go_wp2
  go_ret
  exact ⟨by rw [HF.out]; rfl, HB2.out⟩
 rw [h4] at HR
 go_wp2_with fail
 refine (specBack_x si t _ ht).mono ?_
 rintro e w4 ⟨ba, bc, rfl, hw, hb⟩
 have HB4 := Lib.hid (below_step HB2.out HB2.out.size hb)
 have HS4 := Lib.hid (HS2.out.below hb)
 have HW4 := Lib.hid hw
 have HOK := Lib.hid (backX_ok si t)
 obtain ⟨B, hB⟩ : ∃ B, B = backX si t := ⟨_, rfl⟩
 rw [← hB] at HR HW4 HOK
 rw [← hB]
 clear hb hw HB2 HS2 hB x0 x1 x2 x3 x4 x5
 have hb6 : B.ws.length ≤ 6 := mapOk_len HOK.out
 have HBF := Lib.hid (ok_few HOK.out)
 obtain ⟨bsi, bcl, bsq, bla, bws, bt⟩ := B
 simp only at HR HW4 HOK hb6 HBF
 unfold smV shV
 simp only
 obtain ⟨bn, hbn⟩ : ∃ bn, bws.length = bn := ⟨_, rfl⟩
 rw [hbn] at hb6 ⊢
 have HBN := Lib.hid hbn
 clear hbn
 have HA : Hid (Below w4.heap.size w4 (w4.alloc (.cells #[.int .i64 bsi, .int .i64 bcl, .int .i64 bsq, .int .i64 bla, .slice ba bn bc, .string bt] 26))) := (Below.refl _ _).alloc (Nat.le_refl _) _
 have HS5 := Lib.hid (SBox.start w4 bsi bcl bsq bla ba bn bc bt 26)
 have HS4' := Lib.hid (HS4.out.below HA.out)
 have HB5 := Lib.hid (below_step HB4.out HB4.out.size HA.out)
 have HW5 := Lib.hid (HW4.out.below HA.out)
 obtain ⟨-, x0, x1, x2, x3, x4, x5, -⟩ := HS4'.out
 obtain ⟨-, y0, y1, y2, y3, y4, y5, -⟩ := HS5.out
 go_wp2_with fail
 generalize (w4.alloc (.cells #[.int .i64 bsi, .int .i64 bcl, .int .i64 bsq, .int .i64 bla, .slice ba bn bc, .string bt] 26)) = V4 at *
 refine (l02Same_gen ba a bn n bc cap bws ws _ HBN.out HN.out (by omega) hn HBF.out HX.out HW5.out (H.out.below HB5.out)).mono ?_
 rintro e w6 ⟨rfl, hb⟩
 have HB6 := Lib.hid (below_step HB5.out HB5.out.size hb)
 have HS6 := Lib.hid (HS4'.out.below hb)
 have HS7 := Lib.hid (HS5.out.below hb)
 clear hb x0 x1 x2 x3 x4 x5 y0 y1 y2 y3 y4 y5 HB5 HS5 HS4' HB4 HS4 HA
 obtain ⟨-, x0, x1, x2, x3, x4, x5, -⟩ := HS6.out
 obtain ⟨-, y0, y1, y2, y3, y4, y5, -⟩ := HS7.out
 have hbe : ∀ p q : ByteArray, (p.toList == q.toList) = decide (p = q) := bytes_beq
 cases h5 : sameB bws ws
 ·have HF : Hid (r = false) := by rw [HR.out, h5]; exact Lib.hid (by simp)
  clear h5 HR
  go_wp2
  go_ret
  exact ⟨by rw [HF.out]; rfl, HB6.out⟩
 rw [h5] at HR
 by_cases h6 : bt = t
 rotate_left
 ·have HF : Hid (r = false) := by rw [HR.out, decide_eq_false h6]; exact Lib.hid (by simp)
  have h6' : (bt.toList == t.toList) = false := by rw [hbe]; exact decide_eq_false h6
  clear HR h6 hbe
  go_wp2
  go_ret
  exact ⟨by rw [HF.out]; rfl, HB6.out⟩
 subst h6
 by_cases h7 : bsq = sq
 rotate_left
 ·have HF : Hid (r = false) := by rw [HR.out, decide_eq_false h7]; exact Lib.hid (by simp)
  clear HR hbe
  go_wp2
  go_ret
  exact ⟨by rw [HF.out]; rfl, HB6.out⟩
 subst h7
 by_cases h8 : bla = la
 rotate_left
 ·have HF : Hid (r = false) := by rw [HR.out, decide_eq_false h8]; exact Lib.hid (by simp)
  clear HR hbe
  go_wp2
  go_ret
  exact ⟨by rw [HF.out]; rfl, HB6.out⟩
 subst h8
 have HF : Hid (r = decide (bcl ≤ cl)) := by rw [HR.out]; exact Lib.hid (by simp)
 clear HR hbe
 go_wp2
 go_ret
 exact ⟨by rw [HF.out]; rfl, HB6.out⟩
end Go.Proofs.YteladgfdedlmjaaGreatDoor
namespace Go.Proofs.YteladgfdedlmjaaGreatDoor
open Go.ChangeShapes Go.WideShapes Go.ChangeAt Go.RowKit Go.Joins
set_option maxRecDepth 100000
attribute [local go_sem ↓] Go.wp_at_zero Go.wp_at_succ
set_option maxHeartbeats 8000000 in
theorem implOk_x (x : Sm) (a : Option Addr) (cap : Nat) (w : World) (hn : x.ws.length ≤ 1048576) (hx : Few x.ws) (ht : x.t.size ≤ 1048576) (h : IsWs w a x.ws) (hL : LV w) :
  Calls Tryz.prog 15 #[smV x a cap] w fun e w' => e = .returned (.bool (smOkB x)) ∧ Below w.heap.size w w' := by
 obtain ⟨si, cl, sq, la, ws, t⟩ := x
 simp only at hn hx ht h
 have H := Lib.hid h
 have HL := Lib.hid hL
 clear hL
 have HX := Lib.hid hx
 clear h hx
 unfold smV
 simp only
 obtain ⟨n, hnn⟩ : ∃ n, ws.length = n := ⟨_, rfl⟩
 rw [hnn] at hn ⊢
 have HN := Lib.hid hnn
 clear hnn
 have HB0 : Hid (Below w.heap.size w (w.alloc (.cells #[.int .i64 si, .int .i64 cl, .int .i64 sq, .int .i64 la, .slice a n cap, .string t] 26))) := (Below.refl _ _).alloc (Nat.le_refl _) _
 have HS0 := Lib.hid (SBox.start w si cl sq la a n cap t 26)
 obtain ⟨r, hr⟩ : ∃ r, r = smOkB ⟨si, cl, sq, la, ws, t⟩ := ⟨_, rfl⟩
 rw [← hr]
 unfold smOkB at hr
 simp only at hr
 have HR := Lib.hid hr
 clear hr
 unfold shV
 go_enter Tryz.func15, Tryz.ntmps15
 go_wp2_with fail
 generalize w.alloc (.cells #[.int .i64 si, .int .i64 cl, .int .i64 sq, .int .i64 la, .slice a n cap, .string t] 26) = W0 at *
 refine (siteOk_any si _).mono ?_
 rintro e w1 ⟨rfl, hw⟩
 subst w1
 obtain ⟨-, x0, x1, x2, x3, x4, x5, -⟩ := HS0.out
 cases h1 : btw si 0 3
 ·have HF : Hid (r = false) := by rw [HR.out, h1]; exact Lib.hid (by simp)
  clear h1 HR
  go_wp2
  go_ret
  exact ⟨by rw [HF.out]; rfl, HB0.out⟩
 rw [h1] at HR
 by_cases h4 : cl ≤ 100000
 rotate_left
 ·have hb4 : btw cl 0 100000 = false := by unfold btw; simp; omega
  have HF : Hid (r = false) := by rw [HR.out, hb4]; exact Lib.hid (by simp)
  have h4' : (100000 : Int) < cl := by omega
  clear HR hb4 h1
  go_wp2
  go_ret
  exact ⟨by rw [HF.out]; rfl, HB0.out⟩
 have h4' : ¬ (100000 : Int) < cl := by omega
 by_cases h3 : t.size ≤ 60000
 rotate_left
 ·have HF : Hid (r = false) := by rw [HR.out, decide_eq_false h3]; exact Lib.hid (by simp)
  have h3' : (60000 : Int) < (t.size : Int) := by omega
  clear HR h1
  go_wp2
  go_ret
  exact ⟨by rw [HF.out]; rfl, HB0.out⟩
 rw [decide_eq_true h3] at HR
 have h3' : ¬ (60000 : Int) < (t.size : Int) := by omega
 go_wp2_with fail
 refine (implIsCut_any a n cap ws _ HN.out hn HX.out (H.out.below HB0.out)).mono ?_
 rintro e w2 ⟨rfl, hb⟩
 have HB2 := Lib.hid (below_step HB0.out HB0.out.size hb)
 have HS2 := Lib.hid (HS0.out.below hb)
 clear hb HB0 HS0 x0 x1 x2 x3 x4 x5
 obtain ⟨-, x0, x1, x2, x3, x4, x5, -⟩ := HS2.out
 cases h2 : cutB ws
 ·have HF : Hid (r = false) := by rw [HR.out, h2]; exact Lib.hid (by simp)
  clear h2 HR
  go_wp2
  go_ret
  exact ⟨by rw [HF.out]; rfl, HB2.out⟩
 rw [h2] at HR
 have HLV := Lib.hid (HL.out.below HB2.out)
 go_wp2_with fail
 refine (implBack_x si t _ ht HLV.out).mono ?_
 rintro e w4 ⟨ba, bc, γ, rfl, hw, hb⟩
 have HB4 := Lib.hid (below_step HB2.out HB2.out.size hb)
 have HS4 := Lib.hid (HS2.out.below hb)
 have HOK := Lib.hid (backX_ok si t)
 have HW4 := Lib.hid (hw.isWs (ok_few HOK.out))
 have hc0 := backX_cl si t
 obtain ⟨B, hB⟩ : ∃ B, B = backX si t := ⟨_, rfl⟩
 rw [← hB] at HR HW4 HOK hc0
 rw [← hB]
 clear hb hw HB2 HS2 hB x0 x1 x2 x3 x4 x5 HLV
 have hb6 : B.ws.length ≤ 6 := mapOk_len HOK.out
 have HBF := Lib.hid (ok_few HOK.out)
 obtain ⟨bsi, bcl, bsq, bla, bws, bt⟩ := B
 simp only at HR HW4 HOK hb6 HBF hc0
 unfold smV shV
 simp only
 obtain ⟨bn, hbn⟩ : ∃ bn, bws.length = bn := ⟨_, rfl⟩
 rw [hbn] at hb6 ⊢
 have HBN := Lib.hid hbn
 clear hbn
 have HA : Hid (Below w4.heap.size w4 (w4.alloc (.cells #[.int .i64 bsi, .int .i64 bcl, .int .i64 bsq, .int .i64 bla, .slice ba bn bc, .string bt] 26))) := (Below.refl _ _).alloc (Nat.le_refl _) _
 have HS5 := Lib.hid (SBox.start w4 bsi bcl bsq bla ba bn bc bt 26)
 have HS4' := Lib.hid (HS4.out.below HA.out)
 have HB5 := Lib.hid (below_step HB4.out HB4.out.size HA.out)
 have HW5 := Lib.hid (HW4.out.below HA.out)
 obtain ⟨-, x0, x1, x2, x3, x4, x5, -⟩ := HS4'.out
 obtain ⟨-, y0, y1, y2, y3, y4, y5, -⟩ := HS5.out
 have hbe : ∀ p q : ByteArray, (p.toList == q.toList) = decide (p = q) := bytes_beq
 by_cases h9 : bcl ≤ cl
 rotate_left
 ·have HF : Hid (r = false) := by rw [HR.out, decide_eq_false h9]; exact Lib.hid (by simp)
  clear HR hbe
  go_wp2
  go_ret
  exact ⟨by rw [HF.out]; rfl, HB5.out⟩
 have hb4 : btw cl 0 100000 = true := by unfold btw; simp; omega
 rw [hb4, decide_eq_true h9] at HR
 clear hb4
 by_cases h7 : bsq = sq
 rotate_left
 ·have HF : Hid (r = false) := by rw [HR.out, decide_eq_false h7]; exact Lib.hid (by simp)
  clear HR hbe
  go_wp2
  go_ret
  exact ⟨by rw [HF.out]; rfl, HB5.out⟩
 subst h7
 by_cases h8 : bla = la
 rotate_left
 ·have HF : Hid (r = false) := by rw [HR.out, decide_eq_false h8]; exact Lib.hid (by simp)
  clear HR hbe
  go_wp2
  go_ret
  exact ⟨by rw [HF.out]; rfl, HB5.out⟩
 subst h8
 by_cases h6 : bt = t
 rotate_left
 ·have HF : Hid (r = false) := by rw [HR.out, decide_eq_false h6]; exact Lib.hid (by simp)
  have h6' : (bt.toList == t.toList) = false := by rw [hbe]; exact decide_eq_false h6
  clear HR h6 hbe
  go_wp2
  go_ret
  exact ⟨by rw [HF.out]; rfl, HB5.out⟩
 subst h6
 have HF : Hid (r = sameB bws ws) := by rw [HR.out]; exact Lib.hid (by simp)
 clear HR hbe
 go_wp2_with fail
 generalize (w4.alloc (.cells #[.int .i64 bsi, .int .i64 bcl, .int .i64 bsq, .int .i64 bla, .slice ba bn bc, .string bt] 26)) = V4 at *
 refine (equalFunc_any ba a bn n bc cap bws ws _ HBN.out HN.out (by omega) hn HBF.out HX.out HW5.out (H.out.below HB5.out)).mono ?_
 rintro e w6 ⟨rfl, hb⟩
 have HB6 := Lib.hid (below_step HB5.out HB5.out.size hb)
 clear hb x0 x1 x2 x3 x4 x5 y0 y1 y2 y3 y4 y5
 go_wp2
 go_ret
 exact ⟨by rw [HF.out]; rfl, HB6.out⟩
end Go.Proofs.YteladgfdedlmjaaGreatDoor
namespace Go.Proofs.YteladgfdedlmjaaGreatDoor
open Go.ChangeShapes Go.WideShapes Go.ChangeAt Go.RowKit Go.Joins
attribute [local go_sem ↓] Go.wp_at_zero Go.wp_at_succ
end Go.Proofs.YteladgfdedlmjaaGreatDoor
namespace Go.Proofs.YteladgfdedlmjaaGreatDoor
open Go.ChangeShapes Go.WideShapes Go.ChangeAt Go.RowKit Go.Joins
attribute [local go_sem ↓] Go.wp_at_zero Go.wp_at_succ
end Go.Proofs.YteladgfdedlmjaaGreatDoor
namespace Go.Proofs.YteladgfdedlmjaaGreatDoor
end Go.Proofs.YteladgfdedlmjaaGreatDoor
namespace Go.Proofs.YteladgfdedlmjaaGreatDoor
open Go.ChangeShapes Go.WideShapes Go.ChangeAt Go.RowKit Go.Joins
end Go.Proofs.YteladgfdedlmjaaGreatDoor
namespace Go.Proofs.YteladgfdedlmjaaGreatDoor
open Go.ChangeShapes Go.WideShapes Go.ChangeAt Go.RowKit Go.Joins
attribute [local go_sem ↓] Go.wp_at_zero Go.wp_at_succ
end Go.Proofs.YteladgfdedlmjaaGreatDoor
namespace Go.Proofs.YteladgfdedlmjaaGreatDoor
open Go.ChangeShapes Go.WideShapes Go.ChangeAt Go.RowKit Go.Joins
set_option maxRecDepth 100000
attribute [local go_sem ↓] Go.wp_at_zero Go.wp_at_succ
def IsDepsX (b : Nat) (w : World) (a : Option Addr) (xs : List Dp) : Prop := xs = [] ∨ ∃ g o, a = some ⟨g, o, none⟩ ∧ g ≠ b ∧ g < w.heap.size ∧ HoldsDeps w g o xs
def IsWsX (b : Nat) (w : World) (a : Option Addr) (ws : List Wr) : Prop :=
 ws = [] ∨ ∃ g o, a = some ⟨g, o, none⟩ ∧ g ≠ b ∧ g < w.heap.size ∧ ∀ i, i < ws.length → ∃ a' cap, WrAt w g (o + i * 7) (ws.getD i wz) a' cap ∧ IsDepsX b w a' (ws.getD i wz).xs
theorem holdsDeps_block {w w' : World} {g o : Nat} {xs : List Dp} (h : HoldsDeps w g o xs) (hb : w'.heap[g]? = w.heap[g]?) : HoldsDeps w' g o xs := fun i hi => by
 have e : ∀ o, w'.cell? ⟨g, o, none⟩ = w.cell? ⟨g, o, none⟩ := fun o => World.cell?_of_block (a := ⟨g, o, none⟩) hb
 obtain ⟨a0, a1, a2, a3⟩ := h i hi
 exact ⟨(e _).trans a0, (e _).trans a1, (e _).trans a2, (e _).trans a3⟩
theorem IsDepsX.now {b : Nat} {w w' : World} {a : Option Addr} {xs : List Dp} (h : IsDepsX b w a xs) (hg : w.grownBy w' (some b)) : IsDeps w' a xs := by
 rcases h with h | ⟨g, o, ha, hne, hlt, hh⟩
 ·exact .inl h
 ·exact .inr ⟨g, o, ha, Nat.lt_of_lt_of_le hlt hg.size, holdsDeps_block hh (hg.block g hlt (by simpa using hne))⟩
theorem IsDeps.away {b : Nat} {w : World} {a : Option Addr} {xs : List Dp} (h : IsDeps w a xs) {w' : World} (hb : Below w.heap.size w w') (hB : w.heap.size ≤ b) : IsDepsX b w' a xs := by
 rcases h with h | ⟨g, o, ha, hlt, hh⟩
 ·exact .inl h
 ·exact .inr ⟨g, o, ha, by omega, Nat.lt_of_lt_of_le hlt hb.size, hh.below hb hlt⟩
theorem IsWsX.base {b : Nat} {w w' : World} {a : Option Addr} {ws : List Wr} (h : IsWsX b w a ws) (hb : w.grownBy w' (some b)) {k n : Nat} (hn : ws.length = n) (hk : k < n) :
  ∃ g o a' cap, a = some ⟨g, o, none⟩ ∧ g < w'.heap.size ∧ WrAt w' g (o + k * 7) (ws.getD k wz) a' cap ∧ IsDepsX b w a' (ws.getD k wz).xs := by
 rcases h with h | ⟨g, o, ha, hne, hlt, hh⟩
 ·subst h
  simp at hn
  omega
 ·obtain ⟨a', cap, h1, h3⟩ := hh k (by omega)
  exact ⟨g, o, a', cap, ha, Nat.lt_of_lt_of_le hlt hb.size, h1.of_block (hb.block g hlt (by simpa using hne)), h3⟩
theorem RowG.away {b base : Nat} {w : World} {v : Value} {es : List EnG} (h : RowG w base v es) (hB : b < base) {ws : List Wr} (hw : es.map (·.x) = ws) (hl : ∀ x ∈ ws, x.xs.length ≤ 1048576) : ∃ a cap, v = .slice a ws.length cap ∧ IsWsX b w a ws := by
 subst hw
 rcases h.own.2 with ⟨h1, h2⟩ | ⟨g, cap, cur, h1, h2, h3, _⟩
 ·have : es = [] := List.length_eq_zero_iff.1 h2
  subst this
  exact ⟨none, 0, h1, .inl rfl⟩
 ·subst h1
  have hlt : g < w.heap.size := (h.own.lt g rfl).2
  refine ⟨_, cap, by rw [List.length_map], .inr ⟨g, 0, rfl, by omega, hlt, fun i hi => ?_⟩⟩
  have hi' : i < es.length := by simpa using hi
  have hm : es.getD i ezG ∈ es := by simp [List.getD, hi']
  have hx : (es.map (·.x)).getD i wz = (es.getD i ezG).x := by simp [List.getD, hi']
  rw [hx, Nat.zero_add]
  have c : ∀ c, c < 7 → w.cell? ⟨g, i * 7 + c, none⟩ = (wrValsG (es.getD i ezG))[c]? := fun c hc => by rw [h.own.cellAt _ (by omega), valsG_at es i c hi' hc]
  refine ⟨(es.getD i ezG).a, (es.getD i ezG).cp, ⟨c 0 (by omega), c 1 (by omega), c 2 (by omega), c 3 (by omega), c 4 (by omega), c 5 (by omega), c 6 (by omega)⟩, ?_⟩
  by_cases hp : 0 < (es.getD i ezG).x.xs.length
  ·obtain ⟨h4, h5, h6, h7, _⟩ := (h.deps _ hm).1 hp
   exact .inr ⟨_, 0, h4, by omega, h6, h7⟩
  ·exact .inl (List.length_eq_zero_iff.1 (by omega))
def RegsX (w0 w : World) (b n : Nat) (M : Int → Option Wr) : Prop :=
 ∃ f, RegsAre w b n f ∧ ∀ k, (M k = none → f k = none) ∧ ∀ x, M k = some x → ∃ ad cp, f k = some (wrOf x ad cp) ∧ IsDepsX b w0 ad x.xs ∧ x.xs.length ≤ 1048576
theorem RegsX.of_block {w0 w w' : World} {b n : Nat} {M : Int → Option Wr} (h : RegsX w0 w b n M) (hb : w'.heap[b]? = w.heap[b]?) : RegsX w0 w' b n M := by
 obtain ⟨f, h1, h2⟩ := h
 exact ⟨f, h1.of_block hb, h2⟩
theorem RegsX.lt {w0 w : World} {b n : Nat} {M : Int → Option Wr} (h : RegsX w0 w b n M) : b < w.heap.size := by
 obtain ⟨f, h1, _⟩ := h
 exact h1.lt
theorem RegsX.below {w0 w w' : World} {b n : Nat} {M : Int → Option Wr} (h : RegsX w0 w b n M) (hb : Below w.heap.size w w') : RegsX w0 w' b n M := h.of_block (hb.block b h.lt)
theorem RegsX.now {w0 w : World} {b n : Nat} {M : Int → Option Wr} (h : RegsX w0 w b n M) (hg : w0.grownBy w (some b)) : RegsW w w b n M := by
 obtain ⟨f, h1, h2⟩ := h
 refine ⟨f, h1, fun k => ⟨(h2 k).1, fun x hx => ?_⟩⟩
 obtain ⟨ad, cp, h3, h4, h5⟩ := (h2 k).2 x hx
 exact ⟨ad, cp, h3, h4.now hg, h5⟩
theorem RegsW.away {w0 w : World} {b n : Nat} {M : Int → Option Wr} (h : RegsW w0 w b n M) (hb : Below w0.heap.size w0 w) (hB : w0.heap.size ≤ b) : RegsX w w b n M := by
 obtain ⟨f, h1, h2⟩ := h
 refine ⟨f, h1, fun k => ⟨(h2 k).1, fun x hx => ?_⟩⟩
 obtain ⟨ad, cp, h3, h4, h5⟩ := (h2 k).2 x hx
 exact ⟨ad, cp, h3, h4.away hb hB, h5⟩
theorem RegsX.later {w0 w w' : World} {b n : Nat} {M : Int → Option Wr} (h : RegsX w0 w b n M) (hb : Below w0.heap.size w0 w') (hb' : w'.heap[b]? = w.heap[b]?) : RegsX w' w' b n M := by
 obtain ⟨f, h1, h2⟩ := h
 refine ⟨f, h1.of_block hb', fun k => ⟨(h2 k).1, fun x hx => ?_⟩⟩
 obtain ⟨ad, cp, h3, h4, h5⟩ := (h2 k).2 x hx
 refine ⟨ad, cp, h3, ?_, h5⟩
 rcases h4 with h4 | ⟨g, o, ha, hne, hlt, hh⟩
 ·exact .inl h4
 ·exact .inr ⟨g, o, ha, hne, Nat.lt_of_lt_of_le hlt hb.size, holdsDeps_block hh (hb.block g hlt)⟩
theorem put_x (w0 : World) (b m : Nat) (M : Int → Option Wr) (x : Wr) (ad : Option Addr) (cp : Nat) (w : World) (hmm : m ≤ 4611686018427387904) (hxl : x.xs.length ≤ 1048576) (hk : 0 ≤ x.k ∧ x.k ≤ 5) (hd : IsDepsX b w0 ad x.xs) (hb : w0.grownBy w (some b)) (hr : RegsX w0 w b m M) :
  Calls Tryz.prog 120 #[.map (some b), wrOf x ad cp] w fun e w' => e = .returned (.tuple #[]) ∧ RegsX w0 w' b (m + 1) (regPut M x) ∧ w0.grownBy w' (some b) := by
 refine (put_p (IsDepsX b w0) b m M x ad cp w hmm hxl hk hd (fun w' h ad xs hx => hx.now (grown_trans hb (grown_of_below h (some b)))) hr).mono ?_
 rintro e w' ⟨he, h1, h2⟩
 exact ⟨he, h1, grown_trans hb h2⟩
set_option maxHeartbeats 8000000 in
theorem putAll_x (w0 : World) (b m : Nat) (M : Int → Option Wr) (a : Option Addr) (n cap : Nat) (ws : List Wr) (w : World) (hn : ws.length = n) (hm : n ≤ 1048576) (hmm : m ≤ 1048576) (hx : Few ws) (hk : ∀ i, i < ws.length → 0 ≤ (ws.getD i wz).k ∧ (ws.getD i wz).k ≤ 5)
  (hi : IsWsX b w0 a ws) (hb : w0.grownBy w (some b)) (hr : RegsX w0 w b m M) :
  Calls Tryz.prog 106 #[.map (some b), .slice a n cap] w fun e w' => e = .returned (.tuple #[]) ∧ RegsX w0 w' b (m + n) (ws.foldl regPut M) ∧ w0.grownBy w' (some b) := by
 have HI : Hid (IsWsX b w0 a ws) := hi
 have HN : Hid (ws.length = n) := hn
 have HX : Hid (Few ws) := hx
 have HKY : Hid (∀ i, i < ws.length → 0 ≤ (ws.getD i wz).k ∧ (ws.getD i wz).k ≤ 5) := hk
 have HR0 : Hid (RegsX w0 w b m M) := hr
 have HB0 : Hid (w0.grownBy w (some b)) := hb
 clear hi hn hx hk hr hb
 go_enter Tryz.func106, Tryz.ntmps106
 go_wp2
 go_loopw [8] (fun i wr => ∃ k : Nat, k ≤ n ∧ i = .int .i64 k ∧ Hid (RegsX w0 wr b (m + k) ((ws.take k).foldl regPut M)) ∧ Hid (w0.grownBy wr (some b))) (fun i _ => n - (intOf i).toNat)
 case atStart => exact ⟨0, Nat.zero_le _, rfl, HR0, HB0⟩
 case round =>
  clear HR0 HB0
  obtain ⟨k, hk, rfl, HR, HB⟩ := hrel
  by_cases hk' : k < n
  ·obtain ⟨bl, o, ad, cp, rfl, hz, ⟨e0, e1, e2, e3, e4, e5, e6⟩, hd⟩ := HI.out.base HB.out HN.out hk'
   have HD := Lib.hid hd
   have i1 : (0 : Int) ≤ (k : Int) := by omega
   have i2 : (k : Int) < (n : Int) := by omega
   have hkw : k < ws.length := by rw [HN.out]; exact hk'
   have hxl := HX.out k hkw
   have hky := HKY.out k hkw
   have HT : Hid ((ws.take (k + 1)).foldl regPut M = regPut ((ws.take k).foldl regPut M) (ws.getD k wz)) := foldl_take regPut ws M k hkw
   clear hd HI
   generalize ws.getD k wz = x at *
   obtain ⟨xk, xc, xs', xq, xv, xd, xx⟩ := x
   simp only at e0 e1 e2 e3 e4 e5 e6 HD hxl hky
   generalize (ws.take k).foldl regPut M = M1 at *
   have HBA : Hid (Below wr.heap.size wr (wr.alloc (.cells #[.int .i64 xk, .int .i64 xc, .int .i64 xs', .int .i64 xq, .int .i64 xv, .bool xd, .slice ad xx.length cp] 33))) := (Below.refl _ _).alloc (Nat.le_refl _) _
   have HRA := Lib.hid (HR.out.below HBA.out)
   have HB1 := Lib.hid (grown_trans HB.out (grown_of_below HBA.out (some b)))
   go_wp2_with fail
   refine (put_x w0 b (m + k) M1 ⟨xk, xc, xs', xq, xv, xd, xx⟩ ad cp _ (by omega) hxl hky HD.out HB1.out HRA.out).mono ?_
   rintro e w2 ⟨rfl, hr2, hb2⟩
   have HR2 : Hid (RegsX w0 w2 b (m + (k + 1)) ((ws.take (k + 1)).foldl regPut M)) := by
    rw [HT.out]
    exact hr2
   have HB2 := Lib.hid hb2
   clear hr2 hb2
   go_wp2
   exact ⟨⟨k + 1, by omega, by go_num, HR2, HB2⟩, by simp [intOf]; omega⟩
  ·have hkk : k = n := by omega
   subst hkk
   have HE : Hid (ws.take k = ws) := List.take_of_length_le (by rw [HN.out]; exact Nat.le_refl _)
   rw [HE.out] at HR
   go_wp2
   exact bodyPost_end (v := .tuple #[]) (by simp [results, Tryz.results106]) rfl ⟨rfl, HR.out, HB.out⟩
end Go.Proofs.YteladgfdedlmjaaGreatDoor
namespace Go.Proofs.YteladgfdedlmjaaGreatDoor
open Go.ChangeShapes Go.WideShapes Go.ChangeAt Go.RowKit Go.Joins
attribute [local go_sem ↓] Go.wp_at_zero Go.wp_at_succ
end Go.Proofs.YteladgfdedlmjaaGreatDoor
namespace Go.Proofs.YteladgfdedlmjaaGreatDoor
open Go.ChangeShapes Go.WideShapes Go.ChangeAt Go.RowKit Go.Joins
theorem cut_parts {ws : List Wr} (h : cutB ws = true) : mapOkB ws = true ∧ ∀ x ∈ ws, covB ws x.xs = true := by
 unfold cutB at h
 rw [Bool.and_eq_true] at h
 exact ⟨h.1, fun x hx => List.all_eq_true.1 h.2 x hx⟩
end Go.Proofs.YteladgfdedlmjaaGreatDoor
namespace Go.Proofs.YteladgfdedlmjaaGreatDoor
open Go.ChangeShapes Go.WideShapes Go.ChangeAt Go.RowKit Go.Joins
attribute [local go_sem ↓] Go.wp_at_zero Go.wp_at_succ
theorem filter_take {P : Wr → Bool} {ws : List Wr} {k : Nat} (h : k < ws.length) : (ws.take (k + 1)).filter P = (ws.take k).filter P ++ (if P (ws.getD k wz) = true then [ws.getD k wz] else []) := by
 have e : ws.take (k + 1) = ws.take k ++ [ws.getD k wz] := by
  rw [List.take_add_one, List.getElem?_eq_getElem h]
  simp [List.getD, h]
 rw [e, List.filter_append]
 generalize ws.getD k wz = x
 cases hp : P x <;> simp [List.filter, hp]
theorem ok_map {x : Sm} (h : smOkB x = true) : mapOkB x.ws = true := by
 unfold smOkB at h
 simp only [Bool.and_eq_true] at h
 exact (cut_parts h.1.1.1.1.1.1.1.2).1
end Go.Proofs.YteladgfdedlmjaaGreatDoor
