/- Contracts of impl.Lacks, impl.Covered, impl.IsCut, spec.IsCut. -/
import Derived.Test.YtionfpjjlghanajCuts
import Derived.Test.YtionfpjjlghanajIMap2
namespace Go.Proofs.Ytionfpjjlghanaj
open Go.ChangeShapes Go.WideShapes Go.ChangeAt Go.RowKit Go.Joins
attribute [local go_sem ↓] Go.wp_at_zero Go.wp_at_succ

set_option maxHeartbeats 4000000 in
theorem implLacks_any (a ad : Option Addr) (n m cap cd : Nat) (ws : List Wr) (ds : List Dp) (w : World) (hn : ws.length = n) (hm : n ≤ 1048576) (hl : ds.length = m) (hml : m ≤ 1048576) (hh : IsWs w a ws) (hd : IsDeps w ad ds) :
    Calls Try.prog 24 #[.slice a n cap, .slice ad m cd] w fun e w' => ∃ v, e = .returned v ∧ RowD w' w.heap.size v (lacksL ws ds) ∧ Below w.heap.size w w' := by
  have HH : Hid (IsWs w a ws) := hh
  have HD : Hid (IsDeps w ad ds) := hd
  have HN : Hid (ws.length = n) := hn
  have HL : Hid (ds.length = m) := hl
  clear hh hd hn hl
  obtain ⟨i0, hi0, hx0⟩ := Option.map_eq_some_iff.1 infoDep
  simp only [Prod.mk.injEq] at hx0
  have HI0 := Lib.hid hi0
  have HX0 := Lib.hid hx0
  clear hi0 hx0
  have HR0 : Hid (RowD w w.heap.size (.slice none 0 0) (lacksL ws (ds.take 0))) := World.ownsRow_nil _ _ _ _
  go_enter Try.func24, Try.ntmps24
  go_wp2
  go_loopw [5, 10] (fun t i wr => ∃ (k : Nat) (v : Value), k ≤ m ∧ i = .int .i64 k ∧ v = t ∧ Hid (RowD wr w.heap.size v (lacksL ws (ds.take k))) ∧ Hid (Below w.heap.size w wr)) (fun _ i _ => m - (intOf i).toNat)
  case atStart => exact ⟨0, _, Nat.zero_le _, rfl, rfl, HR0, Below.refl _ _⟩
  case round =>
    clear HR0
    obtain ⟨k, v, hk, rfl, rfl, HR, HB⟩ := hrel
    by_cases hk' : k < m
    · have hkd : k < ds.length := by rw [HL.out]; exact hk'
      obtain ⟨b, o, rfl, hz, e0, e1, e2, e3⟩ := HD.out.at HB.out hkd
      have i1 : (0 : Int) ≤ (k : Int) := by omega
      have i2 : (k : Int) < (m : Int) := by omega
      have hln := lacks_len ws ds k
      have HC : Hid (∀ W, Below wr.heap.size wr W → Calls Try.prog 42 #[.slice a n cap, .int .i64 (ds.getD k dz).k, tagV (ds.getD k dz).c (ds.getD k dz).s (ds.getD k dz).q] W fun e w' => e = .returned (.bool (hasB ws (ds.getD k dz).k (ds.getD k dz).c (ds.getD k dz).s (ds.getD k dz).q)) ∧ Below W.heap.size W w') := fun W hW =>
        implMapHas_any a n cap _ _ _ _ ws _ HN.out hm (HH.out.below (below_step HB.out HB.out.size hW))
      have HM : Hid (hasB ws (ds.getD k dz).k (ds.getD k dz).c (ds.getD k dz).s (ds.getD k dz).q = false → lacksL ws (ds.take (k + 1)) = lacksL ws (ds.take k) ++ [ds.getD k dz]) := fun h => lacks_more hkd (by unfold lacking; rw [h]; rfl)
      have HS : Hid (hasB ws (ds.getD k dz).k (ds.getD k dz).c (ds.getD k dz).s (ds.getD k dz).q = true → lacksL ws (ds.take (k + 1)) = lacksL ws (ds.take k)) := fun h => lacks_same hkd (by unfold lacking; rw [h]; rfl)
      clear HD
      generalize ds.getD k dz = d at *
      obtain ⟨dk, dc, dd, dq⟩ := d
      simp only at e0 e1 e2 e3 HC HM HS
      have HBX : Hid (Below wr.heap.size wr (wr.alloc (.cells #[.int .i64 dk, .int .i64 dc, .int .i64 dd, .int .i64 dq] 56))) := (Below.refl _ _).alloc (Nat.le_refl _) _
      cases hb : hasB ws dk dc dd dq
      · have HE := Lib.hid (HM.out hb)
        rw [hb] at HC
        clear hb HM HS
        generalize lacksL ws (ds.take k) = zs at *
        go_wp2_with fail
        refine (HC.out _ HBX.out).mono ?_
        rintro e wq ⟨rfl, hq⟩
        have HBQ : Hid (Below w.heap.size w wq) := below_step HB.out HB.out.size (below_step HBX.out HBX.out.size hq)
        have HRQ := Lib.hid (HR.out.below (below_step HBX.out HBX.out.size hq))
        have z0 : wq.cell? ⟨wr.heap.size, 0, none⟩ = some (.int .i64 dk) := box_cells hq 0 (by simp)
        have z1 : wq.cell? ⟨wr.heap.size, 1, none⟩ = some (.int .i64 dc) := box_cells hq 1 (by simp)
        have z2 : wq.cell? ⟨wr.heap.size, 2, none⟩ = some (.int .i64 dd) := box_cells hq 2 (by simp)
        have z3 : wq.cell? ⟨wr.heap.size, 3, none⟩ = some (.int .i64 dq) := box_cells hq 3 (by simp)
        have hwq : w.heap.size ≤ wq.heap.size := HBQ.out.size
        clear hq HC HR HB HBX
        have HBC : Hid (Below wq.heap.size wq (wq.alloc (.cells #[.int .i64 dk, .int .i64 dc, .int .i64 dd, .int .i64 dq] 56))) := (Below.refl _ _).alloc (Nat.le_refl _) _
        have HRC := Lib.hid (HRQ.out.below HBC.out)
        have HBD := Lib.hid (below_step HBQ.out HBQ.out.size HBC.out)
        go_wp2_with (at_builtin; refine wpList_append_lies _ (by rfl) _ _ _ (by rfl) w.heap.size 56 i0 (depV 0 0 0 0) 4 32 Try.underlying36 HI0.out HX0.out.1 HX0.out.2.1 HX0.out.2.2 (by rfl) (by omega) v zs.length (zs.flatMap dpVals) (by rfl) HRC.out ⟨wq.heap.size, 0, none⟩ 1 1 (dpVals ⟨dk, dc, dd, dq⟩) (by rfl) (by rfl) (oneD_cells wq _ ⟨dk, dc, dd, dq⟩) (dp_one _) (by omega) (by unfold maxLen; omega) (by omega) (by simp; omega) _ rfl ?_; intro g3 cp3 w5 hown hgrow hg3 _; refine Hid.out ?_)
        refine Lib.hid ?_
        have HB5 : Hid (Below w.heap.size w w5) := HBD.out.grown hgrow HBD.out.size fun j hj => (World.ownsRow.lt HRC.out j hj).1
        have HR5 : Hid (RowD w5 w.heap.size (.slice (some ⟨g3, 0, none⟩) (zs.length + 1) cp3) (lacksL ws (ds.take (k + 1)))) := by
          refine Lib.hid ?_
          rw [HE.out]
          unfold RowD
          rw [List.length_append, List.flatMap_append]
          simpa using hown
        clear hown hgrow
        go_wp2
        exact ⟨⟨k + 1, _, by omega, by go_num, rfl, HR5, HB5⟩, by simp [intOf]; omega⟩
      · have HE := Lib.hid (HS.out hb)
        rw [hb] at HC
        clear hb HM HS
        go_wp2_with fail
        refine (HC.out _ HBX.out).mono ?_
        rintro e wq ⟨rfl, hq⟩
        have HBQ : Hid (Below w.heap.size w wq) := below_step HB.out HB.out.size (below_step HBX.out HBX.out.size hq)
        have HRQ : Hid (RowD wq w.heap.size v (lacksL ws (ds.take (k + 1)))) := by
          rw [HE.out]
          exact HR.out.below (below_step HBX.out HBX.out.size hq)
        clear hq HC HR HB HBX
        go_wp2
        exact ⟨⟨k + 1, _, by omega, by go_num, rfl, HRQ, HBQ⟩, by simp [intOf]; omega⟩
    · have hkk : k = m := by omega
      subst hkk
      have HF : Hid (RowD wr w.heap.size v (lacksL ws ds)) := by
        have h := HR.out
        rw [List.take_of_length_le (by rw [HL.out]; exact Nat.le_refl _)] at h
        exact h
      go_wp2
      go_ret
      exact ⟨_, rfl, HF.out, HB.out⟩

set_option maxHeartbeats 1000000 in
theorem implCovered_any (a ad : Option Addr) (n m cap cd : Nat) (ws : List Wr) (ds : List Dp) (w : World) (hn : ws.length = n) (hm : n ≤ 1048576) (hl : ds.length = m) (hml : m ≤ 1048576) (hh : IsWs w a ws) (hd : IsDeps w ad ds) :
    Calls Try.prog 21 #[.slice a n cap, .slice ad m cd] w fun e w' => e = .returned (.bool (covB ws ds)) ∧ Below w.heap.size w w' := by
  have HC : Hid (Calls Try.prog 24 #[.slice a n cap, .slice ad m cd] w fun e w' => ∃ v, e = .returned v ∧ RowD w' w.heap.size v (lacksL ws ds) ∧ Below w.heap.size w w') := implLacks_any a ad n m cap cd ws ds w hn hm hl hml hh hd
  have HE : Hid (covB ws ds = (((lacksL ws ds).length : Int) == 0)) := by
    unfold covB
    show _ = _
    rw [Bool.eq_iff_iff]
    simp
  clear hh hd hn hl
  go_enter Try.func21, Try.ntmps21
  go_wp2_with fail
  refine HC.out.mono ?_
  rintro e w1 ⟨v, rfl, hrow, hb⟩
  obtain ⟨al, cl, rfl, -⟩ := hrow.form
  have HB := Lib.hid hb
  clear hrow hb HC
  go_wp2
  go_ret
  exact ⟨ret_bool HE.out.symm, HB.out⟩

def cutB (ws : List Wr) : Bool := mapOkB ws && ws.all fun x => covB ws x.xs

theorem cut_false {ws : List Wr} {k : Nat} (h : k < ws.length) (hk : covB ws (ws.getD k wz).xs = false) : cutB ws = false := by
  unfold cutB
  rw [Bool.and_eq_false_iff]
  refine .inr ?_
  rw [List.all_eq_false]
  refine ⟨ws.getD k wz, ?_, by rw [hk]; simp⟩
  have e : ws.getD k wz = ws[k] := by simp [List.getD, h]
  rw [e]
  exact List.getElem_mem h

theorem cut_true {ws : List Wr} {n : Nat} (hn : ws.length = n) (hm : mapOkB ws = true) (h : ∀ j, j < n → covB ws (ws.getD j wz).xs = true) : cutB ws = true := by
  unfold cutB
  rw [hm, Bool.true_and, List.all_eq_true]
  intro x hx
  obtain ⟨i, hi, rfl⟩ := List.mem_iff_getElem.1 hx
  have := h i (by rw [← hn]; exact hi)
  simpa [List.getD, hi] using this

theorem upto_next {P : Nat → Prop} {k : Nat} (h : ∀ j, j < k → P j) (hk : P k) : ∀ j, j < k + 1 → P j := fun j hj => by
  by_cases e : j < k
  · exact h j e
  · have : j = k := by omega
    rw [this]
    exact hk

set_option maxHeartbeats 2000000 in
theorem specIsCut_any (a : Option Addr) (n cap : Nat) (ws : List Wr) (w : World) (hn : ws.length = n) (hm : n ≤ 1048576) (hx : Few ws) (hh : IsWs w a ws) :
    Calls Try.prog 27 #[.slice a n cap] w fun e w' => e = .returned (.bool (cutB ws)) ∧ Below w.heap.size w w' := by
  have HH : Hid (IsWs w a ws) := hh
  have HN : Hid (ws.length = n) := hn
  have HX : Hid (Few ws) := hx
  have HC : Hid (Calls Try.prog 35 #[.slice a n cap] w fun e w' => e = .returned (.bool (mapOkB ws)) ∧ Below w.heap.size w w') := specMapOk_gen a n cap ws w hn hm hx hh
  clear hh hn hx
  cases ha : mapOkB ws
  · have HE : Hid (cutB ws = false) := by unfold cutB; rw [ha, Bool.false_and]; exact Lib.hid rfl
    rw [ha] at HC
    clear ha
    go_enter Try.func27, Try.ntmps27
    go_wp2_with fail
    refine HC.out.mono ?_
    rintro e w1 ⟨rfl, hb⟩
    have HB1 := Lib.hid hb
    clear hb
    go_wp2
    go_ret
    exact ⟨ret_bool HE.out.symm, HB1.out⟩
  have HA := Lib.hid ha
  rw [ha] at HC
  clear ha
  go_enter Try.func27, Try.ntmps27
  go_wp2_with fail
  refine HC.out.mono ?_
  rintro e w1 ⟨rfl, hb⟩
  have HB1 := Lib.hid hb
  clear hb HC
  go_wp2
  go_loopw [3] (fun i wr => ∃ k : Nat, k ≤ n ∧ i = .int .i64 k ∧ Hid (∀ j, j < k → covB ws (ws.getD j wz).xs = true) ∧ Hid (Below w.heap.size w wr)) (fun i _ => n - (intOf i).toNat)
  case atStart => exact ⟨0, Nat.zero_le _, rfl, fun j hj => absurd hj (Nat.not_lt_zero j), HB1⟩
  case round =>
    clear HB1
    obtain ⟨k, hk, rfl, HK, HB⟩ := hrel
    by_cases hk' : k < n
    · obtain ⟨b1, o1, ad, cp, ha1, hz, ⟨e0, e1, e2, e3, e4, e5, e6⟩, hd⟩ := HH.out.at HB.out HN.out hk'
      have i1 : (0 : Int) ≤ (k : Int) := by omega
      have i2 : (k : Int) < (n : Int) := by omega
      have hkm : k < ws.length := by rw [HN.out]; exact hk'
      have HW : Hid (Calls Try.prog 19 #[.slice a n cap, .slice ad (ws.getD k wz).xs.length cp] wr fun e w' => e = .returned (.bool (covB ws (ws.getD k wz).xs)) ∧ Below wr.heap.size wr w') := specCovered_any a ad n _ cap cp ws _ wr HN.out hm HX.out rfl (HX.out k hkm) (HH.out.below HB.out) hd
      subst ha1
      clear hd HH e0 e1 e2 e3 e4 e5
      cases h1 : covB ws (ws.getD k wz).xs
      · have HF : Hid (cutB ws = false) := cut_false hkm h1
        rw [h1] at HW
        clear h1
        generalize (ws.getD k wz).xs = xx at *
        go_wp2_with fail
        refine HW.out.mono ?_
        rintro e w2 ⟨rfl, hb⟩
        have HB2 : Hid (Below w.heap.size w w2) := below_step HB.out HB.out.size hb
        clear hb
        go_wp2
        go_ret
        exact ⟨ret_bool HF.out.symm, HB2.out⟩
      · have HK2 : Hid (∀ j, j < k + 1 → covB ws (ws.getD j wz).xs = true) := upto_next HK.out h1
        rw [h1] at HW
        clear h1
        generalize (ws.getD k wz).xs = xx at *
        go_wp2_with fail
        refine HW.out.mono ?_
        rintro e w2 ⟨rfl, hb⟩
        have HB2 : Hid (Below w.heap.size w w2) := below_step HB.out HB.out.size hb
        clear hb
        go_wp2
        exact ⟨⟨k + 1, by omega, by go_num, HK2, HB2⟩, by simp [intOf]; omega⟩
    · have hkk : k = n := by omega
      subst hkk
      have HF : Hid (cutB ws = true) := cut_true HN.out HA.out HK.out
      go_wp2
      go_ret
      exact ⟨ret_bool HF.out.symm, HB.out⟩

set_option maxHeartbeats 2000000 in
theorem implIsCut_any (a : Option Addr) (n cap : Nat) (ws : List Wr) (w : World) (hn : ws.length = n) (hm : n ≤ 1048576) (hx : Few ws) (hh : IsWs w a ws) :
    Calls Try.prog 28 #[.slice a n cap] w fun e w' => e = .returned (.bool (cutB ws)) ∧ Below w.heap.size w w' := by
  have HH : Hid (IsWs w a ws) := hh
  have HN : Hid (ws.length = n) := hn
  have HX : Hid (Few ws) := hx
  have HC : Hid (Calls Try.prog 37 #[.slice a n cap] w fun e w' => e = .returned (.bool (mapOkB ws)) ∧ Below w.heap.size w w') := implMapOk_any a n cap ws w hn hm hx hh
  clear hh hn hx
  cases ha : mapOkB ws
  · have HE : Hid (cutB ws = false) := by unfold cutB; rw [ha, Bool.false_and]; exact Lib.hid rfl
    rw [ha] at HC
    clear ha
    go_enter Try.func28, Try.ntmps28
    go_wp2_with fail
    refine HC.out.mono ?_
    rintro e w1 ⟨rfl, hb⟩
    have HB1 := Lib.hid hb
    clear hb
    go_wp2
    go_ret
    exact ⟨ret_bool HE.out.symm, HB1.out⟩
  have HA := Lib.hid ha
  rw [ha] at HC
  clear ha
  go_enter Try.func28, Try.ntmps28
  go_wp2_with fail
  refine HC.out.mono ?_
  rintro e w1 ⟨rfl, hb⟩
  have HB1 := Lib.hid hb
  clear hb HC
  go_wp2
  go_loopw [10] (fun i wr => ∃ k : Nat, k ≤ n ∧ i = .int .i64 k ∧ Hid (∀ j, j < k → covB ws (ws.getD j wz).xs = true) ∧ Hid (Below w.heap.size w wr)) (fun i _ => n - (intOf i).toNat)
  case atStart => exact ⟨0, Nat.zero_le _, rfl, fun j hj => absurd hj (Nat.not_lt_zero j), HB1⟩
  case round =>
    clear HB1
    obtain ⟨k, hk, rfl, HK, HB⟩ := hrel
    by_cases hk' : k < n
    · obtain ⟨b1, o1, ad, cp, ha1, hz, ⟨e0, e1, e2, e3, e4, e5, e6⟩, hd⟩ := HH.out.at HB.out HN.out hk'
      have i1 : (0 : Int) ≤ (k : Int) := by omega
      have i2 : (k : Int) < (n : Int) := by omega
      have hkm : k < ws.length := by rw [HN.out]; exact hk'
      have HW : Hid (∀ W, Below wr.heap.size wr W → Calls Try.prog 21 #[.slice a n cap, .slice ad (ws.getD k wz).xs.length cp] W fun e w' => e = .returned (.bool (covB ws (ws.getD k wz).xs)) ∧ Below W.heap.size W w') := fun W hW => implCovered_any a ad n _ cap cp ws _ W HN.out hm rfl (HX.out k hkm) (HH.out.below (below_step HB.out HB.out.size hW)) (hd.below hW)
      subst ha1
      have HK1 : Hid (covB ws (ws.getD k wz).xs = true → ∀ j, j < k + 1 → covB ws (ws.getD j wz).xs = true) := fun h1 => upto_next HK.out h1
      have HF1 : Hid (covB ws (ws.getD k wz).xs = false → cutB ws = false) := fun h1 => cut_false hkm h1
      clear hd HH HK
      generalize ws.getD k wz = x at *
      obtain ⟨xk, xc, xs', xq, xv, xd, xx⟩ := x
      simp only at e0 e1 e2 e3 e4 e5 e6 HW HK1 HF1
      cases h1 : covB ws xx
      · have HF := Lib.hid (HF1.out h1)
        rw [h1] at HW
        clear h1 HK1 HF1
        go_wp2_with fail
        refine (HW.out _ ((Below.refl _ _).alloc (Nat.le_refl _) _)).mono ?_
        rintro e w2 ⟨rfl, hb⟩
        have HB2 : Hid (Below w.heap.size w w2) := below_step HB.out HB.out.size (BoxIn.start hb).below
        clear hb
        go_wp2
        go_ret
        exact ⟨ret_bool HF.out.symm, HB2.out⟩
      · have HK2 := Lib.hid (HK1.out h1)
        rw [h1] at HW
        clear h1 HK1 HF1
        go_wp2_with fail
        refine (HW.out _ ((Below.refl _ _).alloc (Nat.le_refl _) _)).mono ?_
        rintro e w2 ⟨rfl, hb⟩
        have HB2 : Hid (Below w.heap.size w w2) := below_step HB.out HB.out.size (BoxIn.start hb).below
        clear hb
        go_wp2
        exact ⟨⟨k + 1, by omega, by go_num, HK2, HB2⟩, by simp [intOf]; omega⟩
    · have hkk : k = n := by omega
      subst hkk
      have HF : Hid (cutB ws = true) := cut_true HN.out HA.out HK.out
      go_wp2
      go_ret
      exact ⟨ret_bool HF.out.symm, HB.out⟩

end Go.Proofs.Ytionfpjjlghanaj
