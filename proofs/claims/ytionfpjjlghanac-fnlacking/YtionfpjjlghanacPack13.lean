import Derived.Test.YtionfpjjlghanacPack11
import Derived.Test.YtionfpjjlghanacPack7
/- Contracts of impl.Lacks, impl.Covered, impl.IsCut, spec.IsCut. -/
namespace Go.Proofs.Ytionfpjjlghanac
open Go.ChangeShapes Go.WideShapes Go.ChangeAt Go.RowKit Go.Joins
attribute [local go_sem ↓] Go.wp_at_zero Go.wp_at_succ

set_option maxHeartbeats 4000000 in
theorem implLacks_any (a ad : Option Addr) (n m cap cd : Nat) (ws : List Wr) (ds : List Dp) (w : World) (hn : ws.length = n) (hm : n ≤ 1048576) (hl : ds.length = m) (hml : m ≤ 1048576) (hh : IsWs w a ws) (hd : IsDeps w ad ds) :
    Calls Try.prog 19 #[.slice a n cap, .slice ad m cd] w fun e w' => ∃ v, e = .returned v ∧ RowD w' w.heap.size v (lacksL ws ds) ∧ Below w.heap.size w w' := by
  have HH : Hid (IsWs w a ws) := hh
  have HD : Hid (IsDeps w ad ds) := hd
  have HN : Hid (ws.length = n) := hn
  have HL : Hid (ds.length = m) := hl
  clear hh hd hn hl
  obtain ⟨i0, hi0, hx0⟩ := Option.map_eq_some_iff.1 infoDep
  simp only [Prod.mk.injEq] at hx0
  have HI0 := Lib.hid hi0
  have HX0 := Lib.hid hx0
  clear hi0 hx0
  have HR0 : Hid (RowD w w.heap.size (.slice none 0 0) (lacksL ws (ds.take 0))) := World.ownsRow_nil _ _ _ _
  go_enter Try.func19, Try.ntmps19
  go_wp2
  go_loopw [5, 10] (fun t i wr => ∃ (k : Nat) (v : Value), k ≤ m ∧ i = .int .i64 k ∧ v = t ∧ Hid (RowD wr w.heap.size v (lacksL ws (ds.take k))) ∧ Hid (Below w.heap.size w wr)) (fun _ i _ => m - (intOf i).toNat)
  case atStart => exact ⟨0, _, Nat.zero_le _, rfl, rfl, HR0, Below.refl _ _⟩
  case round =>
    clear HR0
    obtain ⟨k, v, hk, rfl, rfl, HR, HB⟩ := hrel
    by_cases hk' : k < m
    · have hkd : k < ds.length := by rw [HL.out]; exact hk'
      obtain ⟨b, o, rfl, hz, e0, e1, e2, e3⟩ := HD.out.at HB.out hkd
      have i1 : (0 : Int) ≤ (k : Int) := by omega
      have i2 : (k : Int) < (m : Int) := by omega
      have hln := lacks_len ws ds k
      have HC : Hid (∀ W, Below wr.heap.size wr W → Calls Try.prog 23 #[.slice a n cap, .int .i64 (ds.getD k dz).k, tagV (ds.getD k dz).c (ds.getD k dz).s (ds.getD k dz).q] W fun e w' => e = .returned (.bool (hasB ws (ds.getD k dz).k (ds.getD k dz).c (ds.getD k dz).s (ds.getD k dz).q)) ∧ Below W.heap.size W w') := fun W hW =>
        implMapHas_any a n cap _ _ _ _ ws _ HN.out hm (HH.out.below (below_step HB.out HB.out.size hW))
      have HM : Hid (hasB ws (ds.getD k dz).k (ds.getD k dz).c (ds.getD k dz).s (ds.getD k dz).q = false → lacksL ws (ds.take (k + 1)) = lacksL ws (ds.take k) ++ [ds.getD k dz]) := fun h => lacks_more hkd (by unfold lacking; rw [h]; rfl)
      have HS : Hid (hasB ws (ds.getD k dz).k (ds.getD k dz).c (ds.getD k dz).s (ds.getD k dz).q = true → lacksL ws (ds.take (k + 1)) = lacksL ws (ds.take k)) := fun h => lacks_same hkd (by unfold lacking; rw [h]; rfl)
      clear HD
      generalize ds.getD k dz = d at *
      obtain ⟨dk, dc, dd, dq⟩ := d
      simp only at e0 e1 e2 e3 HC HM HS
      have HBX : Hid (Below wr.heap.size wr (wr.alloc (.cells #[.int .i64 dk, .int .i64 dc, .int .i64 dd, .int .i64 dq] 45))) := (Below.refl _ _).alloc (Nat.le_refl _) _
      cases hb : hasB ws dk dc dd dq
      · have HE := Lib.hid (HM.out hb)
        rw [hb] at HC
        clear hb HM HS
        generalize lacksL ws (ds.take k) = zs at *
        go_wp2_with fail
        refine (HC.out _ HBX.out).mono ?_
        rintro e wq ⟨rfl, hq⟩
        have HBQ : Hid (Below w.heap.size w wq) := below_step HB.out HB.out.size (below_step HBX.out HBX.out.size hq)
        have HRQ := Lib.hid (HR.out.below (below_step HBX.out HBX.out.size hq))
        have z0 : wq.cell? ⟨wr.heap.size, 0, none⟩ = some (.int .i64 dk) := box_cells hq 0 (by simp)
        have z1 : wq.cell? ⟨wr.heap.size, 1, none⟩ = some (.int .i64 dc) := box_cells hq 1 (by simp)
        have z2 : wq.cell? ⟨wr.heap.size, 2, none⟩ = some (.int .i64 dd) := box_cells hq 2 (by simp)
        have z3 : wq.cell? ⟨wr.heap.size, 3, none⟩ = some (.int .i64 dq) := box_cells hq 3 (by simp)
        have hwq : w.heap.size ≤ wq.heap.size := HBQ.out.size
        clear hq HC HR HB HBX
        have HBC : Hid (Below wq.heap.size wq (wq.alloc (.cells #[.int .i64 dk, .int .i64 dc, .int .i64 dd, .int .i64 dq] 45))) := (Below.refl _ _).alloc (Nat.le_refl _) _
        have HRC := Lib.hid (HRQ.out.below HBC.out)
        have HBD := Lib.hid (below_step HBQ.out HBQ.out.size HBC.out)
        go_wp2_with (at_builtin; refine wpList_append_lies _ (by rfl) _ _ _ (by rfl) w.heap.size 45 i0 (depV 0 0 0 0) 4 32 Try.underlying33 HI0.out HX0.out.1 HX0.out.2.1 HX0.out.2.2 (by rfl) (by omega) v zs.length (zs.flatMap dpVals) (by rfl) HRC.out ⟨wq.heap.size, 0, none⟩ 1 1 (dpVals ⟨dk, dc, dd, dq⟩) (by rfl) (by rfl) (oneD_cells wq _ ⟨dk, dc, dd, dq⟩) (dp_one _) (by omega) (by unfold maxLen; omega) (by omega) (by simp; omega) _ rfl ?_; intro g3 cp3 w5 hown hgrow hg3 _; refine Hid.out ?_)
        refine Lib.hid ?_
        have HB5 : Hid (Below w.heap.size w w5) := HBD.out.grown hgrow HBD.out.size fun j hj => (World.ownsRow.lt HRC.out j hj).1
        have HR5 : Hid (RowD w5 w.heap.size (.slice (some ⟨g3, 0, none⟩) (zs.length + 1) cp3) (lacksL ws (ds.take (k + 1)))) := by
          refine Lib.hid ?_
          rw [HE.out]
          unfold RowD
          rw [List.length_append, List.flatMap_append]
          simpa using hown
        clear hown hgrow
        go_wp2
        exact ⟨⟨k + 1, _, by omega, by go_num, rfl, HR5, HB5⟩, by simp [intOf]; omega⟩
      · have HE := Lib.hid (HS.out hb)
        rw [hb] at HC
        clear hb HM HS
        go_wp2_with fail
        refine (HC.out _ HBX.out).mono ?_
        rintro e wq ⟨rfl, hq⟩
        have HBQ : Hid (Below w.heap.size w wq) := below_step HB.out HB.out.size (below_step HBX.out HBX.out.size hq)
        have HRQ : Hid (RowD wq w.heap.size v (lacksL ws (ds.take (k + 1)))) := by
          rw [HE.out]
          exact HR.out.below (below_step HBX.out HBX.out.size hq)
        clear hq HC HR HB HBX
        go_wp2
        exact ⟨⟨k + 1, _, by omega, by go_num, rfl, HRQ, HBQ⟩, by simp [intOf]; omega⟩
    · have hkk : k = m := by omega
      subst hkk
      have HF : Hid (RowD wr w.heap.size v (lacksL ws ds)) := by
        have h := HR.out
        rw [List.take_of_length_le (by rw [HL.out]; exact Nat.le_refl _)] at h
        exact h
      go_wp2
      go_ret
      exact ⟨_, rfl, HF.out, HB.out⟩

set_option maxHeartbeats 1000000 in
theorem implCovered_any (a ad : Option Addr) (n m cap cd : Nat) (ws : List Wr) (ds : List Dp) (w : World) (hn : ws.length = n) (hm : n ≤ 1048576) (hl : ds.length = m) (hml : m ≤ 1048576) (hh : IsWs w a ws) (hd : IsDeps w ad ds) :
    Calls Try.prog 22 #[.slice a n cap, .slice ad m cd] w fun e w' => e = .returned (.bool (covB ws ds)) ∧ Below w.heap.size w w' := by
  have HC : Hid (Calls Try.prog 19 #[.slice a n cap, .slice ad m cd] w fun e w' => ∃ v, e = .returned v ∧ RowD w' w.heap.size v (lacksL ws ds) ∧ Below w.heap.size w w') := implLacks_any a ad n m cap cd ws ds w hn hm hl hml hh hd
  have HE : Hid (covB ws ds = (((lacksL ws ds).length : Int) == 0)) := by
    unfold covB
    show _ = _
    rw [Bool.eq_iff_iff]
    simp
  clear hh hd hn hl
  go_enter Try.func22, Try.ntmps22
  go_wp2_with fail
  refine HC.out.mono ?_
  rintro e w1 ⟨v, rfl, hrow, hb⟩
  obtain ⟨al, cl, rfl, -⟩ := hrow.form
  have HB := Lib.hid hb
  clear hrow hb HC
  go_wp2
  go_ret
  exact ⟨ret_bool HE.out.symm, HB.out⟩

def cutB (ws : List Wr) : Bool := mapOkB ws && ws.all fun x => covB ws x.xs

theorem cut_false {ws : List Wr} {k : Nat} (h : k < ws.length) (hk : covB ws (ws.getD k wz).xs = false) : cutB ws = false := by
  unfold cutB
  rw [Bool.and_eq_false_iff]
  refine .inr ?_
  rw [List.all_eq_false]
  refine ⟨ws.getD k wz, ?_, by rw [hk]; simp⟩
  have e : ws.getD k wz = ws[k] := by simp [List.getD, h]
  rw [e]
  exact List.getElem_mem h

theorem cut_true {ws : List Wr} {n : Nat} (hn : ws.length = n) (hm : mapOkB ws = true) (h : ∀ j, j < n → covB ws (ws.getD j wz).xs = true) : cutB ws = true := by
  unfold cutB
  rw [hm, Bool.true_and, List.all_eq_true]
  intro x hx
  obtain ⟨i, hi, rfl⟩ := List.mem_iff_getElem.1 hx
  have := h i (by rw [← hn]; exact hi)
  simpa [List.getD, hi] using this

theorem upto_next {P : Nat → Prop} {k : Nat} (h : ∀ j, j < k → P j) (hk : P k) : ∀ j, j < k + 1 → P j := fun j hj => by
  by_cases e : j < k
  · exact h j e
  · have : j = k := by omega
    rw [this]
    exact hk

set_option maxHeartbeats 2000000 in
theorem specIsCut_any (a : Option Addr) (n cap : Nat) (ws : List Wr) (w : World) (hn : ws.length = n) (hm : n ≤ 1048576) (hx : Few ws) (hh : IsWs w a ws) :
    Calls Try.prog 16 #[.slice a n cap] w fun e w' => e = .returned (.bool (cutB ws)) ∧ Below w.heap.size w w' := by
  have HH : Hid (IsWs w a ws) := hh
  have HN : Hid (ws.length = n) := hn
  have HX : Hid (Few ws) := hx
  have HC : Hid (Calls Try.prog 11 #[.slice a n cap] w fun e w' => e = .returned (.bool (mapOkB ws)) ∧ Below w.heap.size w w') := specMapOk_gen a n cap ws w hn hm hx hh
  clear hh hn hx
  cases ha : mapOkB ws
  · have HE : Hid (cutB ws = false) := by unfold cutB; rw [ha, Bool.false_and]; exact Lib.hid rfl
    rw [ha] at HC
    clear ha
    go_enter Try.func16, Try.ntmps16
    go_wp2_with fail
    refine HC.out.mono ?_
    rintro e w1 ⟨rfl, hb⟩
    have HB1 := Lib.hid hb
    clear hb
    go_wp2
    go_ret
    exact ⟨ret_bool HE.out.symm, HB1.out⟩
  have HA := Lib.hid ha
  rw [ha] at HC
  clear ha
  go_enter Try.func16, Try.ntmps16
  go_wp2_with fail
  refine HC.out.mono ?_
  rintro e w1 ⟨rfl, hb⟩
  have HB1 := Lib.hid hb
  clear hb HC
  go_wp2
  go_loopw [3] (fun i wr => ∃ k : Nat, k ≤ n ∧ i = .int .i64 k ∧ Hid (∀ j, j < k → covB ws (ws.getD j wz).xs = true) ∧ Hid (Below w.heap.size w wr)) (fun i _ => n - (intOf i).toNat)
  case atStart => exact ⟨0, Nat.zero_le _, rfl, fun j hj => absurd hj (Nat.not_lt_zero j), HB1⟩
  case round =>
    clear HB1
    obtain ⟨k, hk, rfl, HK, HB⟩ := hrel
    by_cases hk' : k < n
    · obtain ⟨b1, o1, ad, cp, ha1, hz, ⟨e0, e1, e2, e3, e4, e5, e6⟩, hd⟩ := HH.out.at HB.out HN.out hk'
      have i1 : (0 : Int) ≤ (k : Int) := by omega
      have i2 : (k : Int) < (n : Int) := by omega
      have hkm : k < ws.length := by rw [HN.out]; exact hk'
      have HW : Hid (Calls Try.prog 44 #[.slice a n cap, .slice ad (ws.getD k wz).xs.length cp] wr fun e w' => e = .returned (.bool (covB ws (ws.getD k wz).xs)) ∧ Below wr.heap.size wr w') := specCovered_any a ad n _ cap cp ws _ wr HN.out hm HX.out rfl (HX.out k hkm) (HH.out.below HB.out) hd
      subst ha1
      clear hd HH e0 e1 e2 e3 e4 e5
      cases h1 : covB ws (ws.getD k wz).xs
      · have HF : Hid (cutB ws = false) := cut_false hkm h1
        rw [h1] at HW
        clear h1
        generalize (ws.getD k wz).xs = xx at *
        go_wp2_with fail
        refine HW.out.mono ?_
        rintro e w2 ⟨rfl, hb⟩
        have HB2 : Hid (Below w.heap.size w w2) := below_step HB.out HB.out.size hb
        clear hb
        go_wp2
        go_ret
        exact ⟨ret_bool HF.out.symm, HB2.out⟩
      · have HK2 : Hid (∀ j, j < k + 1 → covB ws (ws.getD j wz).xs = true) := upto_next HK.out h1
        rw [h1] at HW
        clear h1
        generalize (ws.getD k wz).xs = xx at *
        go_wp2_with fail
        refine HW.out.mono ?_
        rintro e w2 ⟨rfl, hb⟩
        have HB2 : Hid (Below w.heap.size w w2) := below_step HB.out HB.out.size hb
        clear hb
        go_wp2
        exact ⟨⟨k + 1, by omega, by go_num, HK2, HB2⟩, by simp [intOf]; omega⟩
    · have hkk : k = n := by omega
      subst hkk
      have HF : Hid (cutB ws = true) := cut_true HN.out HA.out HK.out
      go_wp2
      go_ret
      exact ⟨ret_bool HF.out.symm, HB.out⟩

set_option maxHeartbeats 2000000 in
theorem implIsCut_any (a : Option Addr) (n cap : Nat) (ws : List Wr) (w : World) (hn : ws.length = n) (hm : n ≤ 1048576) (hx : Few ws) (hh : IsWs w a ws) :
    Calls Try.prog 15 #[.slice a n cap] w fun e w' => e = .returned (.bool (cutB ws)) ∧ Below w.heap.size w w' := by
  have HH : Hid (IsWs w a ws) := hh
  have HN : Hid (ws.length = n) := hn
  have HX : Hid (Few ws) := hx
  have HC : Hid (Calls Try.prog 41 #[.slice a n cap] w fun e w' => e = .returned (.bool (mapOkB ws)) ∧ Below w.heap.size w w') := implMapOk_any a n cap ws w hn hm hx hh
  clear hh hn hx
  cases ha : mapOkB ws
  · have HE : Hid (cutB ws = false) := by unfold cutB; rw [ha, Bool.false_and]; exact Lib.hid rfl
    rw [ha] at HC
    clear ha
    go_enter Try.func15, Try.ntmps15
    go_wp2_with fail
    refine HC.out.mono ?_
    rintro e w1 ⟨rfl, hb⟩
    have HB1 := Lib.hid hb
    clear hb
    go_wp2
    go_ret
    exact ⟨ret_bool HE.out.symm, HB1.out⟩
  have HA := Lib.hid ha
  rw [ha] at HC
  clear ha
  go_enter Try.func15, Try.ntmps15
  go_wp2_with fail
  refine HC.out.mono ?_
  rintro e w1 ⟨rfl, hb⟩
  have HB1 := Lib.hid hb
  clear hb HC
  go_wp2
  go_loopw [10] (fun i wr => ∃ k : Nat, k ≤ n ∧ i = .int .i64 k ∧ Hid (∀ j, j < k → covB ws (ws.getD j wz).xs = true) ∧ Hid (Below w.heap.size w wr)) (fun i _ => n - (intOf i).toNat)
  case atStart => exact ⟨0, Nat.zero_le _, rfl, fun j hj => absurd hj (Nat.not_lt_zero j), HB1⟩
  case round =>
    clear HB1
    obtain ⟨k, hk, rfl, HK, HB⟩ := hrel
    by_cases hk' : k < n
    · obtain ⟨b1, o1, ad, cp, ha1, hz, ⟨e0, e1, e2, e3, e4, e5, e6⟩, hd⟩ := HH.out.at HB.out HN.out hk'
      have i1 : (0 : Int) ≤ (k : Int) := by omega
      have i2 : (k : Int) < (n : Int) := by omega
      have hkm : k < ws.length := by rw [HN.out]; exact hk'
      have HW : Hid (∀ W, Below wr.heap.size wr W → Calls Try.prog 22 #[.slice a n cap, .slice ad (ws.getD k wz).xs.length cp] W fun e w' => e = .returned (.bool (covB ws (ws.getD k wz).xs)) ∧ Below W.heap.size W w') := fun W hW => implCovered_any a ad n _ cap cp ws _ W HN.out hm rfl (HX.out k hkm) (HH.out.below (below_step HB.out HB.out.size hW)) (hd.below hW)
      subst ha1
      have HK1 : Hid (covB ws (ws.getD k wz).xs = true → ∀ j, j < k + 1 → covB ws (ws.getD j wz).xs = true) := fun h1 => upto_next HK.out h1
      have HF1 : Hid (covB ws (ws.getD k wz).xs = false → cutB ws = false) := fun h1 => cut_false hkm h1
      clear hd HH HK
      generalize ws.getD k wz = x at *
      obtain ⟨xk, xc, xs', xq, xv, xd, xx⟩ := x
      simp only at e0 e1 e2 e3 e4 e5 e6 HW HK1 HF1
      cases h1 : covB ws xx
      · have HF := Lib.hid (HF1.out h1)
        rw [h1] at HW
        clear h1 HK1 HF1
        go_wp2_with fail
        refine (HW.out _ ((Below.refl _ _).alloc (Nat.le_refl _) _)).mono ?_
        rintro e w2 ⟨rfl, hb⟩
        have HB2 : Hid (Below w.heap.size w w2) := below_step HB.out HB.out.size (BoxIn.start hb).below
        clear hb
        go_wp2
        go_ret
        exact ⟨ret_bool HF.out.symm, HB2.out⟩
      · have HK2 := Lib.hid (HK1.out h1)
        rw [h1] at HW
        clear h1 HK1 HF1
        go_wp2_with fail
        refine (HW.out _ ((Below.refl _ _).alloc (Nat.le_refl _) _)).mono ?_
        rintro e w2 ⟨rfl, hb⟩
        have HB2 : Hid (Below w.heap.size w w2) := below_step HB.out HB.out.size (BoxIn.start hb).below
        clear hb
        go_wp2
        exact ⟨⟨k + 1, by omega, by go_num, HK2, HB2⟩, by simp [intOf]; omega⟩
    · have hkk : k = n := by omega
      subst hkk
      have HF : Hid (cutB ws = true) := cut_true HN.out HA.out HK.out
      go_wp2
      go_ret
      exact ⟨ret_bool HF.out.symm, HB.out⟩

end Go.Proofs.Ytionfpjjlghanac

/- The contract of DrawWriteCmp. -/
namespace Go.Proofs.Ytionfpjjlghanac
open Go.ChangeShapes Go.WideShapes Go.ChangeAt Go.RowKit Go.Joins
attribute [local go_sem ↓] Go.wp_at_zero Go.wp_at_succ

theorem two_writes (w : World) (t : Nat) : WBox ((w.alloc (.cells #[.int .i64 0, .int .i64 0, .int .i64 0, .int .i64 0, .int .i64 0, .bool false, .slice none 0 0] t)).alloc (.cells #[.int .i64 0, .int .i64 0, .int .i64 0, .int .i64 0, .int .i64 0, .bool false, .slice none 0 0] t)) w.heap.size 0 0 0 0 0 false none 0 0 ∧ WBox ((w.alloc (.cells #[.int .i64 0, .int .i64 0, .int .i64 0, .int .i64 0, .int .i64 0, .bool false, .slice none 0 0] t)).alloc (.cells #[.int .i64 0, .int .i64 0, .int .i64 0, .int .i64 0, .int .i64 0, .bool false, .slice none 0 0] t)) (w.heap.size + 1) 0 0 0 0 0 false none 0 0 := by
  have h := WBox.start (w.alloc (.cells #[.int .i64 0, .int .i64 0, .int .i64 0, .int .i64 0, .int .i64 0, .bool false, .slice none 0 0] t)) 0 0 0 0 0 false none 0 0 t
  have e : (w.alloc (.cells #[.int .i64 0, .int .i64 0, .int .i64 0, .int .i64 0, .int .i64 0, .bool false, .slice none 0 0] t)).heap.size = w.heap.size + 1 := by simp
  rw [e] at h
  exact ⟨(WBox.start w 0 0 0 0 0 false none 0 0 t).hole (Hole.of_below (B := w.heap.size + 2) ((Below.refl _ _).alloc (Nat.le_refl _) _)) (by omega), h⟩

/-- What is carried through the drawing of two writes. -/
structure DW (w W : World) (B bA bB g g' : Nat) (a : Option Addr) (len cap : Nat) (N : Int) (k c s q v : Int) (de : Bool) (ds : List Dp) (cp : Nat) (k' c' s' q' v' : Int) (de' : Bool) (ds' : List Dp) (cp' : Nat) : Prop where
  cur : Cur W B a len cap N
  below : Below w.heap.size w W
  r1 : WBox W w.heap.size 0 0 0 0 0 false none 0 0
  r2 : WBox W (w.heap.size + 1) 0 0 0 0 0 false none 0 0
  ba : WBox W bA k c s q v de (some ⟨g, 0, none⟩) ds.length cp
  bb : WBox W bB k' c' s' q' v' de' (some ⟨g', 0, none⟩) ds'.length cp'
  d1 : HoldsDeps W g 0 ds
  d2 : HoldsDeps W g' 0 ds'
  l1 : g < W.heap.size
  l2 : g' < W.heap.size
  eB : B = w.heap.size + 1 + 1
  g1 : B < g
  g2 : B < g'
  gA : g < bA
  gB : bA < bB
  gn : g' ≠ bB
  n1 : ds.length ≤ 7
  n2 : ds'.length ≤ 7

theorem DW.step {w W W' : World} {B bA bB g g' : Nat} {a : Option Addr} {len cap : Nat} {N M : Int} {k c s q v : Int} {de : Bool} {ds : List Dp} {cp : Nat} {k' c' s' q' v' : Int} {de' : Bool} {ds' : List Dp} {cp' : Nat} (h : DW w W B bA bB g g' a len cap N k c s q v de ds cp k' c' s' q' v' de' ds' cp') (hc : Cur W' B a len cap M) (hh : Hole B W W') : DW w W' B bA bB g g' a len cap M k c s q v de ds cp k' c' s' q' v' de' ds' cp' :=
  ⟨hc, hh.belowOf h.below (by have := h.eB; omega) h.below.size, h.r1.hole hh (by have := h.eB; omega), h.r2.hole hh (by have := h.eB; omega), h.ba.hole hh (by have := h.g1; have := h.gA; omega), h.bb.hole hh (by have := h.g1; have := h.gA; have := h.gB; omega), h.d1.hole hh h.l1 (by have := h.g1; omega), h.d2.hole hh h.l2 (by have := h.g2; omega), Nat.lt_of_lt_of_le h.l1 hh.size, Nat.lt_of_lt_of_le h.l2 hh.size, h.eB, h.g1, h.g2, h.gA, h.gB, h.gn, h.n1, h.n2⟩

theorem DW.set {w W : World} {B bA bB g g' : Nat} {a : Option Addr} {len cap : Nat} {N : Int} {k c s q v : Int} {de : Bool} {ds : List Dp} {cp : Nat} {k' c' s' q' v' x1 x2 x3 x4 x5 : Int} {de' x6 : Bool} {ds' : List Dp} {cp' : Nat} (h : DW w W B bA bB g g' a len cap N k c s q v de ds cp k' c' s' q' v' de' ds' cp') (o : Nat) (y : Value) (hb : WBox (W.setCell ⟨bB, o, none⟩ y) bB x1 x2 x3 x4 x5 x6 (some ⟨g', 0, none⟩) ds'.length cp') : DW w (W.setCell ⟨bB, o, none⟩ y) B bA bB g g' a len cap N k c s q v de ds cp x1 x2 x3 x4 x5 x6 ds' cp' := by
  have := h.eB
  have := h.g1
  have := h.gA
  have := h.gB
  exact ⟨h.cur.setOther (by omega) o y, h.below.setCell (by show w.heap.size ≤ bB; omega) y, h.r1.other (by omega) o y, h.r2.other (by omega) o y, h.ba.other (by omega) o y, hb, h.d1.set (by show bB ≠ g; omega) y, h.d2.set (Ne.symm h.gn) y, by simpa [World.setCell] using h.l1, by simpa [World.setCell] using h.l2, h.eB, h.g1, h.g2, h.gA, h.gB, h.gn, h.n1, h.n2⟩

abbrev put7 (W : World) (R : Nat) (v0 v1 v2 v3 v4 v5 v6 : Value) : World :=
  ((((((W.setCell ⟨R, 0, none⟩ v0).setCell ⟨R, 1, none⟩ v1).setCell ⟨R, 2, none⟩ v2).setCell ⟨R, 3, none⟩ v3).setCell ⟨R, 4, none⟩ v4).setCell ⟨R, 5, none⟩ v5).setCell ⟨R, 6, none⟩ v6

theorem holds_put7 {W : World} {R g : Nat} {ds : List Dp} (h : HoldsDeps W g 0 ds) (hn : R ≠ g) (v0 v1 v2 v3 v4 v5 v6 : Value) : HoldsDeps (put7 W R v0 v1 v2 v3 v4 v5 v6) g 0 ds := by
  have h0 := h.set (a := ⟨R, 0, none⟩) hn v0
  have h1 := h0.set (a := ⟨R, 1, none⟩) hn v1
  have h2 := h1.set (a := ⟨R, 2, none⟩) hn v2
  have h3 := h2.set (a := ⟨R, 3, none⟩) hn v3
  have h4 := h3.set (a := ⟨R, 4, none⟩) hn v4
  have h5 := h4.set (a := ⟨R, 5, none⟩) hn v5
  exact h5.set (a := ⟨R, 6, none⟩) hn v6

theorem below_put7 {w W : World} {R : Nat} (h : Below w.heap.size w W) (hR : w.heap.size ≤ R) (v0 v1 v2 v3 v4 v5 v6 : Value) : Below w.heap.size w (put7 W R v0 v1 v2 v3 v4 v5 v6) := by
  have h0 := h.setCell (p := ⟨R, 0, none⟩) hR v0
  have h1 := h0.setCell (p := ⟨R, 1, none⟩) hR v1
  have h2 := h1.setCell (p := ⟨R, 2, none⟩) hR v2
  have h3 := h2.setCell (p := ⟨R, 3, none⟩) hR v3
  have h4 := h3.setCell (p := ⟨R, 4, none⟩) hR v4
  have h5 := h4.setCell (p := ⟨R, 5, none⟩) hR v5
  exact h5.setCell (p := ⟨R, 6, none⟩) hR v6

theorem holds_drew {W : World} {g : Nat} {ds : List Dp} (h : HoldsDeps W g 0 ds) : HoldsDeps W.drew g 0 ds := h

theorem draw_end {w W : World} {B bA bB g g' : Nat} {a : Option Addr} {len cap : Nat} {N : Int} {k c s q v : Int} {de : Bool} {ds : List Dp} {cp : Nat} {k' c' s' q' v' : Int} {de' : Bool} {ds' : List Dp} {cp' : Nat} (h : DW w W B bA bB g g' a len cap N k c s q v de ds cp k' c' s' q' v' de' ds' cp') (v0 v1 v2 v3 v4 v5 v6 u0 u1 u2 u3 u4 u5 u6 : Value) :
    g < (put7 (put7 W w.heap.size v0 v1 v2 v3 v4 v5 v6) (w.heap.size + 1) u0 u1 u2 u3 u4 u5 u6).drew.heap.size ∧ g' < (put7 (put7 W w.heap.size v0 v1 v2 v3 v4 v5 v6) (w.heap.size + 1) u0 u1 u2 u3 u4 u5 u6).drew.heap.size ∧ HoldsDeps (put7 (put7 W w.heap.size v0 v1 v2 v3 v4 v5 v6) (w.heap.size + 1) u0 u1 u2 u3 u4 u5 u6).drew g 0 ds ∧ HoldsDeps (put7 (put7 W w.heap.size v0 v1 v2 v3 v4 v5 v6) (w.heap.size + 1) u0 u1 u2 u3 u4 u5 u6).drew g' 0 ds' ∧ Below w.heap.size w (put7 (put7 W w.heap.size v0 v1 v2 v3 v4 v5 v6) (w.heap.size + 1) u0 u1 u2 u3 u4 u5 u6).drew := by
  have := h.eB
  have := h.g1
  have := h.g2
  have a1 : w.heap.size ≠ g := by omega
  have a2 : w.heap.size + 1 ≠ g := by omega
  have b1 : w.heap.size ≠ g' := by omega
  have b2 : w.heap.size + 1 ≠ g' := by omega
  exact ⟨by simpa [World.setCell] using h.l1, by simpa [World.setCell] using h.l2, holds_drew (holds_put7 (holds_put7 h.d1 a1 _ _ _ _ _ _ _) a2 _ _ _ _ _ _ _), holds_drew (holds_put7 (holds_put7 h.d2 b1 _ _ _ _ _ _ _) b2 _ _ _ _ _ _ _), (below_put7 (below_put7 h.below (Nat.le_refl _) _ _ _ _ _ _ _) (by omega) _ _ _ _ _ _ _).drew⟩

theorem cur_put7 {W : World} {B R : Nat} {a : Option Addr} {len cap : Nat} {N : Int} (h : Cur W B a len cap N) (hR : B < R) (v0 v1 v2 v3 v4 v5 v6 : Value) : Cur (put7 W R v0 v1 v2 v3 v4 v5 v6) B a len cap N := by
  have h0 := h.setOther hR 0 v0
  have h1 := h0.setOther hR 1 v1
  have h2 := h1.setOther hR 2 v2
  have h3 := h2.setOther hR 3 v3
  have h4 := h3.setOther hR 4 v4
  have h5 := h4.setOther hR 5 v5
  exact h5.setOther hR 6 v6

theorem box_put7 {W : World} {R b : Nat} {k c s q v : Int} {de : Bool} {x : Option Addr} {len cap : Nat} (h : WBox W b k c s q v de x len cap) (hn : R ≠ b) (v0 v1 v2 v3 v4 v5 v6 : Value) : WBox (put7 W R v0 v1 v2 v3 v4 v5 v6) b k c s q v de x len cap := by
  have h0 := h.other hn 0 v0
  have h1 := h0.other hn 1 v1
  have h2 := h1.other hn 2 v2
  have h3 := h2.other hn 3 v3
  have h4 := h3.other hn 4 v4
  have h5 := h4.other hn 5 v5
  exact h5.other hn 6 v6

theorem box_own7 {W : World} {b : Nat} {k0 c0 s0 q0 v0 : Int} {de0 : Bool} {x0 : Option Addr} {len0 cap0 : Nat} (h : WBox W b k0 c0 s0 q0 v0 de0 x0 len0 cap0) (k c s q v : Int) (de : Bool) (x : Option Addr) (len cap : Nat) : WBox (put7 W b (.int .i64 k) (.int .i64 c) (.int .i64 s) (.int .i64 q) (.int .i64 v) (.bool de) (.slice x len cap)) b k c s q v de x len cap := by
  have h0 := h.set0 k
  have h1 := h0.set1 c
  have h2 : WBox ((((W.setCell ⟨b, 0, none⟩ (.int .i64 k)).setCell ⟨b, 1, none⟩ (.int .i64 c)).setCell ⟨b, 2, none⟩ (.int .i64 s))) b k c s q0 v0 de0 x0 len0 cap0 :=
    ⟨by simpa [World.setCell] using h1.lt, cell_set_off h1.c0 (by omega), cell_set_off h1.c1 (by omega), cell_set_same h1.c2, cell_set_off h1.c3 (by omega), cell_set_off h1.c4 (by omega), cell_set_off h1.c5 (by omega), cell_set_off h1.c6 (by omega), fun o => by rw [World.frozen?_setCell]; exact h1.fz o⟩
  have h3 : WBox (((((W.setCell ⟨b, 0, none⟩ (.int .i64 k)).setCell ⟨b, 1, none⟩ (.int .i64 c)).setCell ⟨b, 2, none⟩ (.int .i64 s))).setCell ⟨b, 3, none⟩ (.int .i64 q)) b k c s q v0 de0 x0 len0 cap0 :=
    ⟨by simpa [World.setCell] using h2.lt, cell_set_off h2.c0 (by omega), cell_set_off h2.c1 (by omega), cell_set_off h2.c2 (by omega), cell_set_same h2.c3, cell_set_off h2.c4 (by omega), cell_set_off h2.c5 (by omega), cell_set_off h2.c6 (by omega), fun o => by rw [World.frozen?_setCell]; exact h2.fz o⟩
  have h4 := h3.set4 v
  have h5 := h4.set5 de
  exact h5.set6 x len cap

end Go.Proofs.Ytionfpjjlghanac
