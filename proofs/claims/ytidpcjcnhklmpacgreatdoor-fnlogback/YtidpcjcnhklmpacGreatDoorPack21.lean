/- What the law FnLogBack walks. -/
import Derived.Test.YtidpcjcnhklmpacGreatDoorPack16
import Derived.Test.YtidpcjcnhklmpacGreatDoorPack19
import Derived.Test.YtidpcjcnhklmpacGreatDoorPack20
namespace Go.Proofs.YtidpcjcnhklmpacGreatDoor.lawLogBack
open Go.ChangeShapes Go.WideShapes Go.ChangeAt Go.RowKit Go.Joins
open Go.Proofs.YtidpcjcnhklmpacGreatDoor.lawBytes
attribute [local go_sem ↓] Go.wp_at_zero Go.wp_at_succ

set_option maxRecDepth 100000 in
theorem within_put {us m : List Wr} (h : withinB us m = true) (x : Wr) : withinB us (repPut m x) = true := by
  have hm : mapOkB m = true := ((within_iff us m).1 h).2.1
  unfold repPut
  split
  · rename_i hx
    have e : joinB m [x] = putW m x := by
      unfold joinB
      rw [if_pos ⟨hm, one_ok hx⟩]
      rfl
    rw [← e]
    exact within_join h (one_ok hx)
  · exact h

set_option maxRecDepth 100000 in
theorem within_run {us : List Wr} : ∀ (ws m : List Wr), withinB us m = true → withinB us (repRun m ws) = true
  | [], _, h => h
  | x :: r, m, h => within_run r (repPut m x) (within_put h x)

set_option maxRecDepth 100000 in
theorem within_all {us : List Wr} : ∀ (bs : List (List Wr)) (m : List Wr), withinB us m = true → withinB us (bs.foldl repRun m) = true
  | [], _, h => h
  | b :: r, m, h => within_all r (repRun m b) (within_run b m h)

set_option maxRecDepth 100000 in
/-- What comes of the first batches is within what comes of all. -/
theorem within_first {cs bs : List (List Wr)} (h : cs <+: bs) : withinB (replayW cs) (replayW bs) = true := by
  obtain ⟨r, rfl⟩ := h
  unfold replayW
  rw [List.foldl_append]
  exact within_all r _ (by rw [within_self]; exact replay_ok cs)

set_option maxRecDepth 100000 in
theorem first_get {cs bs : List (List Wr)} (h : cs <+: bs) {i : Nat} (hi : i < cs.length) : bs.getD i [] = cs.getD i [] := by
  obtain ⟨r, rfl⟩ := h
  simp [List.getD, hi, List.getElem?_append_left]

set_option maxRecDepth 100000 in
theorem logT_take {bs : List (List Wr)} {i : Nat} (h : i < bs.length) : logT (bs.take (i + 1)) = logT (bs.take i) ++ batchT (bs.getD i []) := by
  have e : bs.take (i + 1) = bs.take i ++ [bs.getD i []] := by
    rw [List.take_add_one, List.getElem?_eq_getElem h]
    simp [List.getD, h]
  rw [e]
  exact logT_snoc _ _

set_option maxRecDepth 100000 in
theorem logT_part (bs : List (List Wr)) (i : Nat) : (logT (bs.take i)).length ≤ (logT bs).length := by
  have e : logT bs = logT (bs.take i) ++ logT (bs.drop i) := by
    unfold logT
    rw [← List.flatMap_append, List.take_append_drop]
  rw [e, List.length_append]
  omega

set_option maxRecDepth 100000 in
theorem OwnA.ws0 {w : World} {lo hi : Nat} {a : Option Addr} {ws : List Wr} {γ : Nat → Nat} (h : OwnA w lo hi a ws γ) : IsWs0 w a ws := by
  rcases h with h | ⟨b, h1, h2, -, -⟩
  · exact .inl h
  · refine .inr ⟨b, 0, h1, h2.lt, fun i hi => ?_⟩
    obtain ⟨a', cap, q1, q2⟩ := h2.at_ i hi
    refine ⟨a', cap, by rw [Nat.zero_add]; exact q1, ?_⟩
    by_cases hp : 0 < (ws.getD i wz).xs.length
    · obtain ⟨r1, r2, r3, r4, r5⟩ := h2.deps i hi hp
      exact .inr ⟨_, q2 hp, r2, r4⟩
    · exact .inl (List.length_eq_zero_iff.1 (by omega))

set_option maxRecDepth 100000 in
/-- One batch of a row of one's own: its cell, its writes with their dependencies from a block's begin on. -/
theorem OwnB.get {w : World} {lo hi : Nat} {a : Option Addr} {es : List Bat} (h : OwnB w lo hi a es) {i : Nat} (hi' : i < es.length) : ∃ b a' cap, a = some ⟨b, 0, none⟩ ∧ b < w.heap.size ∧ w.cell? ⟨b, i, none⟩ = some (.slice a' ((batsOf es).getD i []).length cap) ∧ IsWs0 w a' ((batsOf es).getD i []) := by
  rcases h with h | ⟨b, h1, h2, h3, h4, h5, h6, h7⟩
  · rw [h] at hi'
    simp at hi'
  · have e := batsOf_get es hi'
    refine ⟨b, (es.getD i btz).a, (es.getD i btz).cap, h1, h4, ?_, ?_⟩
    · rw [e]
      exact h5 i hi'
    · rw [e]
      exact OwnA.ws0 (h6 i hi').2.2.2

set_option maxRecDepth 100000 in
theorem few_get {bs : List (List Wr)} (h : ∀ b ∈ bs, okWs b = true) {i : Nat} (hi : i < bs.length) : (bs.getD i []).length ≤ 6 ∧ Few (bs.getD i []) := ⟨(okWs_bulk (h _ (getB_mem hi))).1, (log_few h i hi).2⟩

set_option maxRecDepth 100000 in
theorem same_self (ws : List Wr) : sameB ws ws = true := (same_iff ws ws).2 rfl

set_option maxRecDepth 100000 in
theorem sameSelf_any (a b : Option Addr) (n cap cap' : Nat) (ws : List Wr) (w : World) (hn : ws.length = n) (hn1 : n ≤ 1048576) (hx : Few ws) (hi : IsWs w a ws) (hj : IsWs w b ws) :
    Calls Tryz.prog 8 #[.slice a n cap, .slice b n cap'] w fun e w' => e = .returned (.bool true) ∧ Below w.heap.size w w' := by
  have h := sameWrites_gen a b n n cap cap' ws ws w hn hn hn1 hn1 hx hx hi hj
  rw [same_self] at h
  exact h

set_option maxRecDepth 100000 in
set_option maxHeartbeats 16000000 in
theorem logBackWalk (a b : Option Addr) (la ca lb cb : Nat) (w : World) (hr1 : la ≤ maxLen ∧ Bytes w a la) (hr2 : lb ≤ maxLen ∧ Bytes w b lb) (hv : LV w) :
    Calls Tryz.prog 3 #[.slice a la ca, .slice b lb cb] w fun e w' => e = .returned (.bool true) ∧ Below w.heap.size w w' := by
  obtain ⟨hma, hba⟩ := hr1
  obtain ⟨hmb, hbb⟩ := hr2
  have HV := Lib.hid hv
  have HA := Lib.hid hba
  have HBB := Lib.hid hbb
  clear hv hba hbb
  cases hbig : decide (1048576 < la)
  rotate_left
  · go_enter Tryz.func3, Tryz.ntmps3
    go_wp2_with fail
    refine (big_is a la ca true hbig hma _).mono ?_
    rintro e w1 ⟨rfl, hw⟩
    subst w1
    go_wp2
    go_ret
    exact ⟨rfl, Below.refl _ _⟩
  have hla : la ≤ 1048576 := by simpa using hbig
  cases hbig2 : decide (1048576 < lb)
  rotate_left
  · go_enter Tryz.func3, Tryz.ntmps3
    go_wp2_with fail
    refine (big_is a la ca false hbig hma _).mono ?_
    rintro e w1 ⟨rfl, hw⟩
    subst w1
    go_wp2_with fail
    refine (big_is b lb cb true hbig2 hmb _).mono ?_
    rintro e w1 ⟨rfl, hw⟩
    subst w1
    go_wp2
    go_ret
    exact ⟨rfl, Below.refl _ _⟩
  have hlb : lb ≤ 1048576 := by simpa using hbig2
  go_enter Tryz.func3, Tryz.ntmps3
  go_wp2_with fail
  refine (big_is a la ca false hbig hma _).mono ?_
  rintro e w1 ⟨rfl, hw⟩
  subst w1
  go_wp2_with fail
  refine (big_is b lb cb false hbig2 hmb _).mono ?_
  rintro e w1 ⟨rfl, hw⟩
  subst w1
  clear hbig hbig2 hma hmb
  go_wp2_with fail
  refine (drawLog_any a la ca _ HA.out hla).mono ?_
  rintro e w1 ⟨s, rfl, hs, hb⟩
  have HB1 := Lib.hid hb
  clear hb
  go_wp2_with fail
  have hv1 := HV.out.below HB1.out
  refine (implLog_any s _ (by omega) hv1.1 hv1.2.1 hv1.2.2.1 hv1.2.2.2).mono ?_
  clear hv1
  rintro e w2 ⟨a2, cap2, es, rfl, hlog, hel, hO, hb⟩
  have HB2 := Lib.hid (below_step HB1.out HB1.out.size hb)
  have HO2 := Lib.hid hO
  have HL := Lib.hid hlog
  have HFX := Lib.hid (log_few hlog.1)
  have HZP := Lib.hid hlog.2.1
  have hzl : (logT (batsOf es)).length ≤ s.size := by
    have h := hlog.2.1.length_le
    simpa using h
  have HLB : Hid ((batsOf es).length = es.length) := by simp [batsOf, Hid]
  have HO2B := Lib.hid (hO.isBs (log_few hlog.1))
  clear hlog hO hb HB1
  generalize hbs : batsOf es = bs at *
  have HBS := Lib.hid hbs
  generalize hn : es.length = n at *
  have HN := Lib.hid hn
  clear hn hbs
  go_wp2_with fail
  refine (specLog_any s _ (by omega)).mono ?_
  rintro e w3 ⟨a3, cap3, es3, rfl, hlog3, -, hO3, hb⟩
  have HE3 : Hid (batsOf es3 = bs) := log_one hlog3 HL.out
  have hn3 : es3.length = n := by
    have h1 : (batsOf es3).length = es3.length := by simp [batsOf]
    have h2 := HLB.out
    rw [HE3.out] at h1
    omega
  have HI3 : Hid (IsBs w3 a3 bs) := by
    have h := hO3.isBs (by rw [HE3.out]; exact HFX.out)
    rw [HE3.out] at h
    exact Lib.hid h
  rw [HE3.out, hn3]
  have HB3 := Lib.hid (below_step HB2.out HB2.out.size hb)
  have HO3 := Lib.hid (HO2.out.below hb)
  have HI2 := Lib.hid (HO2B.out.below hb)
  clear hlog3 hO3 hb hn3 HE3 HB2 HO2 HO2B
  obtain ⟨z, hz⟩ : ∃ z, (logT bs).length = z := ⟨_, rfl⟩
  rw [hz] at hzl ⊢
  have HZ := Lib.hid hz
  clear hz
  have hzi : ¬ (s.size : Int) < (z : Int) := by omega
  have hzc : ¬ (z : Int) > (s.size : Int) := by omega
  have hdz : decide (s.size < z) = false := decide_eq_false (by omega)
  go_wp2
  try rw [hdz]
  go_loopw [10, 11] (fun t i wr => ∃ (j : Nat) (acc : ByteArray), j ≤ n ∧ i = .int .i64 j ∧ t = .string acc ∧ acc.size ≤ 10000 ∧ Hid (acc = str (logT (bs.take j))) ∧ Hid (Below w3.heap.size w3 wr)) (fun _ i _ => n - (intOf i).toNat)
  case atStart => exact ⟨0, _, Nat.zero_le _, rfl, rfl, by simp [ByteArray.size], rfl, Below.refl _ _⟩
  case round =>
    obtain ⟨j, acc, hj, rfl, rfl, hac, HAC, HB⟩ := hrel
    by_cases hj' : j < n
    · have hjb : j < bs.length := by rw [HLB.out]; exact hj'
      have i1 : (0 : Int) ≤ (j : Int) := by omega
      have i2 : (j : Int) < (n : Int) := by omega
      obtain ⟨b1, x1, y1, rfl, hz1, c1, hws⟩ := OwnB.get (HO3.out.below HB.out) (i := j) (by rw [HN.out]; exact hj')
      rw [HBS.out] at c1 hws
      obtain ⟨b2, o2, x2, y2, rfl, hz2, c2, hws2⟩ := HI3.out.at HB.out hjb
      have hfew := few_get HL.out.1 hjb
      have HLT := Lib.hid (logT_take hjb)
      have HLP : Hid ((logT (bs.take (j + 1))).length ≤ z) := by rw [← HZ.out]; exact Lib.hid (logT_part bs (j + 1))
      have HWS := Lib.hid hws
      have HWS2 := Lib.hid hws2
      have HTW := Lib.hid (HV.out.below (below_step HB3.out HB3.out.size HB.out)).2.2.1
      clear hws hws2
      generalize bs.getD j [] = ws at *
      obtain ⟨hl6, hfw⟩ := hfew
      have HFW := Lib.hid hfw
      clear hfw
      obtain ⟨q, hq⟩ : ∃ q, ws.length = q := ⟨_, rfl⟩
      rw [hq] at c1 c2 hl6
      have HQ := Lib.hid hq
      clear hq
      have HC : Hid (∀ p : Aft wr.heap.size wr, Calls Tryz.prog 8 #[.slice x1 q y1, .slice x2 q y2] p.now fun e w' => e = .returned (.bool true) ∧ Below p.now.heap.size p.now w') := fun p =>
        sameSelf_any _ _ q _ _ ws _ HQ.out (by omega) HFW.out ((HWS.out.isWs HFW.out).below p.below) (HWS2.out.below p.below)
      go_wp2_with fail
      have ge0 := aft_cell hz1 c1
      have ge1 := aft_cell hz2 c2
      have ne := aft_some wr
      refine wp_region_aft (by kernel_rfl) (by kernel_rfl) ?_
      repeat (first | go_big_quiet_step (first | (go_at_call 8; exact aft_of (HC.out _))))
      refine wpQuiet_nil ?_
      intro wq hq
      have HBQ := Lib.hid (below_step HB.out HB.out.size hq)
      have HWQ := Lib.hid (HWS.out.below hq)
      have HTQ := Lib.hid (HTW.out.below hq HTW.out.lt)
      replace c1 := held_cell hq c1 hz1
      clear hq ge0 ge1 ne HC HB hz1 hz2 c2 HWS HWS2 HTW
      go_wp2_with fail
      refine (implBatch_any x1 q y1 ws _ HQ.out (by omega) HFW.out HWQ.out HTQ.out).mono ?_
      rintro e w5 ⟨rfl, hb⟩
      have HB5 := Lib.hid (below_step HBQ.out HBQ.out.size hb)
      clear hb HBQ HWQ HTQ
      have HSA : Hid (acc ++ str (batchT ws) = str (logT (bs.take (j + 1)))) := by
        show _ = _
        rw [HAC.out, str_add, HLT.out]
      have hsa : (acc ++ str (batchT ws)).size ≤ 10000 := by
        rw [HSA.out, str_size]
        have := HLP.out
        omega
      generalize str (batchT ws) = tb at *
      have hsb : acc.size + tb.size ≤ 10000 := by rw [← ByteArray.size_append]; exact hsa
      go_wp2
      exact ⟨⟨j + 1, _, by omega, by go_num, rfl, hsa, HSA, HB5⟩, by simp [intOf]; omega⟩
    · have hjn : j = n := by omega
      subst hjn
      have HAE : Hid (acc = str (logT bs)) := by
        have h := HAC.out
        rw [List.take_of_length_le (by rw [HLB.out]; exact Nat.le_refl _)] at h
        exact Lib.hid h
      have HEX : Hid ((s.extract 0 z).data.toList = logT bs) := by
        show _ = _
        rw [piece, List.drop_zero, ← HZ.out]
        exact (List.prefix_iff_eq_take.1 HZP.out).symm
      have hq : (acc.toList == (s.extract 0 z).toList) = true := by
        rw [beq_iff_eq, ByteArray.toList_eq, ByteArray.toList_eq, HEX.out, HAE.out]
        simp [str]
      have z0 : (0 : Int) ≤ (z : Int) := by omega
      have z1 : (z : Int) ≤ (s.size : Int) := by omega
      have HBW := Lib.hid (below_step HB3.out HB3.out.size HB.out)
      have HPK := Lib.hid (pickB_any b lb cb (s.size + 1) wr (HBB.out.below HBW.out) hlb (by omega))
      rw [show ((s.size + 1 : Nat) : Int) = (s.size : Int) + 1 by omega] at HPK
      go_wp2_with fail
      refine HPK.out.mono ?_
      rintro e w5 ⟨k, rfl, hk, hw⟩
      subst w5
      have hk' : k ≤ s.size := by have := hk (by omega); omega
      clear hk HPK hq
      have k0 : (0 : Int) ≤ (k : Int) := by omega
      have k1 : (k : Int) ≤ (s.size : Int) := by omega
      have hxs : (s.extract 0 k).size ≤ 1048576 := by rw [ByteArray.size_extract]; omega
      go_wp2_with fail
      have hv5 := HV.out.below HBW.out
      refine (implLog_any (s.extract 0 k) _ hxs hv5.1 hv5.2.1 hv5.2.2.1 hv5.2.2.2).mono ?_
      clear hv5
      rintro e w6 ⟨a6, cap6, es6, rfl, hlog6, -, hO6, hb⟩
      have hlog7 : IsLog (s.data.toList.take k) (batsOf es6) := by
        have e1 : (s.extract 0 k).data.toList = s.data.toList.take k := by rw [piece, List.drop_zero]
        rw [e1] at hlog6
        exact hlog6
      obtain ⟨hcut, hall⟩ := log_cut HL.out hlog7
      have HCUT := Lib.hid hcut
      have hll : (logT (batsOf es6)).length ≤ k := by
        have h := hlog7.2.1.length_le
        rw [List.length_take] at h
        omega
      have HFX6 := Lib.hid (log_few hlog7.1)
      have HOK6 := Lib.hid hlog7.1
      have HI6 := Lib.hid (hO6.isBs (log_few hlog7.1))
      have hl6 : (batsOf es6).length = es6.length := by simp [batsOf]
      have hle : es6.length ≤ j := by
        have h := hcut.length_le
        rw [HLB.out, hl6] at h
        exact h
      have HNK : Hid (¬ k < z → es6.length = j) := fun h => by
        have h2 := hall (by rw [HZ.out]; omega)
        have h3 := HLB.out
        rw [← h2] at h3
        omega
      have HB6 := Lib.hid (below_step HBW.out HBW.out.size hb)
      have HR6 := Lib.hid (HI2.out.below (below_step HB.out HB.out.size hb))
      clear hlog6 hlog7 hcut hall hO6 hb HBW
      generalize hcs : batsOf es6 = cs at *
      generalize hm6 : es6.length = m at *
      clear hcs hm6
      have HM := Lib.hid hl6
      clear hl6
      generalize (logT cs).length = y at *
      have y1 : ¬ (k : Int) < (y : Int) := by omega
      have m1 : ¬ (j : Int) < (m : Int) := by omega
      have hdk : decide (k < y) = false := decide_eq_false (by omega)
      have hdm : decide (j < m) = false := decide_eq_false (by omega)
      go_wp2
      try rw [hdk]
      try rw [hdm]
      go_loopw [15] (fun i wr => ∃ (p : Nat), p ≤ m ∧ i = .int .i64 p ∧ Hid (Below w6.heap.size w6 wr)) (fun i _ => m - (intOf i).toNat)
      case atStart => exact ⟨0, Nat.zero_le _, rfl, Below.refl _ _⟩
      case round =>
        clear HB
        obtain ⟨p, hp, rfl, HB⟩ := hrel
        by_cases hp' : p < m
        · have hpc : p < cs.length := by rw [HM.out]; exact hp'
          have hpb : p < bs.length := by rw [HLB.out]; omega
          have i1 : (0 : Int) ≤ (p : Int) := by omega
          have i2 : (p : Int) < (m : Int) := by omega
          have i3 : (p : Int) < (j : Int) := by omega
          obtain ⟨b1, o1, x1, y3, rfl, hz1, c1, hws⟩ := HI6.out.at HB.out hpc
          obtain ⟨b2, o2, x2, y2, rfl, hz2, c2, hws2⟩ := HR6.out.at HB.out hpb
          rw [first_get HCUT.out hpc] at c2 hws2
          have hfew := few_get HOK6.out hpc
          have HWS := Lib.hid hws
          have HWS2 := Lib.hid hws2
          clear hws hws2
          generalize cs.getD p [] = ws at *
          obtain ⟨hl6, hfw⟩ := hfew
          have HFW := Lib.hid hfw
          clear hfw
          obtain ⟨q, hq⟩ : ∃ q, ws.length = q := ⟨_, rfl⟩
          rw [hq] at c1 c2 hl6
          have HQ := Lib.hid hq
          clear hq
          have HC : Hid (∀ p : Aft wr.heap.size wr, Calls Tryz.prog 8 #[.slice x1 q y3, .slice x2 q y2] p.now fun e w' => e = .returned (.bool true) ∧ Below p.now.heap.size p.now w') := fun p =>
            sameSelf_any _ _ q _ _ ws _ HQ.out (by omega) HFW.out (HWS.out.below p.below) (HWS2.out.below p.below)
          go_wp2_with fail
          have ge0 := aft_cell hz1 c1
          have ge1 := aft_cell hz2 c2
          have ne := aft_some wr
          refine wp_region_aft (by kernel_rfl) (by kernel_rfl) ?_
          repeat (first | go_big_quiet_step (first | (go_at_call 8; exact aft_of (HC.out _))))
          refine wpQuiet_nil ?_
          intro wq hq
          have HBQ := Lib.hid (below_step HB.out HB.out.size hq)
          clear hq ge0 ge1 ne HC HB hz1 hz2 c1 c2 HWS HWS2
          go_wp2
          exact ⟨⟨p + 1, by omega, by go_num, HBQ⟩, by simp [intOf]; omega⟩
        · have hpm : p = m := by omega
          subst hpm
          have HWI : Hid (withinB (replayW cs) (replayW bs) = true) := within_first HCUT.out
          have HI7 := Lib.hid (HI6.out.below HB.out)
          have HR7 := Lib.hid (HR6.out.below HB.out)
          have HB7 := Lib.hid (below_step HB6.out HB6.out.size HB.out)
          have hoa := replay_ok cs
          have hob := replay_ok bs
          obtain ⟨rc, hrc⟩ : ∃ rc, replayW cs = rc := ⟨_, rfl⟩
          obtain ⟨rd, hrd⟩ : ∃ rd, replayW bs = rd := ⟨_, rfl⟩
          rw [hrc] at hoa HWI
          rw [hrd] at hob HWI
          have HRC := Lib.hid hrc
          have HRD := Lib.hid hrd
          have HFC := Lib.hid (ok_few hoa)
          have HFD := Lib.hid (ok_few hob)
          have hl1 := mapOk_len hoa
          have hl2 := mapOk_len hob
          clear hrc hrd hoa hob
          have HRA := Lib.hid (implReplay_any a6 p cap6 cs wr HM.out (by omega) HFX6.out HI7.out)
          by_cases hkz : (k : Int) < (z : Int)
          · have hkn : k < z := by omega
            go_wp2_with fail
            refine HRA.out.mono ?_
            rintro e w8 ⟨v8, es8, rfl, he8, hr8, hb⟩
            rw [HRC.out] at he8
            have HB8 := Lib.hid (below_step HB7.out HB7.out.size hb)
            have HR8 := Lib.hid (HR7.out.below hb)
            obtain ⟨g8, c8, m8, hv8, hm8, hg8⟩ := hr8.ownA he8
            subst hv8
            have HL8 := Lib.hid hm8
            have HS8 := Lib.hid (hg8.isWs HFC.out)
            have hq8 : m8 ≤ 6 := by rw [← hm8]; exact hl1
            clear hb hr8 he8 hg8 hm8 HRA
            have HRB := Lib.hid (implReplay_any a2 j cap2 bs w8 HLB.out (by omega) HFX.out HR8.out)
            go_wp2_with fail
            refine HRB.out.mono ?_
            rintro e w9 ⟨v9, es9, rfl, he9, hr9, hb⟩
            rw [HRD.out] at he9
            have HB9 := Lib.hid (below_step HB8.out HB8.out.size hb)
            have HS9 := Lib.hid (HS8.out.below hb)
            obtain ⟨g9, c9, m9, hv9, hm9, hg9⟩ := hr9.ownA he9
            subst hv9
            have HL9 := Lib.hid hm9
            have HT9 := Lib.hid (hg9.isWs HFD.out)
            have hq9 : m9 ≤ 6 := by rw [← hm9]; exact hl2
            clear hb hr9 he9 hg9 hm9 HRB
            have HWC := Lib.hid (implWithin_any g8 g9 m8 m9 c8 c9 rc rd w9 HL8.out HL9.out (by omega) (by omega) HFC.out HFD.out HS9.out HT9.out)
            rw [HWI.out] at HWC
            go_wp2_with fail
            refine HWC.out.mono ?_
            rintro e w10 ⟨rfl, hb⟩
            have HB10 := Lib.hid (below_step HB9.out HB9.out.size hb)
            clear hb HWC
            go_wp2
            go_ret
            exact ⟨rfl, HB10.out⟩
          · have hkn : ¬ k < z := by omega
            have hpe : p = j := HNK.out hkn
            subst hpe
            go_wp2_with fail
            refine HRA.out.mono ?_
            rintro e w8 ⟨v8, es8, rfl, he8, hr8, hb⟩
            rw [HRC.out] at he8
            have HB8 := Lib.hid (below_step HB7.out HB7.out.size hb)
            have HR8 := Lib.hid (HR7.out.below hb)
            obtain ⟨g8, c8, m8, hv8, hm8, hg8⟩ := hr8.ownA he8
            subst hv8
            have HL8 := Lib.hid hm8
            have HS8 := Lib.hid (hg8.isWs HFC.out)
            have hq8 : m8 ≤ 6 := by rw [← hm8]; exact hl1
            clear hb hr8 he8 hg8 hm8 HRA
            have HRB := Lib.hid (implReplay_any a2 p cap2 bs w8 HLB.out (by omega) HFX.out HR8.out)
            go_wp2_with fail
            refine HRB.out.mono ?_
            rintro e w9 ⟨v9, es9, rfl, he9, hr9, hb⟩
            rw [HRD.out] at he9
            have HB9 := Lib.hid (below_step HB8.out HB8.out.size hb)
            have HS9 := Lib.hid (HS8.out.below hb)
            obtain ⟨g9, c9, m9, hv9, hm9, hg9⟩ := hr9.ownA he9
            subst hv9
            have HL9 := Lib.hid hm9
            have HT9 := Lib.hid (hg9.isWs HFD.out)
            have hq9 : m9 ≤ 6 := by rw [← hm9]; exact hl2
            clear hb hr9 he9 hg9 hm9 HRB
            have HWC := Lib.hid (implWithin_any g8 g9 m8 m9 c8 c9 rc rd w9 HL8.out HL9.out (by omega) (by omega) HFC.out HFD.out HS9.out HT9.out)
            rw [HWI.out] at HWC
            go_wp2_with fail
            refine HWC.out.mono ?_
            rintro e w10 ⟨rfl, hb⟩
            have HB10 := Lib.hid (below_step HB9.out HB9.out.size hb)
            clear hb HWC
            go_wp2
            go_ret
            exact ⟨rfl, HB10.out⟩

end Go.Proofs.YtidpcjcnhklmpacGreatDoor.lawLogBack
