import Derived.Test.YtbbmpfkijhhemaaGreatDoorPack7
import Derived.Test.YtbbmpfkijhhemaaGreatDoorPack11
import Derived.Test.YtbbmpfkijhhemaaGreatDoorPack5
import Derived.Test.YtbbmpfkijhhemaaGreatDoorPack4
import Derived.Test.YtbbmpfkijhhemaaGreatDoorPack8
import Derived.Test.YtbbmpfkijhhemaaGreatDoorPack6
namespace Go.Proofs.YtbbmpfkijhhemaaGreatDoor
open Go.ChangeShapes Go.WideShapes Go.ChangeAt Go.RowKit Go.Joins
set_option maxRecDepth 100000
attribute [local go_sem ↓] Go.wp_at_zero Go.wp_at_succ

def repPut (m : List Wr) (x : Wr) : List Wr := if okW x = true then putW m x else m

def repRun (m : List Wr) (ws : List Wr) : List Wr := ws.foldl repPut m

def replayW (bs : List (List Wr)) : List Wr := bs.foldl repRun []

theorem one_ok {x : Wr} (h : okW x = true) : mapOkB [x] = true := (mapOk_iff _).2 ⟨fun y hy => by
  have : y = x := by simpa using hy
  rw [this]
  exact h, by simp [Rise]⟩

theorem repPut_ok {m : List Wr} (h : mapOkB m = true) (x : Wr) : mapOkB (repPut m x) = true := by
  unfold repPut
  split
  · rename_i hx
    have e : joinB m [x] = putW m x := by
      unfold joinB
      rw [if_pos ⟨h, one_ok hx⟩]
      rfl
    rw [← e]
    exact joinB_mapOk _ _
  · exact h

theorem repRun_ok : ∀ (ws m : List Wr), mapOkB m = true → mapOkB (repRun m ws) = true
  | [], _, h => h
  | x :: r, m, h => repRun_ok r (repPut m x) (repPut_ok h x)

theorem replay_fold : ∀ (bs : List (List Wr)) (m : List Wr), mapOkB m = true → mapOkB (bs.foldl repRun m) = true
  | [], _, h => h
  | b :: r, m, h => replay_fold r (repRun m b) (repRun_ok b m h)

theorem replay_ok (bs : List (List Wr)) : mapOkB (replayW bs) = true := replay_fold bs [] rfl

theorem repRun_take (ws m : List Wr) (k : Nat) (h : k < ws.length) : repRun m (ws.take (k + 1)) = repPut (repRun m (ws.take k)) (ws.getD k wz) := foldl_take repPut ws m k h

theorem replay_take (bs : List (List Wr)) (k : Nat) (h : k < bs.length) : replayW (bs.take (k + 1)) = repRun (replayW (bs.take k)) (bs.getD k []) := by
  unfold replayW
  have e : bs.take (k + 1) = bs.take k ++ [bs.getD k []] := by
    rw [List.take_add_one, List.getElem?_eq_getElem h]
    simp [List.getD, h]
  rw [e, List.foldl_append]
  rfl

theorem ok_few {m : List Wr} (h : mapOkB m = true) : Few m := few_of_bulk (by have := mapOk_bulk h; omega)

set_option maxHeartbeats 4000000 in
theorem specReplay_any (a : Option Addr) (n cap : Nat) (bs : List (List Wr)) (w : World) (hn : bs.length = n) (hm : n ≤ 1048576) (hx : FewB bs) (h : IsBs w a bs) :
    Calls Tryz.prog 129 #[.slice a n cap] w fun e w' => AnsS w w' e (replayW bs) := by
  have H := Lib.hid h
  have HN := Lib.hid hn
  have HX := Lib.hid hx
  clear h hn hx
  have HR0 : Hid (RowEs (w.alloc (.cells #[] 33)) w.heap.size w.heap.size 0 []) := rowEs_start _ _ (Nat.le_refl _)
  have HB0 : Hid (Below w.heap.size w (w.alloc (.cells #[] 33))) := (Below.refl _ _).alloc (Nat.le_refl _) _
  go_enter Tryz.func129, Tryz.ntmps129
  go_wp2
  go_loopw [3, 4] (fun t i wr => ∃ (k L g cp : Nat) (es : List En), k ≤ n ∧ L ≤ 6 ∧ i = .int .i64 k ∧ t = .slice (some ⟨g, 0, none⟩) L cp ∧ Hid (es.length = L) ∧ Hid (es.map (·.x) = replayW (bs.take k)) ∧ Hid (RowEs wr w.heap.size g cp es) ∧ Hid (Below w.heap.size w wr)) (fun _ i _ => n - (intOf i).toNat)
  case atStart => exact ⟨0, 0, w.heap.size, 0, [], Nat.zero_le _, by omega, rfl, rfl, rfl, rfl, HR0, HB0⟩
  case round =>
    clear HR0 HB0
    obtain ⟨k, L, g, cp, es, hk, hL, rfl, rfl, HL, HE, HR, HB⟩ := hrel
    obtain ⟨W1, rfl⟩ : ∃ W1, W1 = wr := ⟨wr, rfl⟩
    by_cases hk' : k < n
    · have hkk : k < bs.length := by rw [HN.out]; exact hk'
      have i1 : (0 : Int) ≤ (k : Int) := by omega
      have i2 : (k : Int) < (n : Int) := by omega
      obtain ⟨b, o, ad, cpd, rfl, hz, e0, hw⟩ := H.out.at HB.out hkk
      obtain ⟨hl, hf⟩ := HX.out k hkk
      have HT := Lib.hid (replay_take bs k hkk)
      have HOK := Lib.hid (replay_ok (bs.take k))
      have HW := Lib.hid hw
      have HF := Lib.hid hf
      clear hw hf
      generalize bs.getD k [] = ws at *
      generalize replayW (bs.take k) = m at *
      obtain ⟨q, hq⟩ : ∃ q, ws.length = q := ⟨_, rfl⟩
      rw [hq] at e0 hl
      have HQ := Lib.hid hq
      clear hq
      go_wp2
      go_loopw [3, 5] (fun t i wq => ∃ (j L g cp : Nat) (es : List En), j ≤ q ∧ L ≤ 6 ∧ i = .int .i64 j ∧ t = .slice (some ⟨g, 0, none⟩) L cp ∧ Hid (es.length = L) ∧ Hid (es.map (·.x) = repRun m (ws.take j)) ∧ Hid (RowEs wq w.heap.size g cp es) ∧ Hid (Below W1.heap.size W1 wq) ∧ Hid (Below w.heap.size w wq)) (fun _ i _ => q - (intOf i).toNat)
      case atStart => exact ⟨0, L, g, cp, es, Nat.zero_le _, hL, rfl, rfl, HL, HE, HR, Below.refl _ _, HB⟩
      case round =>
        clear HL HE HR HB hL
        obtain ⟨j, L, g, cp, es, hj, hL, rfl, rfl, HL, HE, HR, HBR, HB⟩ := hrel
        have e1 := (HBR.out.cell (p := ⟨b, o + k, none⟩) hz).trans e0
        by_cases hj' : j < q
        · have hjj : j < ws.length := by rw [HQ.out]; exact hj'
          have j1 : (0 : Int) ≤ (j : Int) := by omega
          have j2 : (j : Int) < (q : Int) := by omega
          obtain ⟨b2, o2, ad2, cp2, rfl, hz2, ⟨c0, c1, c2, c3, c4, c5, c6⟩, hd⟩ := HW.out.at HBR.out HQ.out hj'
          have hxl := HF.out j hjj
          have HD := Lib.hid hd
          have HS := Lib.hid (repRun_take ws m j hjj)
          have HO := Lib.hid (repRun_ok (ws.take j) m HOK.out)
          have HH : Hid (HoldsWs wr g (repRun m (ws.take j)) (gamma es)) := HR.out.holds HE.out
          have HLL : Hid ((repRun m (ws.take j)).length = L) := by
            rw [← HE.out, List.length_map]
            exact HL
          clear hd
          generalize ws.getD j wz = x at *
          obtain ⟨xk, xc, xs', xq, xv, xd, xx⟩ := x
          simp only at c0 c1 c2 c3 c4 c5 c6 hxl HD
          generalize repRun m (ws.take j) = ms at *
          cases hok : okW ⟨xk, xc, xs', xq, xv, xd, xx⟩
          · have HE2 : Hid (es.map (·.x) = repRun m (ws.take (j + 1))) := by
              show _ = _
              rw [HS.out]
              unfold repPut
              rw [if_neg (by rw [hok]; simp)]
              exact HE.out
            go_wp2_with fail
            refine (specWriteOk_is ⟨xk, xc, xs', xq, xv, xd, xx⟩ false hok ad2 cp2 _ hxl HD.out).mono ?_
            rintro e w2 ⟨rfl, hb⟩
            have HR2 := Lib.hid (HR.out.below hb)
            have HBR2 := Lib.hid (below_step HBR.out HBR.out.size hb)
            have HB2 := Lib.hid (below_step HB.out HB.out.size hb)
            clear hb
            go_wp2
            exact ⟨⟨j + 1, L, g, cp, es, by omega, hL, by go_num, rfl, HL, HE2, HR2, HBR2, HB2⟩, by simp [intOf]; omega⟩
          · have HS2 : Hid (repRun m (ws.take (j + 1)) = putW ms ⟨xk, xc, xs', xq, xv, xd, xx⟩) := by
              show _ = _
              rw [HS.out]
              unfold repPut
              rw [if_pos hok]
            have HO2 : Hid (mapOkB (putW ms ⟨xk, xc, xs', xq, xv, xd, xx⟩) = true) := by
              have := repPut_ok HO.out ⟨xk, xc, xs', xq, xv, xd, xx⟩
              unfold repPut at this
              rw [if_pos hok] at this
              exact this
            go_wp2_with fail
            refine (specWriteOk_is ⟨xk, xc, xs', xq, xv, xd, xx⟩ true hok ad2 cp2 _ hxl HD.out).mono ?_
            rintro e w2 ⟨rfl, hb⟩
            have HR2 := Lib.hid (HR.out.below hb)
            have HBR2 := Lib.hid (below_step HBR.out HBR.out.size hb)
            have HB2 := Lib.hid (below_step HB.out HB.out.size hb)
            have HD2 := Lib.hid (HD.out.below hb)
            have e2 := (hb.cell (p := ⟨b, o + k, none⟩) (Nat.lt_of_lt_of_le hz HBR.out.size)).trans e1
            have d0 := (hb.cell (p := ⟨b2, o2 + j * 7, none⟩) hz2).trans c0
            have d1 := (hb.cell (p := ⟨b2, o2 + j * 7 + 1, none⟩) hz2).trans c1
            have d2 := (hb.cell (p := ⟨b2, o2 + j * 7 + 2, none⟩) hz2).trans c2
            have d3 := (hb.cell (p := ⟨b2, o2 + j * 7 + 3, none⟩) hz2).trans c3
            have d4 := (hb.cell (p := ⟨b2, o2 + j * 7 + 4, none⟩) hz2).trans c4
            have d5 := (hb.cell (p := ⟨b2, o2 + j * 7 + 5, none⟩) hz2).trans c5
            have d6 := (hb.cell (p := ⟨b2, o2 + j * 7 + 6, none⟩) hz2).trans c6
            have HH2 := Lib.hid ((HR2.out.holds HE.out).isWs (ok_few HO.out))
            clear hb hok c0 c1 c2 c3 c4 c5 c6 e1 HR HBR HB HD HH
            go_wp2_with fail
            refine (put_gen _ L cp ms ⟨xk, xc, xs', xq, xv, xd, xx⟩ ad2 cp2 _ HLL.out (by omega) (ok_few HO.out) HH2.out hxl HD2.out).mono ?_
            rintro e w3 ⟨g3, cp3, es3, L3, rfl, hl3, he3, hr3, hb3⟩
            have hL3 : L3 ≤ 6 := by
              have h1 := mapOk_len HO2.out
              rw [← he3, List.length_map, hl3] at h1
              exact h1
            have HL3 := Lib.hid hl3
            have HE3 : Hid (es3.map (·.x) = repRun m (ws.take (j + 1))) := he3.trans HS2.out.symm
            have HR3 := Lib.hid (hr3.mono (Nat.le_trans HB2.out.size (Nat.le_succ _)))
            have HBR3 := Lib.hid (below_step HBR2.out HBR2.out.size hb3)
            have HB3 := Lib.hid (below_step HB2.out HB2.out.size hb3)
            clear hl3 he3 hr3 hb3
            go_wp2
            exact ⟨⟨j + 1, L3, g3, cp3, es3, by omega, hL3, by go_num, rfl, HL3, HE3, HR3, HBR3, HB3⟩, by simp [intOf]; omega⟩
        · have hjj : j = q := by omega
          subst hjj
          have HE2 : Hid (es.map (·.x) = replayW (bs.take (k + 1))) := by
            have h := HE.out
            rw [List.take_of_length_le (by rw [HQ.out]; exact Nat.le_refl _)] at h
            exact h.trans HT.out.symm
          go_wp2
          exact ⟨⟨k + 1, L, g, cp, es, by omega, hL, by go_num, rfl, HL, HE2, HR, HB⟩, by simp [intOf]; omega⟩
    · have hkk : k = n := by omega
      subst hkk
      have HF : Hid (es.map (·.x) = replayW bs) := by
        have h := HE.out
        rw [List.take_of_length_le (by rw [HN.out]; exact Nat.le_refl _)] at h
        exact h
      go_wp2
      go_ret
      exact ⟨g, cp, es, L, rfl, HL.out, HF.out, HR.out, HB.out⟩

end Go.Proofs.YtbbmpfkijhhemaaGreatDoor

namespace Go.Proofs.YtbbmpfkijhhemaaGreatDoor
open Go.ChangeShapes Go.WideShapes Go.ChangeAt Go.RowKit Go.Joins
set_option maxRecDepth 100000
attribute [local go_sem ↓] Go.wp_at_zero Go.wp_at_succ

def regRep (M : Int → Option Wr) (x : Wr) : Int → Option Wr := if okW x = true then regPut M x else M

def regRun (M : Int → Option Wr) (ws : List Wr) : Int → Option Wr := ws.foldl regRep M

def regAll (bs : List (List Wr)) : Int → Option Wr := bs.foldl regRun (fun _ => none)

theorem ok_rise {m : List Wr} (h : mapOkB m = true) : Rise m := ((mapOk_iff m).1 h).2

theorem regRep_find {m : List Wr} (h : mapOkB m = true) (x : Wr) : regRep (findW m) x = findW (repPut m x) := by
  unfold regRep repPut
  split
  · funext key
    rw [find_putW (ok_rise h)]
    unfold regPut
    rfl
  · rfl

theorem regRun_find : ∀ (ws m : List Wr), mapOkB m = true → regRun (findW m) ws = findW (repRun m ws)
  | [], _, _ => rfl
  | x :: r, m, h => by
    show regRun (regRep (findW m) x) r = findW (repRun (repPut m x) r)
    rw [regRep_find h]
    exact regRun_find r _ (repPut_ok h x)

theorem regAll_fold : ∀ (bs : List (List Wr)) (m : List Wr), mapOkB m = true → bs.foldl regRun (findW m) = findW (bs.foldl repRun m)
  | [], _, _ => rfl
  | b :: r, m, h => by
    show r.foldl regRun (regRun (findW m) b) = findW (r.foldl repRun (repRun m b))
    rw [regRun_find b m h]
    exact regAll_fold r _ (repRun_ok b m h)

theorem regAll_find (bs : List (List Wr)) : regAll bs = findW (replayW bs) := regAll_fold bs [] rfl

theorem told_replay (bs : List (List Wr)) : toldM (regAll bs) = replayW bs := by
  rw [regAll_find]
  exact told_find (ok_rise (replay_ok bs)) (mapOk_keys (replay_ok bs))

theorem regRun_take (ws : List Wr) (M : Int → Option Wr) (k : Nat) (h : k < ws.length) : regRun M (ws.take (k + 1)) = regRep (regRun M (ws.take k)) (ws.getD k wz) := foldl_take regRep ws M k h

theorem regAll_take (bs : List (List Wr)) (k : Nat) (h : k < bs.length) : regAll (bs.take (k + 1)) = regRun (regAll (bs.take k)) (bs.getD k []) := by
  unfold regAll
  have e : bs.take (k + 1) = bs.take k ++ [bs.getD k []] := by
    rw [List.take_add_one, List.getElem?_eq_getElem h]
    simp [List.getD, h]
  rw [e, List.foldl_append]
  rfl

theorem IsBs.base {w w' : World} {a : Option Addr} {bs : List (List Wr)} (h : IsBs w a bs) (hb : Below w.heap.size w w') {k : Nat} (hk : k < bs.length) : ∃ b o a' cap, a = some ⟨b, o, none⟩ ∧ b < w'.heap.size ∧ w'.cell? ⟨b, o + k, none⟩ = some (.slice a' (bs.getD k []).length cap) ∧ IsWs w a' (bs.getD k []) := by
  rcases h with h | ⟨b, o, ha, hlt, hh⟩
  · subst h
    simp at hk
  · obtain ⟨a', cap, hc, hw⟩ := hh k hk
    exact ⟨b, o, a', cap, ha, Nat.lt_of_lt_of_le hlt hb.size, (hb.cell (p := ⟨b, o + k, none⟩) hlt).trans hc, hw⟩

theorem implWriteOk_is (x : Wr) (r : Bool) (h : okW x = r) (ad : Option Addr) (cp : Nat) (w : World) (hl : x.xs.length ≤ 1048576) (hd : IsDeps w ad x.xs) :
    Calls Tryz.prog 45 #[wrOf x ad cp] w fun e w' => e = .returned (.bool r) ∧ Below w.heap.size w w' := by
  subst h
  exact implWriteOk_gen x.k x.c x.s x.q x.v x.de ad x.xs _ cp w rfl hl hd

set_option maxHeartbeats 8000000 in
theorem implReplay_any (a : Option Addr) (n cap : Nat) (bs : List (List Wr)) (w : World) (hn : bs.length = n) (hm : n ≤ 1048576) (hx : FewB bs) (h : IsBs w a bs) :
    Calls Tryz.prog 66 #[.slice a n cap] w fun e w' => ∃ v es, e = .returned v ∧ es.map (·.x) = replayW bs ∧ RowG w' w.heap.size v es ∧ Below w.heap.size w w' := by
  have H := Lib.hid h
  have HN := Lib.hid hn
  have HX := Lib.hid hx
  clear h hn hx
  have HR0 : Hid (RegsW w (w.alloc (.map #[] 0)) w.heap.size 0 (fun _ => none)) := ⟨_, regs_made w, fun k => ⟨fun _ => rfl, fun x h => by cases h⟩⟩
  have HB0 : Hid (Below w.heap.size w (w.alloc (.map #[] 0))) := (Below.refl _ _).alloc (Nat.le_refl _) _
  have hmm := @run_makeMap Tryz.prog
  go_enter Tryz.func66, Tryz.ntmps66
  go_wp2
  clear hmm
  go_loopw [11] (fun i wr => ∃ (k m : Nat), k ≤ n ∧ i = .int .i64 k ∧ m ≤ 1048576 * k ∧ Hid (RegsW w wr w.heap.size m (regAll (bs.take k))) ∧ Hid (Below w.heap.size w wr)) (fun i _ => n - (intOf i).toNat)
  case atStart => exact ⟨0, 0, Nat.zero_le _, rfl, Nat.zero_le _, HR0, HB0⟩
  case round =>
    clear HR0 HB0
    obtain ⟨k, m, hk, rfl, hmk, HR, HB⟩ := hrel
    obtain ⟨W1, rfl⟩ : ∃ W1, W1 = wr := ⟨wr, rfl⟩
    by_cases hk' : k < n
    · have hkk : k < bs.length := by rw [HN.out]; exact hk'
      have i1 : (0 : Int) ≤ (k : Int) := by omega
      have i2 : (k : Int) < (n : Int) := by omega
      obtain ⟨b, o, ad, cpd, rfl, hz, e0, hw⟩ := H.out.base HB.out hkk
      obtain ⟨hl, hf⟩ := HX.out k hkk
      have HT := Lib.hid (regAll_take bs k hkk)
      have HW := Lib.hid hw
      have HF := Lib.hid hf
      clear hw hf
      generalize bs.getD k [] = ws at *
      generalize regAll (bs.take k) = M at *
      obtain ⟨q, hq⟩ : ∃ q, ws.length = q := ⟨_, rfl⟩
      rw [hq] at e0 hl
      have HQ := Lib.hid hq
      clear hq
      have HBA : Hid (Below W1.heap.size W1 (W1.alloc (.cells #[.slice ad q cpd] 95))) := (Below.refl _ _).alloc (Nat.le_refl _) _
      have HRA := Lib.hid (HR.out.below HBA.out)
      have HB1 := Lib.hid (below_step HB.out HB.out.size HBA.out)
      go_wp2
      generalize W1.alloc (.cells #[.slice ad q cpd] 95) = W2 at *
      go_loopw [18] (fun i wq => ∃ (j p : Nat), j ≤ q ∧ i = .int .i64 j ∧ p ≤ 1048576 * k + j ∧ Hid (RegsW w wq w.heap.size p (regRun M (ws.take j))) ∧ Hid (Below w.heap.size w wq)) (fun i _ => q - (intOf i).toNat)
      case atStart => exact ⟨0, m, Nat.zero_le _, rfl, by omega, HRA, HB1⟩
      case round =>
        clear HR HB HBA HRA HB1
        obtain ⟨j, p, hj, rfl, hp, HR, HB⟩ := hrel
        by_cases hj' : j < q
        · have hjj : j < ws.length := by rw [HQ.out]; exact hj'
          have j1 : (0 : Int) ≤ (j : Int) := by omega
          have j2 : (j : Int) < (q : Int) := by omega
          obtain ⟨b2, o2, ad2, cp2, rfl, hz2, ⟨c0, c1, c2, c3, c4, c5, c6⟩, hd⟩ := HW.out.base HB.out HQ.out hj'
          have hxl := HF.out j hjj
          have HD := Lib.hid hd
          have HS := Lib.hid (regRun_take ws M j hjj)
          clear hd
          generalize ws.getD j wz = x at *
          obtain ⟨xk, xc, xs', xq, xv, xd, xx⟩ := x
          simp only at c0 c1 c2 c3 c4 c5 c6 hxl HD
          generalize regRun M (ws.take j) = M2 at *
          have HX0 : Hid (Below wr.heap.size wr (wr.alloc (.cells #[.int .i64 xk, .int .i64 xc, .int .i64 xs', .int .i64 xq, .int .i64 xv, .bool xd, .slice ad2 xx.length cp2] 33))) := (Below.refl _ _).alloc (Nat.le_refl _) _
          have HR1 := Lib.hid (HR.out.below HX0.out)
          have HB1 := Lib.hid (below_step HB.out HB.out.size HX0.out)
          cases hok : okW ⟨xk, xc, xs', xq, xv, xd, xx⟩
          · have HE2 : Hid (regRun M (ws.take (j + 1)) = M2) := by
              show _ = _
              rw [HS.out]
              unfold regRep
              rw [if_neg (by rw [hok]; simp)]
            go_wp2_with fail
            refine (implWriteOk_is ⟨xk, xc, xs', xq, xv, xd, xx⟩ false hok ad2 cp2 _ hxl (HD.out.below HB1.out)).mono ?_
            rintro e w2 ⟨rfl, hb⟩
            have HR2 : Hid (RegsW w w2 w.heap.size p (regRun M (ws.take (j + 1)))) := by
              rw [HE2.out]
              exact HR1.out.below hb
            have HB2 := Lib.hid (below_step HB1.out HB1.out.size hb)
            clear hb
            go_wp2
            exact ⟨⟨j + 1, p, by omega, by go_num, by omega, HR2, HB2⟩, by simp [intOf]; omega⟩
          · have HE2 : Hid (regRun M (ws.take (j + 1)) = regPut M2 ⟨xk, xc, xs', xq, xv, xd, xx⟩) := by
              show _ = _
              rw [HS.out]
              unfold regRep
              rw [if_pos hok]
            have HKY := Lib.hid (okW_key hok)
            go_wp2_with fail
            refine (implWriteOk_is ⟨xk, xc, xs', xq, xv, xd, xx⟩ true hok ad2 cp2 _ hxl (HD.out.below HB1.out)).mono ?_
            rintro e w2 ⟨rfl, hb⟩
            have HX2 : Hid (BoxIn wr w2 xk xc xs' xq xv xd ad2 xx.length cp2) := BoxIn.start (t := 33) hb
            have HR2 := Lib.hid (HR1.out.below hb)
            have HB2 := Lib.hid (below_step HB1.out HB1.out.size hb)
            clear hb hok HR1 HB1 HX0
            have b0 := HX2.out.c0
            have b1 := HX2.out.c1
            have b2' := HX2.out.c2
            have b3 := HX2.out.c3
            have b4 := HX2.out.c4
            have b5 := HX2.out.c5
            have b6 := HX2.out.c6
            go_wp2_with fail
            refine (putOne_any w w.heap.size p M2 ⟨xk, xc, xs', xq, xv, xd, xx⟩ ad2 cp2 _ (by omega) hxl HKY.out HD.out HB2.out (Nat.le_refl _) HR2.out).mono ?_
            rintro e w3 ⟨rfl, hr3, hb3⟩
            have HR3 : Hid (RegsW w w3 w.heap.size (p + 1) (regRun M (ws.take (j + 1)))) := by
              rw [HE2.out]
              exact hr3
            have HB3 := Lib.hid hb3
            clear hr3 hb3
            go_wp2
            exact ⟨⟨j + 1, p + 1, by omega, by go_num, by omega, HR3, HB3⟩, by simp [intOf]; omega⟩
        · have hjj : j = q := by omega
          subst hjj
          have HR2 : Hid (RegsW w wr w.heap.size p (regAll (bs.take (k + 1)))) := by
            have h := HR.out
            rw [List.take_of_length_le (by rw [HQ.out]; exact Nat.le_refl _)] at h
            rw [HT.out]
            exact h
          go_wp2
          exact ⟨⟨k + 1, p, by omega, by go_num, by omega, HR2, HB⟩, by simp [intOf]; omega⟩
    · have hkk : k = n := by omega
      subst hkk
      have HRE : Hid (RegsW w W1 w.heap.size m (regAll bs)) := by
        have h := HR.out
        rw [List.take_of_length_le (by rw [HN.out]; exact Nat.le_refl _)] at h
        exact h
      go_wp2_with fail
      refine (told_any w w.heap.size m (regAll bs) _ HB.out HRE.out).mono ?_
      rintro e w6 ⟨v, es, rfl, hes, hrow, hb6⟩
      have HES : Hid (es.map (·.x) = replayW bs) := hes.trans (told_replay bs)
      have HRW := Lib.hid (hrow.mono HB.out.size)
      have HB6 : Hid (Below w.heap.size w w6) := below_step HB.out HB.out.size hb6
      clear hes hrow hb6
      go_wp2
      go_ret
      exact ⟨v, es, rfl, HES.out, HRW.out, HB6.out⟩

end Go.Proofs.YtbbmpfkijhhemaaGreatDoor

namespace Go.Proofs.YtbbmpfkijhhemaaGreatDoor
open Go.ChangeShapes Go.WideShapes Go.ChangeAt Go.RowKit Go.Joins
attribute [local go_sem ↓] Go.wp_at_zero Go.wp_at_succ

def lacking (ws : List Wr) (d : Dp) : Bool := !hasB ws d.k d.c d.s d.q

def lacksL (ws : List Wr) (ds : List Dp) : List Dp := ds.filter (lacking ws)

def covB (ws : List Wr) (ds : List Dp) : Bool := (lacksL ws ds).length == 0

theorem take_next (ds : List Dp) (k : Nat) (h : k < ds.length) : ds.take (k + 1) = ds.take k ++ [ds.getD k dz] := by
  rw [List.take_add_one, List.getElem?_eq_getElem h]
  simp [List.getD, h]

theorem lacks_more {ws : List Wr} {ds : List Dp} {k : Nat} (h : k < ds.length) (hd : lacking ws (ds.getD k dz) = true) : lacksL ws (ds.take (k + 1)) = lacksL ws (ds.take k) ++ [ds.getD k dz] := by
  unfold lacksL
  rw [take_next ds k h, List.filter_append]
  generalize ds.getD k dz = d at *
  simp [hd]

theorem lacks_same {ws : List Wr} {ds : List Dp} {k : Nat} (h : k < ds.length) (hd : lacking ws (ds.getD k dz) = false) : lacksL ws (ds.take (k + 1)) = lacksL ws (ds.take k) := by
  unfold lacksL
  rw [take_next ds k h, List.filter_append]
  generalize ds.getD k dz = d at *
  simp [hd]

theorem lacks_len (ws : List Wr) (ds : List Dp) (k : Nat) : (lacksL ws (ds.take k)).length ≤ k := by
  unfold lacksL
  have h1 := List.length_filter_le (lacking ws) (ds.take k)
  have h2 : (ds.take k).length ≤ k := by simp; omega
  omega

set_option maxHeartbeats 4000000 in
theorem specLacks_any (a ad : Option Addr) (n m cap cd : Nat) (ws : List Wr) (ds : List Dp) (w : World) (hn : ws.length = n) (hm : n ≤ 1048576) (hx : Few ws) (hl : ds.length = m) (hml : m ≤ 1048576) (hh : IsWs w a ws) (hd : IsDeps w ad ds) :
    Calls Tryz.prog 158 #[.slice a n cap, .slice ad m cd] w fun e w' => ∃ v, e = .returned v ∧ RowD w' w.heap.size v (lacksL ws ds) ∧ Below w.heap.size w w' := by
  have HH : Hid (IsWs w a ws) := hh
  have HD : Hid (IsDeps w ad ds) := hd
  have HN : Hid (ws.length = n) := hn
  have HL : Hid (ds.length = m) := hl
  have HX : Hid (Few ws) := hx
  clear hh hd hn hl hx
  obtain ⟨i0, hi0, hx0⟩ := Option.map_eq_some_iff.1 infoDep
  simp only [Prod.mk.injEq] at hx0
  have HI0 := Lib.hid hi0
  have HX0 := Lib.hid hx0
  clear hi0 hx0
  have HR0 : Hid (RowD (w.alloc (.cells #[] 81)) w.heap.size (.slice (some ⟨w.heap.size, 0, none⟩) 0 0) (lacksL ws (ds.take 0))) := World.ownsRow_made w #[] 0 (Nat.le_refl _) (by simp [maxLen]) (by simp)
  go_enter Tryz.func158, Tryz.ntmps158
  go_wp2
  go_loopw [5, 6] (fun t i wr => ∃ (k : Nat) (v : Value), k ≤ m ∧ i = .int .i64 k ∧ v = t ∧ Hid (RowD wr w.heap.size v (lacksL ws (ds.take k))) ∧ Hid (Below w.heap.size w wr)) (fun _ i _ => m - (intOf i).toNat)
  case atStart => exact ⟨0, _, Nat.zero_le _, rfl, rfl, HR0, (Below.refl _ _).alloc (Nat.le_refl _) _⟩
  case round =>
    clear HR0
    obtain ⟨k, v, hk, rfl, rfl, HR, HB⟩ := hrel
    by_cases hk' : k < m
    · have hkd : k < ds.length := by rw [HL.out]; exact hk'
      obtain ⟨b, o, rfl, hz, e0, e1, e2, e3⟩ := HD.out.at HB.out hkd
      have i1 : (0 : Int) ≤ (k : Int) := by omega
      have i2 : (k : Int) < (m : Int) := by omega
      have hln := lacks_len ws ds k
      have HC : Hid (∀ p : Aft wr.heap.size wr, Calls Tryz.prog 178 #[.slice a n cap, .int .i64 (ds.getD k dz).k, tagV (ds.getD k dz).c (ds.getD k dz).s (ds.getD k dz).q] p.now fun e w' => e = .returned (.bool (hasB ws (ds.getD k dz).k (ds.getD k dz).c (ds.getD k dz).s (ds.getD k dz).q)) ∧ Below p.now.heap.size p.now w') := fun p =>
        specMapHas_gen a n cap _ _ _ _ ws _ HN.out hm HX.out (HH.out.below (below_step HB.out HB.out.size p.below))
      have HM : Hid (hasB ws (ds.getD k dz).k (ds.getD k dz).c (ds.getD k dz).s (ds.getD k dz).q = false → lacksL ws (ds.take (k + 1)) = lacksL ws (ds.take k) ++ [ds.getD k dz]) := fun h => lacks_more hkd (by unfold lacking; rw [h]; rfl)
      have HS : Hid (hasB ws (ds.getD k dz).k (ds.getD k dz).c (ds.getD k dz).s (ds.getD k dz).q = true → lacksL ws (ds.take (k + 1)) = lacksL ws (ds.take k)) := fun h => lacks_same hkd (by unfold lacking; rw [h]; rfl)
      clear HD
      generalize ds.getD k dz = d at *
      obtain ⟨dk, dc, dd, dq⟩ := d
      simp only at e0 e1 e2 e3 HC HM HS
      cases hb : hasB ws dk dc dd dq
      · have HE := Lib.hid (HM.out hb)
        rw [hb] at HC
        clear hb HM HS
        generalize lacksL ws (ds.take k) = zs at *
        go_wp2_with fail
        have ge0 := aft_cell hz e0
        have ge1 := aft_cell hz e1
        have ge2 := aft_cell hz e2
        have ge3 := aft_cell hz e3
        have ne := aft_some wr
        refine wp_region_aft (by kernel_rfl) (by kernel_rfl) ?_
        repeat (first | go_big_quiet_step (first | (go_at_call 178; exact aft_of (HC.out _))))
        refine wpQuiet_nil ?_
        intro wq hq
        have HBQ : Hid (Below w.heap.size w wq) := below_step HB.out HB.out.size hq
        have HRQ := Lib.hid (HR.out.below hq)
        replace e0 := held_cell hq e0 hz
        replace e1 := held_cell hq e1 hz
        replace e2 := held_cell hq e2 hz
        replace e3 := held_cell hq e3 hz
        have hwq : w.heap.size ≤ wq.heap.size := HBQ.out.size
        clear hq ge0 ge1 ge2 ge3 ne HC HR HB
        have HBC : Hid (Below wq.heap.size wq (wq.alloc (.cells #[.int .i64 dk, .int .i64 dc, .int .i64 dd, .int .i64 dq] 81))) := (Below.refl _ _).alloc (Nat.le_refl _) _
        have HRC := Lib.hid (HRQ.out.below HBC.out)
        have HBD := Lib.hid (below_step HBQ.out HBQ.out.size HBC.out)
        go_wp2_with (at_builtin; refine wpList_append_lies _ (by rfl) _ _ _ (by rfl) w.heap.size 81 i0 (depV 0 0 0 0) 4 32 Tryz.underlying31 HI0.out HX0.out.1 HX0.out.2.1 HX0.out.2.2 (by rfl) (by omega) v zs.length (zs.flatMap dpVals) (by rfl) HRC.out ⟨wq.heap.size, 0, none⟩ 1 1 (dpVals ⟨dk, dc, dd, dq⟩) (by rfl) (by rfl) (oneD_cells wq _ ⟨dk, dc, dd, dq⟩) (dp_one _) (by omega) (by unfold maxLen; omega) (by omega) (by simp; omega) _ rfl ?_; intro g3 cp3 w5 hown hgrow hg3 _; refine Hid.out ?_)
        refine Lib.hid ?_
        have HB5 : Hid (Below w.heap.size w w5) := HBD.out.grown hgrow HBD.out.size fun j hj => (World.ownsRow.lt HRC.out j hj).1
        have HR5 : Hid (RowD w5 w.heap.size (.slice (some ⟨g3, 0, none⟩) (zs.length + 1) cp3) (lacksL ws (ds.take (k + 1)))) := by
          refine Lib.hid ?_
          rw [HE.out]
          unfold RowD
          rw [List.length_append, List.flatMap_append]
          simpa using hown
        clear hown hgrow
        go_wp2
        exact ⟨⟨k + 1, _, by omega, by go_num, rfl, HR5, HB5⟩, by simp [intOf]; omega⟩
      · have HE := Lib.hid (HS.out hb)
        rw [hb] at HC
        clear hb HM HS
        go_wp2_with fail
        have ge0 := aft_cell hz e0
        have ge1 := aft_cell hz e1
        have ge2 := aft_cell hz e2
        have ge3 := aft_cell hz e3
        have ne := aft_some wr
        refine wp_region_aft (by kernel_rfl) (by kernel_rfl) ?_
        repeat (first | go_big_quiet_step (first | (go_at_call 178; exact aft_of (HC.out _))))
        refine wpQuiet_nil ?_
        intro wq hq
        have HBQ : Hid (Below w.heap.size w wq) := below_step HB.out HB.out.size hq
        have HRQ : Hid (RowD wq w.heap.size v (lacksL ws (ds.take (k + 1)))) := by
          rw [HE.out]
          exact HR.out.below hq
        clear hq ge0 ge1 ge2 ge3 ne HC HR HB
        go_wp2
        exact ⟨⟨k + 1, _, by omega, by go_num, rfl, HRQ, HBQ⟩, by simp [intOf]; omega⟩
    · have hkk : k = m := by omega
      subst hkk
      have HF : Hid (RowD wr w.heap.size v (lacksL ws ds)) := by
        have h := HR.out
        rw [List.take_of_length_le (by rw [HL.out]; exact Nat.le_refl _)] at h
        exact h
      go_wp2
      go_ret
      exact ⟨_, rfl, HF.out, HB.out⟩

set_option maxHeartbeats 1000000 in
theorem specCovered_any (a ad : Option Addr) (n m cap cd : Nat) (ws : List Wr) (ds : List Dp) (w : World) (hn : ws.length = n) (hm : n ≤ 1048576) (hx : Few ws) (hl : ds.length = m) (hml : m ≤ 1048576) (hh : IsWs w a ws) (hd : IsDeps w ad ds) :
    Calls Tryz.prog 127 #[.slice a n cap, .slice ad m cd] w fun e w' => e = .returned (.bool (covB ws ds)) ∧ Below w.heap.size w w' := by
  have HC : Hid (Calls Tryz.prog 158 #[.slice a n cap, .slice ad m cd] w fun e w' => ∃ v, e = .returned v ∧ RowD w' w.heap.size v (lacksL ws ds) ∧ Below w.heap.size w w') := specLacks_any a ad n m cap cd ws ds w hn hm hx hl hml hh hd
  have HE : Hid (covB ws ds = (((lacksL ws ds).length : Int) == 0)) := by
    unfold covB
    show _ = _
    rw [Bool.eq_iff_iff]
    simp
  clear hh hd hn hl hx
  go_enter Tryz.func127, Tryz.ntmps127
  go_wp2_with fail
  refine HC.out.mono ?_
  rintro e w1 ⟨v, rfl, hrow, hb⟩
  obtain ⟨al, cl, rfl, -⟩ := hrow.form
  have HB := Lib.hid hb
  clear hrow hb HC
  go_wp2
  go_ret
  exact ⟨ret_bool HE.out.symm, HB.out⟩

end Go.Proofs.YtbbmpfkijhhemaaGreatDoor

namespace Go.Proofs.YtbbmpfkijhhemaaGreatDoor
open Go.ChangeShapes Go.WideShapes Go.ChangeAt Go.RowKit Go.Joins
attribute [local go_sem ↓] Go.wp_at_zero Go.wp_at_succ

def allTo (us vs : List Wr) (st : Nat → Bool) : Nat → List Wr
  | 0 => us
  | k + 1 => match st k with
    | true => putW (allTo us vs st k) (vs.getD k wz)
    | false => allTo us vs st k

theorem allTo_yes {us vs : List Wr} {st : Nat → Bool} {k : Nat} (h : st k = true) : allTo us vs st (k + 1) = putW (allTo us vs st k) (vs.getD k wz) := by
  unfold allTo
  rw [h]
  cases k <;> rfl

theorem allTo_no {us vs : List Wr} {st : Nat → Bool} {k : Nat} (h : st k = false) : allTo us vs st (k + 1) = allTo us vs st k := by
  rw [allTo, h]

def allOf (us vs : List Wr) (st : Nat → Bool) : List Wr := allTo us vs st vs.length

def nextS (us vs : List Wr) (st : Nat → Bool) (j : Nat) : Bool := st j && covB (allOf us vs st) (vs.getD j wz).xs

def stayAt (us vs : List Wr) : Nat → (Nat → Bool)
  | 0 => fun _ => true
  | n + 1 => nextS us vs (stayAt us vs n)

def cnt (st : Nat → Bool) : Nat → Nat
  | 0 => 0
  | k + 1 => cnt st k + (st k).toNat

theorem cnt_le {s t : Nat → Bool} : ∀ {m}, (∀ j, j < m → s j = true → t j = true) → cnt s m ≤ cnt t m
  | 0, _ => Nat.le_refl _
  | m + 1, h => by
    unfold cnt
    have h1 := cnt_le (m := m) (s := s) (t := t) (fun j hj => h j (by omega))
    have h2 := h m (by omega)
    cases e : s m <;> cases e' : t m <;> simp [e, e'] at h2 ⊢ <;> omega

theorem cnt_lt {s t : Nat → Bool} : ∀ {m}, (∀ j, j < m → s j = true → t j = true) → (∃ j, j < m ∧ t j = true ∧ s j = false) → cnt s m < cnt t m
  | 0, _, h => by obtain ⟨j, hj, _⟩ := h; omega
  | m + 1, h, h' => by
    obtain ⟨j, hj, h3, h4⟩ := h'
    unfold cnt
    by_cases hm : j = m
    · subst hm
      have h1 := cnt_le (m := j) (s := s) (t := t) (fun i hi => h i (by omega))
      rw [h3, h4]
      simp
      omega
    · have h1 := cnt_lt (m := m) (s := s) (t := t) (fun i hi => h i (by omega)) ⟨j, by omega, h3, h4⟩
      have h2 := h m (by omega)
      cases e : s m <;> cases e' : t m <;> simp [e, e'] at h2 ⊢ <;> omega

theorem next_le {us vs : List Wr} {st : Nat → Bool} {j : Nat} (h : nextS us vs st j = true) : st j = true := by
  unfold nextS at h
  rw [Bool.and_eq_true] at h
  exact h.1

end Go.Proofs.YtbbmpfkijhhemaaGreatDoor

namespace Go.Proofs.YtbbmpfkijhhemaaGreatDoor
open Go.ChangeShapes Go.WideShapes Go.ChangeAt Go.RowKit Go.Joins

theorem tcmp_ge_trans {c s q c' s' q' c2 s2 q2 : Int} (h : 0 ≤ tcmp c s q c' s' q') (h' : 0 ≤ tcmp c' s' q' c2 s2 q2) : 0 ≤ tcmp c s q c2 s2 q2 := by
  have t := tcmp_three c2 s2 q2 c' s' q' c s q
  rw [tcmp_neg c' s' q' c2 s2 q2, tcmp_neg c s q c' s' q', tcmp_neg c s q c2 s2 q2] at t
  rcases t.on (by omega) (by omega) with h1 | h1 <;> omega

theorem cmpW_neg_t {x y : Wr} (h : cmpW y x < 0) : 0 ≤ tcmp x.c x.s x.q y.c y.s y.q := by
  rw [tcmp_neg y.c y.s y.q x.c x.s x.q]
  unfold cmpW wcmp at h
  by_cases ht : tcmp y.c y.s y.q x.c x.s x.q = 0
  · omega
  · rw [if_pos ht] at h
    omega

theorem cmpW_ge_t {x y : Wr} (h : ¬ cmpW y x < 0) : 0 ≤ tcmp y.c y.s y.q x.c x.s x.q := by
  unfold cmpW wcmp at h
  by_cases ht : tcmp y.c y.s y.q x.c x.s x.q = 0
  · omega
  · rw [if_pos ht] at h
    omega

theorem has_put {ws : List Wr} (h : Rise ws) (x : Wr) (key c s q : Int) : hasB (putW ws x) key c s q = true ↔ hasB ws key c s q = true ∨ (x.k = key ∧ 0 ≤ tcmp x.c x.s x.q c s q) := by
  unfold hasB
  rw [find_putW h]
  by_cases hk : key = x.k
  · subst hk
    rw [if_pos rfl]
    cases hf : findW ws x.k with
    | none =>
      show decide (0 ≤ tcmp x.c x.s x.q c s q) = true ↔ false = true ∨ (x.k = x.k ∧ 0 ≤ tcmp x.c x.s x.q c s q)
      rw [decide_eq_true_eq]
      exact ⟨fun h => .inr ⟨rfl, h⟩, fun h => by
        rcases h with h | h
        · simp at h
        · exact h.2⟩
    | some y =>
      by_cases hc : cmpW y x < 0
      · have e : laterO (some y) x = x := by
          unfold laterO
          exact if_pos hc
        rw [e]
        show decide (0 ≤ tcmp x.c x.s x.q c s q) = true ↔ decide (0 ≤ tcmp y.c y.s y.q c s q) = true ∨ (x.k = x.k ∧ 0 ≤ tcmp x.c x.s x.q c s q)
        rw [decide_eq_true_eq, decide_eq_true_eq]
        exact ⟨fun h => .inr ⟨rfl, h⟩, fun h => by
          rcases h with h | h
          · exact tcmp_ge_trans (cmpW_neg_t hc) h
          · exact h.2⟩
      · have e : laterO (some y) x = y := by
          unfold laterO
          exact if_neg hc
        rw [e]
        show decide (0 ≤ tcmp y.c y.s y.q c s q) = true ↔ decide (0 ≤ tcmp y.c y.s y.q c s q) = true ∨ (x.k = x.k ∧ 0 ≤ tcmp x.c x.s x.q c s q)
        rw [decide_eq_true_eq]
        exact ⟨.inl, fun h => by
          rcases h with h | h
          · exact h
          · exact tcmp_ge_trans (cmpW_ge_t hc) h.2⟩
  · rw [if_neg hk]
    constructor
    · exact .inl
    · rintro (h1 | h1)
      · exact h1
      · exact absurd h1.1.symm hk

theorem rise_allTo {us : List Wr} (vs : List Wr) (st : Nat → Bool) (h : Rise us) : ∀ k, Rise (allTo us vs st k)
  | 0 => h
  | k + 1 => by
    cases hb : st k
    · rw [allTo_no hb]
      exact rise_allTo vs st h k
    · rw [allTo_yes hb]
      exact rise_putW (rise_allTo vs st h k) _

theorem has_allTo {us : List Wr} (vs : List Wr) (st : Nat → Bool) (h : Rise us) (key c s q : Int) : ∀ k, hasB (allTo us vs st k) key c s q = true ↔ hasB us key c s q = true ∨ ∃ j, j < k ∧ st j = true ∧ (vs.getD j wz).k = key ∧ 0 ≤ tcmp (vs.getD j wz).c (vs.getD j wz).s (vs.getD j wz).q c s q
  | 0 => by
    constructor
    · exact .inl
    · rintro (h1 | ⟨j, hj, _⟩)
      · exact h1
      · omega
  | k + 1 => by
    have ih := has_allTo vs st h key c s q k
    cases hb : st k
    · rw [allTo_no hb, ih]
      constructor
      · rintro (h1 | ⟨j, hj, h2⟩)
        · exact .inl h1
        · exact .inr ⟨j, by omega, h2⟩
      · rintro (h1 | ⟨j, hj, h2, h3⟩)
        · exact .inl h1
        · refine .inr ⟨j, ?_, h2, h3⟩
          have : j ≠ k := fun e => by rw [e, hb] at h2; simp at h2
          omega
    · rw [allTo_yes hb, has_put (rise_allTo vs st h k), ih]
      constructor
      · rintro ((h1 | ⟨j, hj, h2⟩) | h1)
        · exact .inl h1
        · exact .inr ⟨j, by omega, h2⟩
        · exact .inr ⟨k, by omega, hb, h1⟩
      · rintro (h1 | ⟨j, hj, h2, h3⟩)
        · exact .inl (.inl h1)
        · by_cases e : j = k
          · rw [e] at h3
            exact .inr h3
          · exact .inl (.inr ⟨j, by omega, h2, h3⟩)

theorem cov_iff (ws : List Wr) (ds : List Dp) : covB ws ds = true ↔ ∀ d ∈ ds, hasB ws d.k d.c d.s d.q = true := by
  unfold covB lacksL
  rw [beq_iff_eq, List.length_eq_zero_iff, List.filter_eq_nil_iff]
  constructor
  · intro h d hd
    have := h d hd
    unfold lacking at this
    simpa using this
  · intro h d hd
    unfold lacking
    rw [h d hd]
    simp

theorem cov_mono {us : List Wr} {vs : List Wr} {s t : Nat → Bool} (h : Rise us) (hst : ∀ j, j < vs.length → s j = true → t j = true) {ds : List Dp} (hc : covB (allOf us vs s) ds = true) : covB (allOf us vs t) ds = true := by
  rw [cov_iff] at *
  intro d hd
  have h1 := hc d hd
  unfold allOf at *
  rw [has_allTo vs _ h] at *
  rcases h1 with h1 | ⟨j, hj, h2, h3⟩
  · exact .inl h1
  · exact .inr ⟨j, hj, hst j hj h2, h3⟩

theorem allTo_congr {us vs : List Wr} {s t : Nat → Bool} : ∀ {k}, (∀ j, j < k → s j = t j) → allTo us vs s k = allTo us vs t k
  | 0, _ => rfl
  | k + 1, h => by
    have ih := allTo_congr (us := us) (vs := vs) (k := k) (fun j hj => h j (by omega))
    have hk := h k (by omega)
    cases hb : t k
    · rw [allTo_no hb, allTo_no (hk.trans hb), ih]
    · rw [allTo_yes hb, allTo_yes (hk.trans hb), ih]

theorem next_congr {us vs : List Wr} {s t : Nat → Bool} (h : ∀ j, j < vs.length → s j = t j) {j : Nat} (hj : j < vs.length) : nextS us vs s j = nextS us vs t j := by
  unfold nextS allOf
  rw [h j hj, allTo_congr h]

def fixS (us vs : List Wr) : Nat → Bool := stayAt us vs vs.length

def Fixed (us vs : List Wr) (st : Nat → Bool) : Prop := ∀ j, j < vs.length → nextS us vs st j = st j

theorem fixed_on {us vs : List Wr} {r : Nat} (h : Fixed us vs (stayAt us vs r)) : ∀ s, ∀ j, j < vs.length → stayAt us vs (r + s) j = stayAt us vs r j
  | 0, j, _ => rfl
  | s + 1, j, hj => by
    show nextS us vs (stayAt us vs (r + s)) j = _
    rw [next_congr (fixed_on h s) hj]
    exact h j hj

theorem stay_rounds (us vs : List Wr) : ∀ r, (∃ s, s ≤ r ∧ Fixed us vs (stayAt us vs s)) ∨ cnt (stayAt us vs r) vs.length + r ≤ vs.length
  | 0 => by
    right
    have h : ∀ (st : Nat → Bool) m, cnt st m ≤ m := by
      intro st m
      induction m with
      | zero => exact Nat.le_refl _
      | succ m ih =>
        unfold cnt
        cases st m <;> simp <;> omega
    have := h (stayAt us vs 0) vs.length
    omega
  | r + 1 => by
    rcases stay_rounds us vs r with ⟨s, hs, hf⟩ | h
    · exact .inl ⟨s, by omega, hf⟩
    · by_cases hf : Fixed us vs (stayAt us vs r)
      · exact .inl ⟨r, by omega, hf⟩
      · right
        unfold Fixed at hf
        simp only [Classical.not_forall] at hf
        obtain ⟨j, hj, hne⟩ := hf
        have hlt : cnt (nextS us vs (stayAt us vs r)) vs.length < cnt (stayAt us vs r) vs.length := by
          refine cnt_lt (fun j _ h => next_le h) ⟨j, hj, ?_⟩
          cases h1 : stayAt us vs r j <;> cases h2 : nextS us vs (stayAt us vs r) j
          · rw [h1, h2] at hne; exact absurd rfl hne
          · have := next_le h2; rw [h1] at this; simp at this
          · exact ⟨rfl, rfl⟩
          · rw [h1, h2] at hne; exact absurd rfl hne
        show cnt (nextS us vs (stayAt us vs r)) vs.length + (r + 1) ≤ vs.length
        omega

theorem cnt_zero {s : Nat → Bool} : ∀ {m}, cnt s m = 0 → ∀ j, j < m → s j = false
  | 0, _, j, hj => by omega
  | m + 1, h, j, hj => by
    unfold cnt at h
    by_cases e : j = m
    · rw [e]
      cases hb : s m
      · rfl
      · rw [hb] at h; simp at h
    · exact cnt_zero (m := m) (by omega) j (by omega)

theorem fix_fixed (us vs : List Wr) : Fixed us vs (fixS us vs) := by
  rcases stay_rounds us vs vs.length with ⟨s, hs, hf⟩ | h
  · have h1 := fixed_on hf (vs.length - s)
    rw [show s + (vs.length - s) = vs.length by omega] at h1
    intro j hj
    unfold fixS
    rw [next_congr h1 hj, hf j hj, h1 j hj]
  · have h0 := cnt_zero (m := vs.length) (s := stayAt us vs vs.length) (by omega)
    intro j hj
    have h1 := h0 j hj
    unfold fixS
    rw [h1]
    cases h2 : nextS us vs (stayAt us vs vs.length) j
    · rfl
    · have := next_le h2
      rw [h1] at this
      simp at this

theorem fix_great {us vs : List Wr} (h : Rise us) {T : Nat → Bool} (hT : ∀ j, j < vs.length → T j = true → covB (allOf us vs T) (vs.getD j wz).xs = true) : ∀ r, ∀ j, j < vs.length → T j = true → stayAt us vs r j = true
  | 0, j, _, _ => rfl
  | r + 1, j, hj, h1 => by
    show nextS us vs (stayAt us vs r) j = true
    unfold nextS
    rw [fix_great h hT r j hj h1, Bool.true_and]
    exact cov_mono h (fun i hi h2 => fix_great h hT r i hi h2) (hT j hj h1)

end Go.Proofs.YtbbmpfkijhhemaaGreatDoor

namespace Go.Proofs.YtbbmpfkijhhemaaGreatDoor
open Go.ChangeShapes Go.WideShapes Go.ChangeAt Go.RowKit Go.Joins

def wrd (x : Wr) : Int := x.c * 4096 + x.s * 1024 + x.q

def wrdD (d : Dp) : Int := d.c * 4096 + d.s * 1024 + d.q

def headW : List Wr → Int
  | [] => 0
  | x :: _ => wrd x

def chas (c : Nat → Int) (ds : List Dp) : Bool := ds.all fun d => decide (wrdD d ≤ c d.k.toNat)

def tops (L : Nat → List Wr) (k : Nat) : Int := headW (L k)

theorem okW_parts {x : Wr} (h : okW x = true) : (0 ≤ x.k ∧ x.k ≤ 5) ∧ tagOkB x.c x.s x.q = true ∧ depsOkB x.xs = true := by
  have hk := okW_key h
  unfold okW writeOkB at h
  simp only [Bool.and_eq_true] at h
  exact ⟨hk, h.2.1, h.2.2.2.1⟩

theorem depsOk_each {xs : List Dp} (h : depsOkB xs = true) {d : Dp} (hd : d ∈ xs) : (0 ≤ d.k ∧ d.k ≤ 5) ∧ tagOkB d.c d.s d.q = true := by
  unfold depsOkB at h
  rw [List.all_eq_true] at h
  obtain ⟨i, hi, rfl⟩ := List.mem_iff_getElem.1 hd
  have h1 := h i (List.mem_range.2 hi)
  have e : xs.getD i dz = xs[i] := by simp [List.getD, hi]
  unfold depGood at h1
  rw [e] at h1
  simp only [Bool.and_eq_true, btw, decide_eq_true_eq] at h1
  exact ⟨by omega, by simp_all⟩

theorem chas_iff (c : Nat → Int) (ds : List Dp) : chas c ds = true ↔ ∀ d ∈ ds, wrdD d ≤ c d.k.toNat := by
  unfold chas
  rw [List.all_eq_true]
  exact ⟨fun h d hd => by simpa using h d hd, fun h d hd => by simpa using h d hd⟩

theorem findW_mem_rise : ∀ {ws : List Wr}, Rise ws → ∀ {u : Wr}, u ∈ ws → findW ws u.k = some u
  | [], _, _, h => by simp at h
  | x :: r, hr, u, h => by
    rw [findW_cons]
    have hr' := List.pairwise_cons.1 hr
    rcases List.mem_cons.1 h with rfl | h
    · rw [if_pos rfl]
    · have := hr'.1 u h
      rw [if_neg (by omega)]
      exact findW_mem_rise hr'.2 h

theorem has_of_mem {us : List Wr} (hr : Rise us) {u : Wr} (hu : u ∈ us) {c s q : Int} (h : 0 ≤ tcmp u.c u.s u.q c s q) : hasB us u.k c s q = true := by
  unfold hasB
  rw [findW_mem_rise hr hu]
  simpa using h

theorem mem_of_has {us : List Wr} {key c s q : Int} (h : hasB us key c s q = true) : ∃ u ∈ us, u.k = key ∧ 0 ≤ tcmp u.c u.s u.q c s q := by
  unfold hasB at h
  cases hf : findW us key with
  | none => rw [hf] at h; cases h
  | some u =>
    rw [hf] at h
    exact ⟨u, findW_mem hf, findW_key hf, by simpa using h⟩

structure Rows6 (us vs : List Wr) (L : Nat → List Wr) : Prop where
  src : ∀ k x, x ∈ L k → x.k = (k : Int) ∧ tagOkB x.c x.s x.q = true ∧ ((x.xs = [] ∧ ∃ u ∈ us, u.k = x.k ∧ u.c = x.c ∧ u.s = x.s ∧ u.q = x.q) ∨ x ∈ vs)
  olds : ∀ u ∈ us, ∃ x ∈ L u.k.toNat, x.xs = [] ∧ x.c = u.c ∧ x.s = u.s ∧ x.q = u.q
  news : ∀ j, j < vs.length → fixS us vs j = true → vs.getD j wz ∈ L (vs.getD j wz).k.toNat
  down : ∀ k, (L k).Pairwise fun x y => wrd y ≤ wrd x

theorem getV_mem {vs : List Wr} {j : Nat} (h : j < vs.length) : vs.getD j wz ∈ vs := by
  have e : vs.getD j wz = vs[j] := by simp [List.getD, h]
  rw [e]
  exact List.getElem_mem h

theorem Rows6.top {us vs : List Wr} {L : Nat → List Wr} (h : Rows6 us vs L) {k : Nat} {x : Wr} (hx : x ∈ L k) : wrd x ≤ tops L k := by
  unfold tops
  have hd := h.down k
  cases hl : L k with
  | nil => rw [hl] at hx; simp at hx
  | cons y r =>
    rw [hl] at hx hd
    show wrd x ≤ wrd y
    rcases List.mem_cons.1 hx with rfl | hx
    · exact Int.le_refl _
    · exact (List.pairwise_cons.1 hd).1 x hx

theorem word_le {x : Wr} {d : Dp} (hx : tagOkB x.c x.s x.q = true) (hd : tagOkB d.c d.s d.q = true) : wrdD d ≤ wrd x ↔ 0 ≤ tcmp x.c x.s x.q d.c d.s d.q := word_order hx hd

theorem Rows6.up {us vs : List Wr} {L : Nat → List Wr} (hr : Rise us) (hu : ∀ x ∈ us, okW x = true) (hv : ∀ x ∈ vs, okW x = true) (h : Rows6 us vs L) {d : Dp} (hd : tagOkB d.c d.s d.q = true) (hc : hasB (allOf us vs (fixS us vs)) d.k d.c d.s d.q = true) : wrdD d ≤ tops L d.k.toNat := by
  unfold allOf at hc
  rw [has_allTo vs _ hr] at hc
  rcases hc with hc | ⟨j, hj, h1, h2, h3⟩
  · obtain ⟨u, hm, hk, ht⟩ := mem_of_has hc
    obtain ⟨x, hx, -, e1, e2, e3⟩ := h.olds u hm
    have hok := (okW_parts (hu u hm)).2.1
    rw [← hk]
    refine Int.le_trans ?_ (h.top hx)
    refine (word_le ?_ hd).2 ?_
    · rw [e1, e2, e3]; exact hok
    · rw [e1, e2, e3]; exact ht
  · have hm := h.news j hj h1
    have hok := (okW_parts (hv _ (getV_mem hj))).2.1
    rw [h2] at hm
    exact Int.le_trans ((word_le hok hd).2 h3) (h.top hm)

theorem Rows6.fits {us vs : List Wr} {L : Nat → List Wr} (hr : Rise us) (hu : ∀ x ∈ us, okW x = true) (hv : ∀ x ∈ vs, okW x = true) (h : Rows6 us vs L) {j : Nat} (hj : j < vs.length) (hf : fixS us vs j = true) : chas (tops L) (vs.getD j wz).xs = true := by
  rw [chas_iff]
  intro d hd
  have h1 := fix_fixed us vs j hj
  rw [hf] at h1
  unfold nextS at h1
  rw [Bool.and_eq_true] at h1
  exact h.up hr hu hv (depsOk_each (okW_parts (hv _ (getV_mem hj))).2.2 hd).2 ((cov_iff _ _).1 h1.2 d hd)

theorem Rows6.step {us vs : List Wr} {L : Nat → List Wr} (hr : Rise us) (hu : ∀ x ∈ us, okW x = true) (hv : ∀ x ∈ vs, okW x = true) (h : Rows6 us vs L) {k : Nat} {x : Wr} {t : List Wr} (hk : L k = x :: t) (hc : chas (tops L) x.xs = false) : Rows6 us vs (fun i => if i = k then t else L i) where
  src i y hy := by
    by_cases e : i = k
    · subst e
      simp only [if_true] at hy
      exact h.src i y (by rw [hk]; exact List.mem_cons_of_mem _ hy)
    · simp only [if_neg e] at hy
      exact h.src i y hy
  olds u hm := by
    obtain ⟨y, hy, e0, e1⟩ := h.olds u hm
    refine ⟨y, ?_, e0, e1⟩
    by_cases e : u.k.toNat = k
    · simp only [if_pos e]
      rw [e, hk] at hy
      rcases List.mem_cons.1 hy with rfl | hy
      · rw [e0] at hc
        simp [chas] at hc
      · exact hy
    · simp only [if_neg e]
      exact hy
  news j hj hf := by
    have hm := h.news j hj hf
    have hh := h.fits hr hu hv hj hf
    by_cases e : (vs.getD j wz).k.toNat = k
    · simp only [if_pos e]
      rw [e, hk] at hm
      rcases List.mem_cons.1 hm with hm | hm
      · rw [hm, hc] at hh
        cases hh
      · exact hm
    · simp only [if_neg e]
      exact hm
  down i := by
    by_cases e : i = k
    · subst e
      simp only [if_true]
      have := h.down i
      rw [hk] at this
      exact (List.pairwise_cons.1 this).2
    · simp only [if_neg e]
      exact h.down i

theorem Rows6.done {us vs : List Wr} {L : Nat → List Wr} (hr : Rise us) (hu : ∀ x ∈ us, okW x = true) (hv : ∀ x ∈ vs, okW x = true) (h : Rows6 us vs L) (hE : ∀ k x t, k < 6 → L k = x :: t → chas (tops L) x.xs = true) : ∀ j, j < vs.length → chas (tops L) (vs.getD j wz).xs = fixS us vs j := by
  intro j hj
  cases hf : fixS us vs j
  · cases hc : chas (tops L) (vs.getD j wz).xs
    · rfl
    · have hT := fix_great (us := us) (vs := vs) hr (T := fun i => chas (tops L) (vs.getD i wz).xs) (fun i hi hci => by
        rw [cov_iff]
        intro d hd
        have hdk := depsOk_each (okW_parts (hv _ (getV_mem hi))).2.2 hd
        have hle := (chas_iff _ _).1 hci d hd
        have hb := tagOk_bounds hdk.2
        have hkk : ((d.k.toNat : Nat) : Int) = d.k := by omega
        unfold allOf
        rw [has_allTo vs _ hr]
        cases hl : L d.k.toNat with
        | nil =>
          unfold tops at hle
          rw [hl] at hle
          have h0 : wrdD d ≤ 0 := hle
          unfold wrdD at h0
          omega
        | cons y r =>
          have hy : y ∈ L d.k.toNat := by rw [hl]; exact List.mem_cons_self
          obtain ⟨e1, e2, e3⟩ := h.src _ y hy
          have hle2 : wrdD d ≤ wrd y := by
            unfold tops at hle
            rw [hl] at hle
            exact hle
          have ht := (word_le e2 hdk.2).1 hle2
          rcases e3 with ⟨-, u, hm, k1, k2, k3, k4⟩ | hm
          · refine .inl ?_
            have := has_of_mem hr hm (c := d.c) (s := d.s) (q := d.q) (by rw [k2, k3, k4]; exact ht)
            rw [k1, e1, hkk] at this
            exact this
          · obtain ⟨p, hp, rfl⟩ := List.mem_iff_getElem.1 hm
            have eg : vs.getD p wz = vs[p] := by simp [List.getD, hp]
            refine .inr ⟨p, hp, ?_, ?_, ?_⟩
            · simp only [eg]
              exact hE _ _ _ (by omega) hl
            · rw [eg, e1, hkk]
            · rw [eg]; exact ht) vs.length j hj hc
      unfold fixS at hf
      rw [hT] at hf
      cases hf
  · exact h.fits hr hu hv hj hf

end Go.Proofs.YtbbmpfkijhhemaaGreatDoor

namespace Go.Proofs.YtbbmpfkijhhemaaGreatDoor
open Go.ChangeShapes Go.WideShapes Go.ChangeAt Go.RowKit Go.Joins
set_option maxRecDepth 100000

theorem SBox.set0 {w : World} {b : Nat} {si cl sq la : Int} {a : Option Addr} {n cap : Nat} {t : ByteArray} (h : SBox w b si cl sq la a n cap t) (x : Int) : SBox (w.setCell ⟨b, 0, none⟩ (.int .i64 x)) b x cl sq la a n cap t := ⟨by simpa [World.setCell] using h.lt, cell_set_same h.c0, cell_set_off h.c1 (by omega), cell_set_off h.c2 (by omega), cell_set_off h.c3 (by omega), cell_set_off h.c4 (by omega), cell_set_off h.c5 (by omega), fun o => by rw [World.frozen?_setCell]; exact h.fz o⟩

theorem SBox.set1 {w : World} {b : Nat} {si cl sq la : Int} {a : Option Addr} {n cap : Nat} {t : ByteArray} (h : SBox w b si cl sq la a n cap t) (x : Int) : SBox (w.setCell ⟨b, 1, none⟩ (.int .i64 x)) b si x sq la a n cap t := ⟨by simpa [World.setCell] using h.lt, cell_set_off h.c0 (by omega), cell_set_same h.c1, cell_set_off h.c2 (by omega), cell_set_off h.c3 (by omega), cell_set_off h.c4 (by omega), cell_set_off h.c5 (by omega), fun o => by rw [World.frozen?_setCell]; exact h.fz o⟩

theorem SBox.set2 {w : World} {b : Nat} {si cl sq la : Int} {a : Option Addr} {n cap : Nat} {t : ByteArray} (h : SBox w b si cl sq la a n cap t) (x : Int) : SBox (w.setCell ⟨b, 2, none⟩ (.int .i64 x)) b si cl x la a n cap t := ⟨by simpa [World.setCell] using h.lt, cell_set_off h.c0 (by omega), cell_set_off h.c1 (by omega), cell_set_same h.c2, cell_set_off h.c3 (by omega), cell_set_off h.c4 (by omega), cell_set_off h.c5 (by omega), fun o => by rw [World.frozen?_setCell]; exact h.fz o⟩

theorem SBox.set3 {w : World} {b : Nat} {si cl sq la : Int} {a : Option Addr} {n cap : Nat} {t : ByteArray} (h : SBox w b si cl sq la a n cap t) (x : Int) : SBox (w.setCell ⟨b, 3, none⟩ (.int .i64 x)) b si cl sq x a n cap t := ⟨by simpa [World.setCell] using h.lt, cell_set_off h.c0 (by omega), cell_set_off h.c1 (by omega), cell_set_off h.c2 (by omega), cell_set_same h.c3, cell_set_off h.c4 (by omega), cell_set_off h.c5 (by omega), fun o => by rw [World.frozen?_setCell]; exact h.fz o⟩

theorem SBox.set4 {w : World} {b : Nat} {si cl sq la : Int} {a : Option Addr} {n cap : Nat} {t : ByteArray} (h : SBox w b si cl sq la a n cap t) (a' : Option Addr) (n' cap' : Nat) : SBox (w.setCell ⟨b, 4, none⟩ (.slice a' n' cap')) b si cl sq la a' n' cap' t := ⟨by simpa [World.setCell] using h.lt, cell_set_off h.c0 (by omega), cell_set_off h.c1 (by omega), cell_set_off h.c2 (by omega), cell_set_off h.c3 (by omega), cell_set_same h.c4, cell_set_off h.c5 (by omega), fun o => by rw [World.frozen?_setCell]; exact h.fz o⟩

theorem SBox.set5 {w : World} {b : Nat} {si cl sq la : Int} {a : Option Addr} {n cap : Nat} {t : ByteArray} (h : SBox w b si cl sq la a n cap t) (t' : ByteArray) : SBox (w.setCell ⟨b, 5, none⟩ (.string t')) b si cl sq la a n cap t' := ⟨by simpa [World.setCell] using h.lt, cell_set_off h.c0 (by omega), cell_set_off h.c1 (by omega), cell_set_off h.c2 (by omega), cell_set_off h.c3 (by omega), cell_set_off h.c4 (by omega), cell_set_same h.c5, fun o => by rw [World.frozen?_setCell]; exact h.fz o⟩

def putS (w : World) (b : Nat) (si cl sq la : Int) (a : Option Addr) (n cap : Nat) (t : ByteArray) : World := (((((w.setCell ⟨b, 0, none⟩ (.int .i64 si)).setCell ⟨b, 1, none⟩ (.int .i64 cl)).setCell ⟨b, 2, none⟩ (.int .i64 sq)).setCell ⟨b, 3, none⟩ (.int .i64 la)).setCell ⟨b, 4, none⟩ (.slice a n cap)).setCell ⟨b, 5, none⟩ (.string t)

theorem hole_putS {B : Nat} {w w' : World} (h : Hole B w w') (si cl sq la : Int) (a : Option Addr) (n cap : Nat) (t : ByteArray) : Hole B w (putS w' B si cl sq la a n cap t) := (((((h.set 0 _).set 1 _).set 2 _).set 3 _).set 4 _).set 5 _

theorem sbox_putS {w : World} {b : Nat} {si cl sq la : Int} {a : Option Addr} {n cap : Nat} {t : ByteArray} (h : SBox w b si cl sq la a n cap t) (si' cl' sq' la' : Int) (a' : Option Addr) (n' cap' : Nat) (t' : ByteArray) : SBox (putS w b si' cl' sq' la' a' n' cap' t') b si' cl' sq' la' a' n' cap' t' := (((((h.set0 si').set1 cl').set2 sq').set3 la').set4 a' n' cap').set5 t'

def zeroSh : Array Value := #[.int .i64 0, .int .i64 0, .int .i64 0, .int .i64 0, .slice none 0 0, .string ⟨#[]⟩]

theorem sbox_zero {w : World} {b ty : Nat} (h : w.heap[b]? = some (.cells zeroSh ty (0, 0))) : SBox w b 0 0 0 0 none 0 0 ⟨#[]⟩ := by
  have hlt : b < w.heap.size := (Array.getElem?_eq_some_iff.1 h).1
  refine ⟨hlt, ?_, ?_, ?_, ?_, ?_, ?_, fun o => by simp [World.frozen?, h]⟩ <;> (rw [cell_of_row _ _ _ _ ty (0, 0) h]; rfl)

def ShimF (lo : Nat) : Fact := fun v w => ∃ b, v = .pointer (some ⟨b, 0, none⟩) ∧ lo ≤ b ∧ w.heap[b]? = some (.cells zeroSh 26 (0, 0))

theorem lasts_shim (lo : Nat) : lasts (fun w w' => Below w.heap.size w w') (ShimF lo) := by
  rintro v w w' ⟨b, h1, h2, h3⟩ hr
  exact ⟨b, h1, h2, (hr.block b (Array.getElem?_eq_some_iff.1 h3).1).trans h3⟩

theorem shim_mk (w : World) (lo : Nat) (h : lo ≤ w.heap.size) : ShimF lo (.pointer (some ⟨w.heap.size, 0, none⟩)) (w.alloc (.cells #[.int .i64 0, .int .i64 0, .int .i64 0, .int .i64 0, .slice none 0 0, .string ⟨#[]⟩] 26)) := ⟨_, rfl, h, heap_alloc_new w _⟩

theorem dep_c {x : Wr} (h : okW x = true) {i : Nat} (hi : i < x.xs.length) : 1 ≤ (x.xs.getD i dz).c := by
  have h1 := depsOk_each (okW_parts h).2.2 (d := x.xs.getD i dz) (by simp [List.getD, hi])
  have h2 := h1.2
  generalize x.xs.getD i dz = d at *
  simp [tagOkB, btw] at h2
  omega

theorem deps_apart {w : World} {b g : Nat} {x : Wr} (hb : w.heap[b]? = some (.cells zeroSh 26 (0, 0))) (hok : okW x = true) (hp : 0 < x.xs.length) (hd : HoldsDeps w g 0 x.xs) : g ≠ b := by
  rintro rfl
  obtain ⟨-, h1, -, -⟩ := hd 0 hp
  have h2 := dep_c hok hp
  rw [cell_of_row _ _ _ _ _ (0, 0) hb] at h1
  have h3 : (some (Value.int .i64 0) : Option Value) = some (.int .i64 (x.xs.getD 0 dz).c) := h1
  injection h3 with h3
  injection h3 with _ h3
  omega

theorem row_apart {w : World} {b base n : Nat} {v : Value} {xs : List Value} (hb : w.heap[b]? = some (.cells zeroSh 26 (0, 0))) (h : w.ownsRow base 33 7 v n xs) : v.ownBlock ≠ some b := by
  intro e
  rcases h.2 with ⟨h1, -⟩ | ⟨g, cap, cur, h1, -, h3, -⟩
  · rw [h1] at e
    simp [Value.ownBlock] at e
  · rw [h1] at e
    have e2 : g = b := by simpa [Value.ownBlock] using e
    subst e2
    rw [hb] at h3
    injection h3 with h3
    injection h3 with _ h4 _
    exact absurd h4 (by decide)

theorem RowG.apartS {w : World} {b base : Nat} {v : Value} {es : List EnG} (h : RowG w base v es) (hb : w.heap[b]? = some (.cells zeroSh 26 (0, 0))) (hok : ∀ e ∈ es, okW e.x = true) : v.ownBlock ≠ some b ∧ ∀ e ∈ es, 0 < e.x.xs.length → e.g ≠ b :=
  ⟨row_apart hb h.own, fun e he hp => deps_apart hb (hok e he) hp ((h.deps e he).1 hp).2.2.2.1⟩

theorem RowG.aside {w w' : World} {B base : Nat} {v : Value} {es : List EnG} (h : RowG w base v es) (hh : Hole B w w') (ha : v.ownBlock ≠ some B ∧ ∀ e ∈ es, 0 < e.x.xs.length → e.g ≠ B) : RowG w' base v es where
  own := World.ownsRow.kept (row := some B) h.own ⟨hh.os, hh.tape, hh.output, hh.size, fun k hk hn => hh.block k hk (fun e => hn (by rw [e]))⟩ (.inr ha.1)
  deps := fun e he => ⟨(h.deps e he).1.of_block hh.size fun hp => hh.block e.g ((h.deps e he).1 hp).2.2.1 (ha.2 e he hp), (h.deps e he).2⟩
  apart := h.apart

theorem RowEs.apartS {w : World} {b base g cap : Nat} {es : List En} (h : RowEs w base g cap es) (hb : w.heap[b]? = some (.cells zeroSh 26 (0, 0))) (hok : ∀ e ∈ es, okW e.x = true) : g ≠ b ∧ ∀ e ∈ es, 0 < e.x.xs.length → e.g ≠ b :=
  ⟨fun e => row_apart hb h.own (by rw [e]; rfl), fun e he hp => deps_apart hb (hok e he) hp (h.deps e he).2.2.2⟩

theorem RowEs.aside {w w' : World} {B base g cap : Nat} {es : List En} (h : RowEs w base g cap es) (hh : Hole B w w') (ha : g ≠ B ∧ ∀ e ∈ es, 0 < e.x.xs.length → e.g ≠ B) : RowEs w' base g cap es where
  le := h.le
  lt := Nat.lt_of_lt_of_le h.lt hh.size
  own := h.own.kept (row := some B) ⟨hh.os, hh.tape, hh.output, hh.size, fun k hk hn => hh.block k hk (fun e => hn (by rw [e]))⟩ (.inr (by simpa [Value.ownBlock] using ha.1))
  deps := fun e he => by
    obtain ⟨h1, h2, h3, h4⟩ := h.deps e he
    refine ⟨h1, Nat.lt_of_lt_of_le h2 hh.size, h3, fun i hi => ?_⟩
    have hp : 0 < e.x.xs.length := by omega
    have e' : ∀ o, w'.cell? ⟨e.g, o, none⟩ = w.cell? ⟨e.g, o, none⟩ := fun o => World.cell?_of_block (a := ⟨e.g, o, none⟩) (hh.block e.g h2 (ha.2 e he hp))
    obtain ⟨a0, a1, a2, a3⟩ := h4 i hi
    exact ⟨(e' _).trans a0, (e' _).trans a1, (e' _).trans a2, (e' _).trans a3⟩

def backStep (si : Int) (st : Int × Int) (x : Wr) : Int × Int := if x.s = si ∧ st.1 < x.q then (x.q, x.k) else st

def backRun (si : Int) (st : Int × Int) (ws : List Wr) : Int × Int := ws.foldl (backStep si) st

def backF (si : Int) (bs : List (List Wr)) : Int × Int := bs.foldl (backRun si) (0, -1)

theorem backRun_take (si : Int) (ws : List Wr) (st : Int × Int) (k : Nat) (h : k < ws.length) : backRun si st (ws.take (k + 1)) = backStep si (backRun si st (ws.take k)) (ws.getD k wz) := by
  unfold backRun
  have e : ws.take (k + 1) = ws.take k ++ [ws.getD k wz] := by
    rw [List.take_add_one, List.getElem?_eq_getElem h]
    simp [List.getD, h]
  rw [e, List.foldl_append]
  rfl

theorem backF_take (si : Int) (bs : List (List Wr)) (k : Nat) (h : k < bs.length) : backF si (bs.take (k + 1)) = backRun si (backF si (bs.take k)) (bs.getD k []) := by
  unfold backF
  have e : bs.take (k + 1) = bs.take k ++ [bs.getD k []] := by
    rw [List.take_add_one, List.getElem?_eq_getElem h]
    simp [List.getD, h]
  rw [e, List.foldl_append]
  rfl

theorem extract_pre {s : ByteArray} {l : List UInt8} (h : l <+: s.data.toList) : s.extract 0 l.length = str l := by
  have e := extract_take s 0 l.length
  rw [List.drop_zero, ← List.prefix_iff_eq_take.1 h, Nat.zero_add] at e
  have e2 : (s.extract 0 l.length).data.toList = (str l).data.toList := e
  cases hA : s.extract 0 l.length with
  | mk d =>
    rw [hA] at e2
    have e3 : d = (str l).data := Array.toList_inj.1 e2
    rw [e3]

theorem fewB_log {bs : List (List Wr)} (h : ∀ b ∈ bs, okWs b = true) : FewB bs := fun i hi => by
  have hm : bs.getD i [] ∈ bs := by simp [List.getD, hi]
  have h1 := okWs_len (h _ hm)
  have hk := okWs_all (h _ hm)
  generalize bs.getD i [] = ws at *
  refine ⟨by omega, fun j hj => ?_⟩
  have h2 := hk (ws.getD j wz) (by simp [List.getD, hj])
  have h3 := depR_len (ok_parts h2).2.2.2.1
  omega

end Go.Proofs.YtbbmpfkijhhemaaGreatDoor
