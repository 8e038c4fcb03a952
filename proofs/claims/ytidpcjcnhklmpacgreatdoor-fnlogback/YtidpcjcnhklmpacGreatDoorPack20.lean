import Derived.Test.YtidpcjcnhklmpacGreatDoorPack5
import Derived.Test.YtidpcjcnhklmpacGreatDoorPack19
import Derived.Test.YtidpcjcnhklmpacGreatDoorPack10
import Derived.Test.YtidpcjcnhklmpacGreatDoorPack15
import Derived.Test.YtidpcjcnhklmpacGreatDoorPack11
import Derived.Test.YtidpcjcnhklmpacGreatDoorPack16
import Derived.Lib.Hide
/- The contract of impl.BatchText. -/
namespace Go.Proofs.YtidpcjcnhklmpacGreatDoor
open Go.ChangeShapes Go.WideShapes Go.ChangeAt Go.RowKit Go.Joins
attribute [local go_sem ↓] Go.wp_at_zero Go.wp_at_succ

set_option maxRecDepth 100000 in
theorem IsWs0.isWs {w : World} {a : Option Addr} {ws : List Wr} (h : IsWs0 w a ws) (hx : Few ws) : IsWs w a ws := by
  rcases h with h | ⟨b, o, ha, hlt, hh⟩
  · exact .inl h
  · refine .inr ⟨b, o, ha, hlt, fun i hi => ?_⟩
    obtain ⟨a', cap, h1, h2⟩ := hh i hi
    have h3 := hx i hi
    exact ⟨a', cap, h1, by unfold maxLen; omega, h2.isDeps⟩

set_option maxRecDepth 100000 in
set_option maxHeartbeats 4000000 in
theorem implBatch_any (a : Option Addr) (n cap : Nat) (ws : List Wr) (w : World) (hn : ws.length = n) (hm : n ≤ 1048576) (hx : Few ws) (hh : IsWs0 w a ws) (ht : Tab w) :
    Calls Tryz.prog 9 #[.slice a n cap] w fun e w' => e = .returned (.string (str (batchT ws))) ∧ Below w.heap.size w w' := by
  have hlt : 6 < w.heap.size := ht.lt
  have HT := Lib.hid ht
  have HN := Lib.hid hn
  have HX := Lib.hid hx
  have HH := Lib.hid hh
  clear ht hn hx hh
  by_cases hr : 1 ≤ n ∧ n ≤ 6
  rotate_left
  · have HE : Hid (batchT ws = []) := by
      show _ = _
      unfold batchT
      rw [if_neg fun h => hr (by rw [← HN.out]; exact okWs_len h)]
    have hb : btw (n : Int) 1 6 = false := by
      cases h : btw (n : Int) 1 6
      · rfl
      · exact absurd (by have := btw_bounds h; omega) hr
    go_enter Tryz.func9, Tryz.ntmps9
    go_wp2_with fail
    refine (inRange_any _ _ _ _).mono ?_
    rintro e w1 ⟨rfl, hw⟩
    subst w1
    rw [hb]
    go_wp2
    go_ret
    exact ⟨by rw [HE.out]; rfl, Below.refl _ _⟩
  have hb : btw (n : Int) 1 6 = true := by unfold btw; simp; omega
  cases hall : ws.all okW
  · have HE : Hid (batchT ws = []) := by
      show _ = _
      unfold batchT
      rw [if_neg fun h => by
        have h2 : ws.all okW = true := List.all_eq_true.2 (okWs_all h)
        rw [hall] at h2
        cases h2]
    go_enter Tryz.func9, Tryz.ntmps9
    go_wp2_with fail
    refine (inRange_any _ _ _ _).mono ?_
    rintro e w1 ⟨rfl, hw⟩
    subst w1
    rw [hb]
    go_wp2_with fail
    refine (allOk_any a n cap ws _ HN.out hm HX.out (HH.out.isWs HX.out)).mono ?_
    rintro e w1 ⟨rfl, hbl⟩
    have HB1 := Lib.hid hbl
    clear hbl
    rw [hall]
    go_wp2
    go_ret
    exact ⟨by rw [HE.out]; rfl, HB1.out⟩
  have HOK : Hid (okWs ws = true) := by
    show _ = _
    unfold okWs
    simp only [Bool.and_eq_true, decide_eq_true_eq]
    exact ⟨by rw [HN.out]; exact hr, hall⟩
  have HA0 : Hid (str (headB n ++ [10]) = str (accB ws 0)) := by
    show _ = _
    unfold accB
    rw [HN.out]
    simp
  have z0 : (str (headB n ++ [10])).size ≤ 28 := by
    have := Lib.itoa_length_le (n : Int) (by omega) (by omega)
    rw [str_size]
    unfold headB
    simp
    omega
  go_enter Tryz.func9, Tryz.ntmps9
  go_wp2_with fail
  refine (inRange_any _ _ _ _).mono ?_
  rintro e w1 ⟨rfl, hw⟩
  subst w1
  rw [hb]
  go_wp2_with fail
  refine (allOk_any a n cap ws _ HN.out hm HX.out (HH.out.isWs HX.out)).mono ?_
  rintro e w1 ⟨rfl, hbl⟩
  have HB1 := Lib.hid hbl
  clear hbl
  rw [hall]
  clear hall hb
  go_wp2_with fail
  refine (headLine_any n _ hr.2 (HT.out.below HB1.out hlt)).mono ?_
  rintro e w2 ⟨rfl, hbl⟩
  have HB2 := Lib.hid (below_step HB1.out HB1.out.size hbl)
  clear hbl HB1
  generalize str (headB n ++ [10]) = t0 at *
  go_wp2
  go_loopw [3, 20] (fun t i wr => ∃ (j : Nat) (acc : ByteArray), j ≤ n ∧ i = .int .i64 j ∧ t = .string acc ∧ acc.size ≤ 28 + 401 * j ∧ Hid (acc = str (accB ws j)) ∧ Hid (Below w.heap.size w wr)) (fun _ i _ => n - (intOf i).toNat)
  case atStart => exact ⟨0, _, Nat.zero_le _, rfl, rfl, by omega, HA0, HB2⟩
  case round =>
    clear HA0 HB2 z0
    obtain ⟨j, acc, hj, rfl, rfl, hsz, HA, HB⟩ := hrel
    by_cases hj' : j < n
    · have hjj : j < ws.length := by rw [HN.out]; exact hj'
      have i1 : (0 : Int) ≤ (j : Int) := by omega
      have i2 : (j : Int) < (n : Int) := by omega
      obtain ⟨b, o, rfl, hz, hall⟩ : ∃ b o, a = some ⟨b, o, none⟩ ∧ b < wr.heap.size ∧ ∀ i, i < ws.length → ∃ a' cap, WrAt wr b (o + i * 7) (ws.getD i wz) a' cap ∧ Deps0 wr a' (ws.getD i wz).xs := by
        rcases HH.out.below HB.out with h | h
        · rw [h] at hjj
          simp at hjj
        · exact h
      obtain ⟨ad, cp, ⟨e0, e1, e2, e3, e4, e5, e6⟩, hd⟩ := hall j hjj
      have hxl := HX.out j hjj
      have HD := Lib.hid hd
      have HNX := Lib.hid (accB_next ws hjj)
      have HT4 := Lib.hid (text_400 (x := ws.getD j wz))
      clear hall hd
      generalize ws.getD j wz = x at *
      obtain ⟨xk, xc, xs', xq, xv, xd, xx⟩ := x
      simp only at e0 e1 e2 e3 e4 e5 e6 hxl HD
      have HAB : Hid (Below wr.heap.size wr (wr.alloc (.cells #[.int .i64 xk, .int .i64 xc, .int .i64 xs', .int .i64 xq, .int .i64 xv, .bool xd, .slice ad xx.length cp] 56))) := (Below.refl _ _).alloc (Nat.le_refl _) _
      have HBA := Lib.hid (below_step HB.out HB.out.size HAB.out)
      have HDA := Lib.hid (deps0_stay HD.out HAB.out)
      go_wp2_with fail
      refine (implText_gen xk xc xs' xq xv xd ad xx _ cp _ rfl hxl HDA.out (HT.out.below HBA.out hlt)).mono ?_
      rintro e w2 ⟨rfl, hbl⟩
      have HB2 := Lib.hid (below_step HBA.out HBA.out.size hbl)
      clear hbl HB HD HDA HBA HAB e0 e1 e2 e3 e4 e5 e6
      have HTX : Hid (textR ⟨xk, xc, xs', xq, xv, xd, xx⟩ = writeText xk xc xs' xq xv xd xx) := rfl
      have h4 := HT4.out
      rw [HTX.out] at h4 HNX
      have hs : (str (writeText xk xc xs' xq xv xd xx)).size ≤ 400 := by rw [str_size]; exact h4
      have HSA : Hid (acc ++ (str (writeText xk xc xs' xq xv xd xx) ++ ⟨#[10]⟩) = str (accB ws (j + 1))) := by
        have e3 : (⟨#[10]⟩ : ByteArray) = str [10] := rfl
        show _ = _
        rw [HA.out, e3, str_add, str_add, HNX.out]
      clear h4 HNX HT4 HTX
      generalize str (writeText xk xc xs' xq xv xd xx) = tx at *
      have y1 : (tx ++ ⟨#[10]⟩).size ≤ 401 := by
        rw [ByteArray.size_append]
        have : (⟨#[10]⟩ : ByteArray).size = 1 := rfl
        omega
      have y2 : (acc ++ (tx ++ ⟨#[10]⟩)).size ≤ 28 + 401 * (j + 1) := by
        rw [ByteArray.size_append]
        omega
      go_wp2
      exact ⟨⟨j + 1, _, by omega, by go_num, rfl, y2, HSA, HB2⟩, by simp [intOf]; omega⟩
    · have hjn : j = n := by omega
      subst hjn
      have hacc : acc.size ≤ 3000 := by omega
      have HBD : Hid (accB ws j = bodyB ws) := by
        show _ = _
        unfold accB bodyB
        rw [List.take_of_length_le (by rw [HN.out]; exact Nat.le_refl _)]
      have HAL : Hid (acc.data.toList = bodyB ws) := by
        show _ = _
        rw [HA.out, HBD.out]
        simp [str]
      have HFE : Hid (acc ++ str (sumL (bodyB ws) ++ [10]) = str (batchT ws)) := by
        show _ = _
        unfold batchT
        rw [if_pos HOK.out, HA.out, HBD.out, str_add]
        rfl
      have z4 : (str (sumL (bodyB ws) ++ [10])).size ≤ 26 := by
        have := sumL_size (bodyB ws)
        rw [str_size]
        simp
        omega
      go_wp2_with fail
      refine (sumLine_any acc _ (by omega) (HT.out.below HB.out hlt)).mono ?_
      rintro e w2 ⟨rfl, hbl⟩
      have HB2 := Lib.hid (below_step HB.out HB.out.size hbl)
      clear hbl
      rw [HAL.out]
      generalize str (sumL (bodyB ws) ++ [10]) = tc at *
      have z5 : (acc ++ tc).size ≤ 3100 := by rw [ByteArray.size_append]; omega
      go_wp2
      go_ret
      exact ⟨by rw [← HFE.out]; rfl, HB2.out⟩

end Go.Proofs.YtidpcjcnhklmpacGreatDoor

/- What comes of replaying batches: plain facts; the contract of spec.Replay. -/
namespace Go.Proofs.YtidpcjcnhklmpacGreatDoor
open Go.ChangeShapes Go.WideShapes Go.ChangeAt Go.RowKit Go.Joins
attribute [local go_sem ↓] Go.wp_at_zero Go.wp_at_succ

/-- A write is put if it is WriteOk. -/
def repPut (m : List Wr) (x : Wr) : List Wr := if okW x = true then putW m x else m

def repRun (m : List Wr) (ws : List Wr) : List Wr := ws.foldl repPut m

def replayW (bs : List (List Wr)) : List Wr := bs.foldl repRun []

set_option maxRecDepth 100000 in
theorem one_ok {x : Wr} (h : okW x = true) : mapOkB [x] = true := (mapOk_iff _).2 ⟨fun y hy => by
  have : y = x := by simpa using hy
  rw [this]
  exact h, by simp [Rise]⟩

set_option maxRecDepth 100000 in
theorem repPut_ok {m : List Wr} (h : mapOkB m = true) (x : Wr) : mapOkB (repPut m x) = true := by
  unfold repPut
  split
  · rename_i hx
    have e : joinB m [x] = putW m x := by
      unfold joinB
      rw [if_pos ⟨h, one_ok hx⟩]
      rfl
    rw [← e]
    exact joinB_mapOk _ _
  · exact h

set_option maxRecDepth 100000 in
theorem repRun_ok : ∀ (ws m : List Wr), mapOkB m = true → mapOkB (repRun m ws) = true
  | [], _, h => h
  | x :: r, m, h => repRun_ok r (repPut m x) (repPut_ok h x)

set_option maxRecDepth 100000 in
theorem replay_fold : ∀ (bs : List (List Wr)) (m : List Wr), mapOkB m = true → mapOkB (bs.foldl repRun m) = true
  | [], _, h => h
  | b :: r, m, h => replay_fold r (repRun m b) (repRun_ok b m h)

set_option maxRecDepth 100000 in
theorem replay_ok (bs : List (List Wr)) : mapOkB (replayW bs) = true := replay_fold bs [] rfl

set_option maxRecDepth 100000 in
theorem repRun_take (ws m : List Wr) (k : Nat) (h : k < ws.length) : repRun m (ws.take (k + 1)) = repPut (repRun m (ws.take k)) (ws.getD k wz) := foldl_take repPut ws m k h

set_option maxRecDepth 100000 in
theorem replay_take (bs : List (List Wr)) (k : Nat) (h : k < bs.length) : replayW (bs.take (k + 1)) = repRun (replayW (bs.take k)) (bs.getD k []) := by
  unfold replayW
  have e : bs.take (k + 1) = bs.take k ++ [bs.getD k []] := by
    rw [List.take_add_one, List.getElem?_eq_getElem h]
    simp [List.getD, h]
  rw [e, List.foldl_append]
  rfl

set_option maxRecDepth 100000 in
theorem ok_few {m : List Wr} (h : mapOkB m = true) : Few m := few_of_bulk (by have := mapOk_bulk h; omega)

end Go.Proofs.YtidpcjcnhklmpacGreatDoor

/- The contract of impl.Replay. -/
namespace Go.Proofs.YtidpcjcnhklmpacGreatDoor
open Go.ChangeShapes Go.WideShapes Go.ChangeAt Go.RowKit Go.Joins
attribute [local go_sem ↓] Go.wp_at_zero Go.wp_at_succ

/-- A write is put to the registers if it is WriteOk. -/
def regRep (M : Int → Option Wr) (x : Wr) : Int → Option Wr := if okW x = true then regPut M x else M

def regRun (M : Int → Option Wr) (ws : List Wr) : Int → Option Wr := ws.foldl regRep M

def regAll (bs : List (List Wr)) : Int → Option Wr := bs.foldl regRun (fun _ => none)

set_option maxRecDepth 100000 in
theorem ok_rise {m : List Wr} (h : mapOkB m = true) : Rise m := ((mapOk_iff m).1 h).2

set_option maxRecDepth 100000 in
theorem regRep_find {m : List Wr} (h : mapOkB m = true) (x : Wr) : regRep (findW m) x = findW (repPut m x) := by
  unfold regRep repPut
  split
  · funext key
    rw [find_putW (ok_rise h)]
    unfold regPut
    rfl
  · rfl

set_option maxRecDepth 100000 in
theorem regRun_find : ∀ (ws m : List Wr), mapOkB m = true → regRun (findW m) ws = findW (repRun m ws)
  | [], _, _ => rfl
  | x :: r, m, h => by
    show regRun (regRep (findW m) x) r = findW (repRun (repPut m x) r)
    rw [regRep_find h]
    exact regRun_find r _ (repPut_ok h x)

set_option maxRecDepth 100000 in
theorem regAll_fold : ∀ (bs : List (List Wr)) (m : List Wr), mapOkB m = true → bs.foldl regRun (findW m) = findW (bs.foldl repRun m)
  | [], _, _ => rfl
  | b :: r, m, h => by
    show r.foldl regRun (regRun (findW m) b) = findW (r.foldl repRun (repRun m b))
    rw [regRun_find b m h]
    exact regAll_fold r _ (repRun_ok b m h)

set_option maxRecDepth 100000 in
theorem regAll_find (bs : List (List Wr)) : regAll bs = findW (replayW bs) := regAll_fold bs [] rfl

set_option maxRecDepth 100000 in
/-- What the registers tell in the end is the map that comes of it. -/
theorem told_replay (bs : List (List Wr)) : toldM (regAll bs) = replayW bs := by
  rw [regAll_find]
  exact told_find (ok_rise (replay_ok bs)) (mapOk_keys (replay_ok bs))

set_option maxRecDepth 100000 in
theorem regRun_take (ws : List Wr) (M : Int → Option Wr) (k : Nat) (h : k < ws.length) : regRun M (ws.take (k + 1)) = regRep (regRun M (ws.take k)) (ws.getD k wz) := foldl_take regRep ws M k h

set_option maxRecDepth 100000 in
theorem regAll_take (bs : List (List Wr)) (k : Nat) (h : k < bs.length) : regAll (bs.take (k + 1)) = regRun (regAll (bs.take k)) (bs.getD k []) := by
  unfold regAll
  have e : bs.take (k + 1) = bs.take k ++ [bs.getD k []] := by
    rw [List.take_add_one, List.getElem?_eq_getElem h]
    simp [List.getD, h]
  rw [e, List.foldl_append]
  rfl

set_option maxRecDepth 100000 in
theorem IsBs.base {w w' : World} {a : Option Addr} {bs : List (List Wr)} (h : IsBs w a bs) (hb : Below w.heap.size w w') {k : Nat} (hk : k < bs.length) : ∃ b o a' cap, a = some ⟨b, o, none⟩ ∧ b < w'.heap.size ∧ w'.cell? ⟨b, o + k, none⟩ = some (.slice a' (bs.getD k []).length cap) ∧ IsWs w a' (bs.getD k []) := by
  rcases h with h | ⟨b, o, ha, hlt, hh⟩
  · subst h
    simp at hk
  · obtain ⟨a', cap, hc, hw⟩ := hh k hk
    exact ⟨b, o, a', cap, ha, Nat.lt_of_lt_of_le hlt hb.size, (hb.cell (p := ⟨b, o + k, none⟩) hlt).trans hc, hw⟩

set_option maxRecDepth 100000 in
theorem implWriteOk_is (x : Wr) (r : Bool) (h : okW x = r) (ad : Option Addr) (cp : Nat) (w : World) (hl : x.xs.length ≤ 1048576) (hd : IsDeps w ad x.xs) :
    Calls Tryz.prog 30 #[wrOf x ad cp] w fun e w' => e = .returned (.bool r) ∧ Below w.heap.size w w' := by
  subst h
  exact implWriteOk_gen x.k x.c x.s x.q x.v x.de ad x.xs _ cp w rfl hl hd

set_option maxRecDepth 100000 in
set_option maxHeartbeats 8000000 in
theorem implReplay_any (a : Option Addr) (n cap : Nat) (bs : List (List Wr)) (w : World) (hn : bs.length = n) (hm : n ≤ 1048576) (hx : FewB bs) (h : IsBs w a bs) :
    Calls Tryz.prog 12 #[.slice a n cap] w fun e w' => ∃ v es, e = .returned v ∧ es.map (·.x) = replayW bs ∧ RowG w' w.heap.size v es ∧ Below w.heap.size w w' := by
  have H := Lib.hid h
  have HN := Lib.hid hn
  have HX := Lib.hid hx
  clear h hn hx
  have HR0 : Hid (RegsW w (w.alloc (.map #[] 0)) w.heap.size 0 (fun _ => none)) := ⟨_, regs_made w, fun k => ⟨fun _ => rfl, fun x h => by cases h⟩⟩
  have HB0 : Hid (Below w.heap.size w (w.alloc (.map #[] 0))) := (Below.refl _ _).alloc (Nat.le_refl _) _
  have hmm := @run_makeMap Tryz.prog
  go_enter Tryz.func12, Tryz.ntmps12
  go_wp2
  clear hmm
  go_loopw [11] (fun i wr => ∃ (k m : Nat), k ≤ n ∧ i = .int .i64 k ∧ m ≤ 1048576 * k ∧ Hid (RegsW w wr w.heap.size m (regAll (bs.take k))) ∧ Hid (Below w.heap.size w wr)) (fun i _ => n - (intOf i).toNat)
  case atStart => exact ⟨0, 0, Nat.zero_le _, rfl, Nat.zero_le _, HR0, HB0⟩
  case round =>
    clear HR0 HB0
    obtain ⟨k, m, hk, rfl, hmk, HR, HB⟩ := hrel
    obtain ⟨W1, rfl⟩ : ∃ W1, W1 = wr := ⟨wr, rfl⟩
    by_cases hk' : k < n
    · have hkk : k < bs.length := by rw [HN.out]; exact hk'
      have i1 : (0 : Int) ≤ (k : Int) := by omega
      have i2 : (k : Int) < (n : Int) := by omega
      obtain ⟨b, o, ad, cpd, rfl, hz, e0, hw⟩ := H.out.base HB.out hkk
      obtain ⟨hl, hf⟩ := HX.out k hkk
      have HT := Lib.hid (regAll_take bs k hkk)
      have HW := Lib.hid hw
      have HF := Lib.hid hf
      clear hw hf
      generalize bs.getD k [] = ws at *
      generalize regAll (bs.take k) = M at *
      obtain ⟨q, hq⟩ : ∃ q, ws.length = q := ⟨_, rfl⟩
      rw [hq] at e0 hl
      have HQ := Lib.hid hq
      clear hq
      have HBA : Hid (Below W1.heap.size W1 (W1.alloc (.cells #[.slice ad q cpd] 31))) := (Below.refl _ _).alloc (Nat.le_refl _) _
      have HRA := Lib.hid (HR.out.below HBA.out)
      have HB1 := Lib.hid (below_step HB.out HB.out.size HBA.out)
      go_wp2
      generalize W1.alloc (.cells #[.slice ad q cpd] 31) = W2 at *
      go_loopw [18] (fun i wq => ∃ (j p : Nat), j ≤ q ∧ i = .int .i64 j ∧ p ≤ 1048576 * k + j ∧ Hid (RegsW w wq w.heap.size p (regRun M (ws.take j))) ∧ Hid (Below w.heap.size w wq)) (fun i _ => q - (intOf i).toNat)
      case atStart => exact ⟨0, m, Nat.zero_le _, rfl, by omega, HRA, HB1⟩
      case round =>
        clear HR HB HBA HRA HB1
        obtain ⟨j, p, hj, rfl, hp, HR, HB⟩ := hrel
        by_cases hj' : j < q
        · have hjj : j < ws.length := by rw [HQ.out]; exact hj'
          have j1 : (0 : Int) ≤ (j : Int) := by omega
          have j2 : (j : Int) < (q : Int) := by omega
          obtain ⟨b2, o2, ad2, cp2, rfl, hz2, ⟨c0, c1, c2, c3, c4, c5, c6⟩, hd⟩ := HW.out.base HB.out HQ.out hj'
          have hxl := HF.out j hjj
          have HD := Lib.hid hd
          have HS := Lib.hid (regRun_take ws M j hjj)
          clear hd
          generalize ws.getD j wz = x at *
          obtain ⟨xk, xc, xs', xq, xv, xd, xx⟩ := x
          simp only at c0 c1 c2 c3 c4 c5 c6 hxl HD
          generalize regRun M (ws.take j) = M2 at *
          have HX0 : Hid (Below wr.heap.size wr (wr.alloc (.cells #[.int .i64 xk, .int .i64 xc, .int .i64 xs', .int .i64 xq, .int .i64 xv, .bool xd, .slice ad2 xx.length cp2] 56))) := (Below.refl _ _).alloc (Nat.le_refl _) _
          have HR1 := Lib.hid (HR.out.below HX0.out)
          have HB1 := Lib.hid (below_step HB.out HB.out.size HX0.out)
          cases hok : okW ⟨xk, xc, xs', xq, xv, xd, xx⟩
          · have HE2 : Hid (regRun M (ws.take (j + 1)) = M2) := by
              show _ = _
              rw [HS.out]
              unfold regRep
              rw [if_neg (by rw [hok]; simp)]
            go_wp2_with fail
            refine (implWriteOk_is ⟨xk, xc, xs', xq, xv, xd, xx⟩ false hok ad2 cp2 _ hxl (HD.out.below HB1.out)).mono ?_
            rintro e w2 ⟨rfl, hb⟩
            have HR2 : Hid (RegsW w w2 w.heap.size p (regRun M (ws.take (j + 1)))) := by
              rw [HE2.out]
              exact HR1.out.below hb
            have HB2 := Lib.hid (below_step HB1.out HB1.out.size hb)
            clear hb
            go_wp2
            exact ⟨⟨j + 1, p, by omega, by go_num, by omega, HR2, HB2⟩, by simp [intOf]; omega⟩
          · have HE2 : Hid (regRun M (ws.take (j + 1)) = regPut M2 ⟨xk, xc, xs', xq, xv, xd, xx⟩) := by
              show _ = _
              rw [HS.out]
              unfold regRep
              rw [if_pos hok]
            have HKY := Lib.hid (okW_key hok)
            go_wp2_with fail
            refine (implWriteOk_is ⟨xk, xc, xs', xq, xv, xd, xx⟩ true hok ad2 cp2 _ hxl (HD.out.below HB1.out)).mono ?_
            rintro e w2 ⟨rfl, hb⟩
            have HX2 : Hid (BoxIn wr w2 xk xc xs' xq xv xd ad2 xx.length cp2) := BoxIn.start (t := 56) hb
            have HR2 := Lib.hid (HR1.out.below hb)
            have HB2 := Lib.hid (below_step HB1.out HB1.out.size hb)
            clear hb hok HR1 HB1 HX0
            have b0 := HX2.out.c0
            have b1 := HX2.out.c1
            have b2' := HX2.out.c2
            have b3 := HX2.out.c3
            have b4 := HX2.out.c4
            have b5 := HX2.out.c5
            have b6 := HX2.out.c6
            go_wp2_with fail
            refine (putOne_any w w.heap.size p M2 ⟨xk, xc, xs', xq, xv, xd, xx⟩ ad2 cp2 _ (by omega) hxl HKY.out HD.out HB2.out (Nat.le_refl _) HR2.out).mono ?_
            rintro e w3 ⟨rfl, hr3, hb3⟩
            have HR3 : Hid (RegsW w w3 w.heap.size (p + 1) (regRun M (ws.take (j + 1)))) := by
              rw [HE2.out]
              exact hr3
            have HB3 := Lib.hid hb3
            clear hr3 hb3
            go_wp2
            exact ⟨⟨j + 1, p + 1, by omega, by go_num, by omega, HR3, HB3⟩, by simp [intOf]; omega⟩
        · have hjj : j = q := by omega
          subst hjj
          have HR2 : Hid (RegsW w wr w.heap.size p (regAll (bs.take (k + 1)))) := by
            have h := HR.out
            rw [List.take_of_length_le (by rw [HQ.out]; exact Nat.le_refl _)] at h
            rw [HT.out]
            exact h
          go_wp2
          exact ⟨⟨k + 1, p, by omega, by go_num, by omega, HR2, HB⟩, by simp [intOf]; omega⟩
    · have hkk : k = n := by omega
      subst hkk
      have HRE : Hid (RegsW w W1 w.heap.size m (regAll bs)) := by
        have h := HR.out
        rw [List.take_of_length_le (by rw [HN.out]; exact Nat.le_refl _)] at h
        exact h
      go_wp2_with fail
      refine (told_any w w.heap.size m (regAll bs) _ HB.out HRE.out).mono ?_
      rintro e w6 ⟨v, es, rfl, hes, hrow, hb6⟩
      have HES : Hid (es.map (·.x) = replayW bs) := hes.trans (told_replay bs)
      have HRW := Lib.hid (hrow.mono HB.out.size)
      have HB6 : Hid (Below w.heap.size w w6) := below_step HB.out HB.out.size hb6
      clear hes hrow hb6
      go_wp2
      go_ret
      exact ⟨v, es, rfl, HES.out, HRW.out, HB6.out⟩

end Go.Proofs.YtidpcjcnhklmpacGreatDoor

/- Contracts of Within of both sides. -/
namespace Go.Proofs.YtidpcjcnhklmpacGreatDoor
open Go.ChangeShapes Go.WideShapes Go.ChangeAt Go.RowKit Go.Joins
attribute [local go_sem ↓] Go.wp_at_zero Go.wp_at_succ

/-- Two lists of writes are the same. -/
def sameB (us vs : List Wr) : Bool := decide (us.length = vs.length) && (List.range us.length).all fun i => decide (cmpW (us.getD i wz) (vs.getD i wz) = 0)

theorem same_len {us vs : List Wr} (h : us.length ≠ vs.length) : sameB us vs = false := by
  unfold sameB
  rw [decide_eq_false h, Bool.false_and]

theorem same_false {us vs : List Wr} {i : Nat} (hi : i < us.length) (h : cmpW (us.getD i wz) (vs.getD i wz) ≠ 0) : sameB us vs = false := by
  unfold sameB
  rw [Bool.and_eq_false_iff]
  refine .inr ?_
  rw [List.all_eq_false]
  exact ⟨i, List.mem_range.2 hi, by simpa using h⟩

theorem same_true {us vs : List Wr} (hl : us.length = vs.length) (h : ∀ i, i < us.length → cmpW (us.getD i wz) (vs.getD i wz) = 0) : sameB us vs = true := by
  unfold sameB
  rw [decide_eq_true hl, Bool.true_and, List.all_eq_true]
  intro i hi
  exact decide_eq_true (h i (List.mem_range.1 hi))

set_option maxHeartbeats 1000000 in
theorem sameWrite_any (x y : Wr) (a a' : Option Addr) (cp cp' : Nat) (w : World) (hn : x.xs.length ≤ 1048576) (hm : y.xs.length ≤ 1048576) (hh : IsDeps w a x.xs) (hh' : IsDeps w a' y.xs) :
    Calls Tryz.prog 29 #[wrOf x a cp, wrOf y a' cp'] w fun e w' => e = .returned (.bool (cmpW x y == 0)) ∧ Below w.heap.size w w' := by
  obtain ⟨xk, xc, xs', xq, xv, xd, xx⟩ := x
  obtain ⟨yk, yc, ys, yq, yv, yd, yy⟩ := y
  have HB : Hid (Below w.heap.size w ((w.alloc (.cells #[.int .i64 xk, .int .i64 xc, .int .i64 xs', .int .i64 xq, .int .i64 xv, .bool xd, .slice a xx.length cp] 56)).alloc (.cells #[.int .i64 yk, .int .i64 yc, .int .i64 ys, .int .i64 yq, .int .i64 yv, .bool yd, .slice a' yy.length cp'] 56))) := ((Below.refl _ _).alloc (Nat.le_refl _) _).alloc (by simp) _
  have HI := Lib.hid (hh.below HB.out)
  have HJ := Lib.hid (hh'.below HB.out)
  clear hh hh'
  go_enter Tryz.func29, Tryz.ntmps29
  go_wp2_with fail
  refine (implWriteCmp_gen xk xc xs' xq xv xd a xx _ cp yk yc ys yq yv yd a' yy _ cp' _ rfl rfl hn hm HI.out HJ.out).mono ?_
  rintro e w1 ⟨rfl, hb⟩
  have HB1 := Lib.hid (below_step HB.out HB.out.size hb)
  clear hb
  go_wp2
  go_ret
  exact ⟨rfl, HB1.out⟩

set_option maxHeartbeats 4000000 in
theorem equalFunc_any (a b : Option Addr) (n m cap cap' : Nat) (us vs : List Wr) (w : World) (hn : us.length = n) (hm : vs.length = m) (hn1 : n ≤ 1048576) (hm1 : m ≤ 1048576) (hx : Few us) (hy : Few vs) (hi : IsWs w a us) (hj : IsWs w b vs) :
    Calls Tryz.prog 27 #[.slice a n cap, .slice b m cap', .func (.func 29) #[] #[]] w fun e w' => e = .returned (.bool (sameB us vs)) ∧ Below w.heap.size w w' := by
  have HI : Hid (IsWs w a us) := hi
  have HJ : Hid (IsWs w b vs) := hj
  have HN : Hid (us.length = n) := hn
  have HM : Hid (vs.length = m) := hm
  have HX : Hid (Few us) := hx
  have HY : Hid (Few vs) := hy
  clear hi hj hn hm hx hy
  by_cases hnm : n = m
  case neg =>
    have HF : Hid (sameB us vs = false) := same_len (by rw [HN.out, HM.out]; exact hnm)
    have hb : ((n : Int) != (m : Int)) = true := by rw [bne_iff_ne]; omega
    go_enter Tryz.func27, Tryz.ntmps27
    go_wp2
    go_ret
    exact ⟨ret_bool HF.out.symm, Below.refl _ _⟩
  subst hnm
  go_enter Tryz.func27, Tryz.ntmps27
  go_wp2
  go_loopw [17] (fun i wr => ∃ k : Nat, k ≤ n ∧ i = .int .i64 k ∧ Hid (∀ j, j < k → cmpW (us.getD j wz) (vs.getD j wz) = 0) ∧ Hid (Below w.heap.size w wr)) (fun i _ => n - (intOf i).toNat)
  case atStart => exact ⟨0, Nat.zero_le _, rfl, fun j hj => absurd hj (Nat.not_lt_zero j), Below.refl _ _⟩
  case round =>
    obtain ⟨k, hk, rfl, HK, HB⟩ := hrel
    by_cases hk' : k < n
    · obtain ⟨b1, o1, ad, cp, rfl, hz, ⟨e0, e1, e2, e3, e4, e5, e6⟩, hd⟩ := HI.out.at HB.out HN.out hk'
      obtain ⟨b2, o2, ad', cp', rfl, hz', ⟨f0, f1, f2, f3, f4, f5, f6⟩, hd'⟩ := HJ.out.at HB.out HM.out hk'
      have i1 : (0 : Int) ≤ (k : Int) := by omega
      have i2 : (k : Int) < (n : Int) := by omega
      have HS : Hid (∀ W, Below wr.heap.size wr W → Calls Tryz.prog 29 #[wrOf (us.getD k wz) ad cp, wrOf (vs.getD k wz) ad' cp'] W fun e w' => e = .returned (.bool (cmpW (us.getD k wz) (vs.getD k wz) == 0)) ∧ Below W.heap.size W w') := fun W hW =>
        sameWrite_any _ _ ad ad' cp cp' W (HX.out k (by rw [HN.out]; exact hk')) (HY.out k (by rw [HM.out]; exact hk')) (hd.below hW) (hd'.below hW)
      have HE : Hid (cmpW (us.getD k wz) (vs.getD k wz) ≠ 0 → sameB us vs = false) := fun h => same_false (by rw [HN.out]; exact hk') h
      have HK' : Hid (cmpW (us.getD k wz) (vs.getD k wz) = 0 → ∀ j, j < k + 1 → cmpW (us.getD j wz) (vs.getD j wz) = 0) := fun h j hj => by
        by_cases h' : j < k
        · exact HK.out j h'
        · have : j = k := by omega
          rw [this]
          exact h
      clear hd hd' HI HJ
      by_cases hc : cmpW (us.getD k wz) (vs.getD k wz) = 0
      · have HK2 := Lib.hid (HK'.out hc)
        have hcb : (cmpW (us.getD k wz) (vs.getD k wz) == 0) = true := by simpa using hc
        rw [hcb] at HS
        clear hc hcb HE HK'
        generalize us.getD k wz = x at *
        generalize vs.getD k wz = y at *
        obtain ⟨xk, xc, xs', xq, xv, xd, xx⟩ := x
        obtain ⟨yk, yc, ys, yq, yv, yd, yy⟩ := y
        simp only at e0 e1 e2 e3 e4 e5 e6 f0 f1 f2 f3 f4 f5 f6 HS
        go_wp2_with fail
        refine (HS.out _ (((Below.refl _ _).alloc (Nat.le_refl _) _).alloc (by simp) _)).mono ?_
        rintro e w2 ⟨rfl, hb⟩
        have HB2 : Hid (Below w.heap.size w w2) := below_step HB.out HB.out.size (below_step (((Below.refl _ _).alloc (Nat.le_refl _) _).alloc (by simp) _) (by simp; omega) hb)
        clear hb
        go_wp2
        exact ⟨⟨k + 1, by omega, by go_num, HK2, HB2⟩, by simp [intOf]; omega⟩
      · have HF := Lib.hid (HE.out hc)
        have hcb : (cmpW (us.getD k wz) (vs.getD k wz) == 0) = false := by simpa using hc
        rw [hcb] at HS
        clear hc hcb HE HK'
        generalize us.getD k wz = x at *
        generalize vs.getD k wz = y at *
        obtain ⟨xk, xc, xs', xq, xv, xd, xx⟩ := x
        obtain ⟨yk, yc, ys, yq, yv, yd, yy⟩ := y
        simp only at e0 e1 e2 e3 e4 e5 e6 f0 f1 f2 f3 f4 f5 f6 HS
        go_wp2_with fail
        refine (HS.out _ (((Below.refl _ _).alloc (Nat.le_refl _) _).alloc (by simp) _)).mono ?_
        rintro e w2 ⟨rfl, hb⟩
        have HB2 : Hid (Below w.heap.size w w2) := below_step HB.out HB.out.size (below_step (((Below.refl _ _).alloc (Nat.le_refl _) _).alloc (by simp) _) (by simp; omega) hb)
        clear hb
        go_wp2
        go_ret
        exact ⟨ret_bool HF.out.symm, HB2.out⟩
    · have hkk : k = n := by omega
      subst hkk
      have HF : Hid (sameB us vs = true) := same_true (by rw [HN.out, HM.out]) (fun i hi => HK.out i (by rw [← HN.out]; exact hi))
      go_wp2
      go_ret
      exact ⟨ret_bool HF.out.symm, HB.out⟩

def withinB (us vs : List Wr) : Bool := mapOkB us && (mapOkB vs && sameB (joinB us vs) vs)

set_option maxHeartbeats 4000000 in
theorem implWithin_any (a b : Option Addr) (n m cap cap' : Nat) (us vs : List Wr) (w : World) (hn : us.length = n) (hm : vs.length = m) (hn1 : n ≤ 1048576) (hm1 : m ≤ 1048576) (hx : Few us) (hy : Few vs) (hi : IsWs w a us) (hj : IsWs w b vs) :
    Calls Tryz.prog 11 #[.slice a n cap, .slice b m cap'] w fun e w' => e = .returned (.bool (withinB us vs)) ∧ Below w.heap.size w w' := by
  have HI : Hid (IsWs w a us) := hi
  have HJ : Hid (IsWs w b vs) := hj
  have HN : Hid (us.length = n) := hn
  have HM : Hid (vs.length = m) := hm
  have HX : Hid (Few us) := hx
  have HY : Hid (Few vs) := hy
  clear hi hj hn hm hx hy
  cases ha : mapOkB us
  · have HE : Hid (withinB us vs = false) := by unfold withinB; rw [ha, Bool.false_and]; exact Lib.hid rfl
    go_enter Tryz.func11, Tryz.ntmps11
    go_wp2_with fail
    refine (implMapOk_is false a n cap us ha _ HN.out hn1 HX.out HI.out).mono ?_
    rintro e w1 ⟨rfl, hb⟩
    have HB1 := Lib.hid hb
    clear hb
    go_wp2
    go_ret
    exact ⟨ret_bool HE.out.symm, HB1.out⟩
  cases hb : mapOkB vs
  · have HE : Hid (withinB us vs = false) := by unfold withinB; rw [hb, Bool.false_and, Bool.and_false]; exact Lib.hid rfl
    go_enter Tryz.func11, Tryz.ntmps11
    go_wp2_with fail
    refine (implMapOk_is true a n cap us ha _ HN.out hn1 HX.out HI.out).mono ?_
    rintro e w1 ⟨rfl, hb1⟩
    have HB1 := Lib.hid hb1
    clear hb1
    go_wp2_with fail
    refine (implMapOk_is false b m cap' vs hb _ HM.out hm1 HY.out (HJ.out.below HB1.out)).mono ?_
    rintro e w2 ⟨rfl, hb2⟩
    have HB2 : Hid (Below w.heap.size w w2) := below_step HB1.out HB1.out.size hb2
    clear hb2
    go_wp2
    go_ret
    exact ⟨ret_bool HE.out.symm, HB2.out⟩
  have HE : Hid (withinB us vs = sameB (joinB us vs) vs) := by unfold withinB; rw [ha, hb, Bool.true_and, Bool.true_and]; exact Lib.hid rfl
  have HJF := Lib.hid (joinB_few us vs)
  have HJL := Lib.hid (joinB_len us vs)
  go_enter Tryz.func11, Tryz.ntmps11
  go_wp2_with fail
  refine (implMapOk_is true a n cap us ha _ HN.out hn1 HX.out HI.out).mono ?_
  rintro e w1 ⟨rfl, hb1⟩
  have HB1 := Lib.hid hb1
  clear hb1
  go_wp2_with fail
  refine (implMapOk_is true b m cap' vs hb _ HM.out hm1 HY.out (HJ.out.below HB1.out)).mono ?_
  rintro e w2 ⟨rfl, hb2⟩
  have HB2 : Hid (Below w.heap.size w w2) := below_step HB1.out HB1.out.size hb2
  clear hb2 HB1
  go_wp2_with fail
  refine (implMapJoin_any a b n m cap cap' us vs _ HN.out HM.out hn1 hm1 HX.out HY.out (HI.out.below HB2.out) (HJ.out.below HB2.out)).mono ?_
  rintro e w3 ⟨v, es, rfl, hes, hrow, hb3⟩
  obtain ⟨ga, gc, L, rfl, hl, hg⟩ := hrow.ownA hes
  have HB3 : Hid (Below w.heap.size w w3) := below_step HB2.out HB2.out.size hb3
  have HG := Lib.hid (hg.isWs HJF.out)
  have HL := Lib.hid hl
  have hL6 : L ≤ 6 := by rw [← hl]; exact HJL.out
  clear hb3 hg hl hes hrow HB2
  go_wp2_with fail
  refine (equalFunc_any ga b L m gc cap' (joinB us vs) vs _ HL.out HM.out (by omega) hm1 HJF.out HY.out HG.out (HJ.out.below HB3.out)).mono ?_
  rintro e w4 ⟨rfl, hb4⟩
  have HB4 : Hid (Below w.heap.size w w4) := below_step HB3.out HB3.out.size hb4
  clear hb4
  rw [← HE.out]
  go_wp2
  go_ret
  exact ⟨rfl, HB4.out⟩

end Go.Proofs.YtidpcjcnhklmpacGreatDoor

/- The contract of the laws' sameWrites. -/
namespace Go.Proofs.YtidpcjcnhklmpacGreatDoor
open Go.ChangeShapes Go.WideShapes Go.ChangeAt Go.RowKit Go.Joins
attribute [local go_sem ↓] Go.wp_at_zero Go.wp_at_succ

set_option maxHeartbeats 4000000 in
theorem sameWrites_gen (a b : Option Addr) (n m cap cap' : Nat) (us vs : List Wr) (w : World) (hn : us.length = n) (hm : vs.length = m) (hn1 : n ≤ 1048576) (hm1 : m ≤ 1048576) (hx : Few us) (hy : Few vs) (hi : IsWs w a us) (hj : IsWs w b vs) :
    Calls Tryz.prog 8 #[.slice a n cap, .slice b m cap'] w fun e w' => e = .returned (.bool (sameB us vs)) ∧ Below w.heap.size w w' := by
  have HI : Hid (IsWs w a us) := hi
  have HJ : Hid (IsWs w b vs) := hj
  have HN : Hid (us.length = n) := hn
  have HM : Hid (vs.length = m) := hm
  have HX : Hid (Few us) := hx
  have HY : Hid (Few vs) := hy
  clear hi hj hn hm hx hy
  by_cases hnm : n = m
  case neg =>
    have HF : Hid (sameB us vs = false) := same_len (by rw [HN.out, HM.out]; exact hnm)
    have hb : ((n : Int) != (m : Int)) = true := by rw [bne_iff_ne]; omega
    go_enter Tryz.func8, Tryz.ntmps8
    go_wp2
    go_ret
    exact ⟨ret_bool HF.out.symm, Below.refl _ _⟩
  subst hnm
  go_enter Tryz.func8, Tryz.ntmps8
  go_wp2
  go_loopw [5] (fun i wr => ∃ k : Nat, k ≤ n ∧ i = .int .i64 k ∧ Hid (∀ j, j < k → cmpW (us.getD j wz) (vs.getD j wz) = 0) ∧ Hid (Below w.heap.size w wr)) (fun i _ => n - (intOf i).toNat)
  case atStart => exact ⟨0, Nat.zero_le _, rfl, fun j hj => absurd hj (Nat.not_lt_zero j), Below.refl _ _⟩
  case round =>
    obtain ⟨k, hk, rfl, HK, HB⟩ := hrel
    by_cases hk' : k < n
    · obtain ⟨b1, o1, ad, cp, rfl, hz, ⟨e0, e1, e2, e3, e4, e5, e6⟩, hd⟩ := HI.out.at HB.out HN.out hk'
      obtain ⟨b2, o2, ad', cp', rfl, hz', ⟨f0, f1, f2, f3, f4, f5, f6⟩, hd'⟩ := HJ.out.at HB.out HM.out hk'
      have i1 : (0 : Int) ≤ (k : Int) := by omega
      have i2 : (k : Int) < (n : Int) := by omega
      have HC : Hid (∀ p : Aft wr.heap.size wr, Calls Tryz.prog 20 #[wrOf (us.getD k wz) ad cp, wrOf (vs.getD k wz) ad' cp'] p.now fun e w' => e = .returned (.int .i64 (cmpW (us.getD k wz) (vs.getD k wz))) ∧ Below p.now.heap.size p.now w') := fun p =>
        specWriteCmp_gen _ _ _ _ _ _ _ (us.getD k wz).xs _ _ _ _ _ _ _ _ _ (vs.getD k wz).xs _ _ _ rfl rfl (HX.out k (by rw [HN.out]; exact hk')) (HY.out k (by rw [HM.out]; exact hk')) (hd.below p.below) (hd'.below p.below)
      have HE : Hid (cmpW (us.getD k wz) (vs.getD k wz) ≠ 0 → sameB us vs = false) := fun h => same_false (by rw [HN.out]; exact hk') h
      have HK' : Hid (cmpW (us.getD k wz) (vs.getD k wz) = 0 → ∀ j, j < k + 1 → cmpW (us.getD j wz) (vs.getD j wz) = 0) := fun h j hj => by
        by_cases h' : j < k
        · exact HK.out j h'
        · have : j = k := by omega
          rw [this]
          exact h
      clear hd hd' HI HJ
      by_cases hc : cmpW (us.getD k wz) (vs.getD k wz) = 0
      · have HK2 := Lib.hid (HK'.out hc)
        rw [hc] at HC
        clear hc HE HK'
        generalize us.getD k wz = x at *
        generalize vs.getD k wz = y at *
        obtain ⟨xk, xc, xs', xq, xv, xd, xx⟩ := x
        obtain ⟨yk, yc, ys, yq, yv, yd, yy⟩ := y
        simp only at e0 e1 e2 e3 e4 e5 e6 f0 f1 f2 f3 f4 f5 f6 HC
        go_wp2_with fail
        have ge0 := aft_cell hz e0
        have ge1 := aft_cell hz e1
        have ge2 := aft_cell hz e2
        have ge3 := aft_cell hz e3
        have ge4 := aft_cell hz e4
        have ge5 := aft_cell hz e5
        have ge6 := aft_cell hz e6
        have gf0 := aft_cell hz' f0
        have gf1 := aft_cell hz' f1
        have gf2 := aft_cell hz' f2
        have gf3 := aft_cell hz' f3
        have gf4 := aft_cell hz' f4
        have gf5 := aft_cell hz' f5
        have gf6 := aft_cell hz' f6
        have ne := aft_some wr
        refine wp_region_aft (by kernel_rfl) (by kernel_rfl) ?_
        repeat (first | go_big_quiet_step (first | (go_at_call 20; exact aft_of (HC.out _))))
        refine wpQuiet_nil ?_
        intro wq hq
        have HBQ : Hid (Below w.heap.size w wq) := below_step HB.out HB.out.size hq
        clear hq
        go_wp2
        exact ⟨⟨k + 1, by omega, by go_num, HK2, HBQ⟩, by simp [intOf]; omega⟩
      · have HF := Lib.hid (HE.out hc)
        have hcb : (cmpW (us.getD k wz) (vs.getD k wz) != 0) = true := by rw [bne_iff_ne]; exact hc
        clear hc HE HK'
        generalize cmpW (us.getD k wz) (vs.getD k wz) = z at *
        generalize us.getD k wz = x at *
        generalize vs.getD k wz = y at *
        obtain ⟨xk, xc, xs', xq, xv, xd, xx⟩ := x
        obtain ⟨yk, yc, ys, yq, yv, yd, yy⟩ := y
        simp only at e0 e1 e2 e3 e4 e5 e6 f0 f1 f2 f3 f4 f5 f6 HC
        go_wp2_with fail
        have ge0 := aft_cell hz e0
        have ge1 := aft_cell hz e1
        have ge2 := aft_cell hz e2
        have ge3 := aft_cell hz e3
        have ge4 := aft_cell hz e4
        have ge5 := aft_cell hz e5
        have ge6 := aft_cell hz e6
        have gf0 := aft_cell hz' f0
        have gf1 := aft_cell hz' f1
        have gf2 := aft_cell hz' f2
        have gf3 := aft_cell hz' f3
        have gf4 := aft_cell hz' f4
        have gf5 := aft_cell hz' f5
        have gf6 := aft_cell hz' f6
        have ne := aft_some wr
        refine wp_region_aft (by kernel_rfl) (by kernel_rfl) ?_
        repeat (first | go_big_quiet_step (first | (go_at_call 20; exact aft_of (HC.out _))))
        refine wpQuiet_nil ?_
        intro wq hq
        have HBQ : Hid (Below w.heap.size w wq) := below_step HB.out HB.out.size hq
        clear hq
        go_wp2
        go_ret
        exact ⟨ret_bool HF.out.symm, HBQ.out⟩
    · have hkk : k = n := by omega
      subst hkk
      have HF : Hid (sameB us vs = true) := same_true (by rw [HN.out, HM.out]) (fun i hi => HK.out i (by rw [← HN.out]; exact hi))
      go_wp2
      go_ret
      exact ⟨ret_bool HF.out.symm, HB.out⟩

end Go.Proofs.YtidpcjcnhklmpacGreatDoor

/- Maps joined: whichever comes first, the same comes; within is an order. No program in sight. -/
namespace Go.Proofs.YtidpcjcnhklmpacGreatDoor

theorem dcmp_zero {d e : Dp} (h : dcmp d e = 0) : d = e := by
  obtain ⟨k, c, s, q⟩ := d
  obtain ⟨k', c', s', q'⟩ := e
  unfold dcmp at h
  simp only at h
  by_cases hk : k = k'
  · rw [if_neg (by simp [hk])] at h
    obtain ⟨rfl, rfl, rfl⟩ := tcmp_zero.1 h
    rw [hk]
  · rw [if_pos hk] at h
    exact absurd (sgn_zero.1 h) hk

theorem depsCmp_zero : ∀ {xs ys : List Dp}, depsCmp xs ys = 0 → xs = ys
  | [], [], _ => rfl
  | [], _ :: _, h => by simp [depsCmp] at h
  | _ :: _, [], h => by simp [depsCmp] at h
  | d :: r, e :: t, h => by
    unfold depsCmp at h
    by_cases hd : dcmp d e = 0
    · rw [if_neg (by simp [hd])] at h
      rw [dcmp_zero hd, depsCmp_zero h]
    · rw [if_pos hd] at h
      exact absurd h hd

theorem cmpW_zero {x y : Wr} (h : cmpW x y = 0) : x = y := by
  obtain ⟨k, c, s, q, v, de, xs⟩ := x
  obtain ⟨k', c', s', q', v', de', ys⟩ := y
  unfold cmpW wcmp at h
  simp only at h
  by_cases h1 : tcmp c s q c' s' q' = 0
  · rw [if_neg (by simp [h1])] at h
    obtain ⟨rfl, rfl, rfl⟩ := tcmp_zero.1 h1
    by_cases h2 : k = k'
    · subst h2
      rw [if_neg (by simp)] at h
      by_cases h3 : v = v'
      · subst h3
        rw [if_neg (by simp)] at h
        by_cases h4 : de = de'
        · subst h4
          rw [if_neg (by simp)] at h
          rw [depsCmp_zero h]
        · rw [if_pos h4] at h
          exact absurd (sgn_zero.1 h) (by cases de <;> cases de' <;> simp [bit] at h4 ⊢)
      · rw [if_pos h3] at h
        exact absurd (sgn_zero.1 h) h3
    · rw [if_pos h2] at h
      exact absurd (sgn_zero.1 h) h2
  · rw [if_pos h1] at h
    exact absurd h h1

theorem cmpW_self (x : Wr) : cmpW x x = 0 := by
  have h := wcmp_neg x.k x.c x.s x.q x.v x.de x.xs x.k x.c x.s x.q x.v x.de x.xs
  unfold cmpW
  omega

theorem same_iff (us vs : List Wr) : sameB us vs = true ↔ us = vs := by
  constructor
  · intro h
    unfold sameB at h
    rw [Bool.and_eq_true, decide_eq_true_eq, List.all_eq_true] at h
    refine List.ext_getElem h.1 fun i h1 h2 => ?_
    have h3 := h.2 i (List.mem_range.2 h1)
    have e1 : us.getD i wz = us[i] := by simp [List.getD, h1]
    have e2 : vs.getD i wz = vs[i] := by simp [List.getD, h2]
    rw [decide_eq_true_eq, e1, e2] at h3
    exact cmpW_zero h3
  · rintro rfl
    exact same_true rfl fun i _ => cmpW_self _

/-- The later of two registers. -/
def later2 (a b : Option Wr) : Option Wr := match b with
  | none => a
  | some y => some (laterO a y)

theorem fold_find : ∀ (b : List Wr) (M : Int → Option Wr), Rise b → ∀ key, b.foldl regPut M key = later2 (M key) (findW b key)
  | [], M, _, key => rfl
  | x :: r, M, h, key => by
    have hp := List.pairwise_cons.1 h
    show r.foldl regPut (regPut M x) key = _
    rw [fold_find r (regPut M x) hp.2 key, findW_cons]
    by_cases hk : x.k = key
    · subst hk
      rw [if_pos rfl, findW_past (fun z hz => hp.1 z hz)]
      show regPut M x x.k = _
      unfold regPut later2
      rw [if_pos rfl]
    · rw [if_neg hk]
      unfold regPut
      rw [if_neg (Ne.symm hk)]

theorem find_join {a b : List Wr} (ha : Rise a) (hb : Rise b) (key : Int) : findW (joinW a b) key = later2 (findW a key) (findW b key) := by
  rw [(join_spec b a ha).2.2 key, fold_find b _ hb]

theorem later_some (x y : Wr) : later2 (some x) (some y) = some (if cmpW x y < 0 then y else x) := rfl

theorem cmpW_turn (x y : Wr) : cmpW y x = -cmpW x y := wcmp_neg ..

theorem later_comm (a b : Option Wr) : later2 a b = later2 b a := by
  cases a with
  | none => cases b <;> rfl
  | some x =>
    cases b with
    | none => rfl
    | some y =>
      rw [later_some, later_some, cmpW_turn x y]
      by_cases h1 : cmpW x y < 0
      · rw [if_pos h1, if_neg (by omega)]
      · rw [if_neg h1]
        by_cases h2 : cmpW x y = 0
        · rw [if_neg (by omega), cmpW_zero h2]
        · rw [if_pos (by omega)]

theorem later_self (a : Option Wr) : later2 a a = a := by
  cases a with
  | none => rfl
  | some x => rw [later_some, if_neg (by rw [cmpW_self]; omega)]

theorem cmpW_three (x y z : Wr) : T3 (cmpW x y) (cmpW y z) (cmpW x z) := wcmp_three ..

theorem later_assoc (a b c : Option Wr) : later2 (later2 a b) c = later2 a (later2 b c) := by
  cases c with
  | none => rfl
  | some z =>
    cases b with
    | none => rfl
    | some y =>
      cases a with
      | none =>
        show later2 (some y) (some z) = later2 none (later2 (some y) (some z))
        rw [later_some]
        rfl
      | some x =>
        rw [later_some x y, later_some y z]
        have t1 := cmpW_three x y z
        have t2 := cmpW_three z y x
        rw [cmpW_turn y z, cmpW_turn x y, cmpW_turn x z] at t2
        by_cases h1 : cmpW x y < 0
        · rw [if_pos h1, later_some]
          by_cases h2 : cmpW y z < 0
          · rw [if_pos h2, later_some, if_pos (t1.n h1 h2)]
          · rw [if_neg h2, later_some, if_pos h1]
        · rw [if_neg h1, later_some]
          by_cases h2 : cmpW y z < 0
          · rw [if_pos h2, later_some]
          · rw [if_neg h2, later_some, if_neg h1]
            by_cases h3 : cmpW x z < 0
            · exfalso
              rcases t2.on (by omega) (by omega) with h4 | h4 <;> omega
            · rw [if_neg h3]

structure OkM (ws : List Wr) : Prop where
  rise : Rise ws
  keys : ∀ x ∈ ws, 0 ≤ x.k ∧ x.k ≤ 5

theorem OkM.join {a b : List Wr} (ha : OkM a) (hb : OkM b) : OkM (joinW a b) where
  rise := (join_spec b a ha.rise).1
  keys := fun x hx => ((join_spec b a ha.rise).2.1 x hx).elim (ha.keys x) (hb.keys x)

theorem OkM.ext {a b : List Wr} (ha : OkM a) (hb : OkM b) (h : ∀ key, findW a key = findW b key) : a = b := by
  rw [← told_find ha.rise ha.keys, ← told_find hb.rise hb.keys, funext h]

theorem join_comm {a b : List Wr} (ha : OkM a) (hb : OkM b) : joinW a b = joinW b a :=
  (ha.join hb).ext (hb.join ha) fun key => by rw [find_join ha.rise hb.rise, find_join hb.rise ha.rise, later_comm]

theorem join_self {a : List Wr} (ha : OkM a) : joinW a a = a :=
  (ha.join ha).ext ha fun key => by rw [find_join ha.rise ha.rise, later_self]

theorem join_assoc {a b c : List Wr} (ha : OkM a) (hb : OkM b) (hc : OkM c) : joinW (joinW a b) c = joinW a (joinW b c) :=
  ((ha.join hb).join hc).ext (ha.join (hb.join hc)) fun key => by
    rw [find_join (ha.join hb).rise hc.rise, find_join ha.rise hb.rise, find_join ha.rise (hb.join hc).rise, find_join hb.rise hc.rise, later_assoc]

theorem okM {ws : List Wr} (h : mapOkB ws = true) : OkM ws := ⟨((mapOk_iff ws).1 h).2, mapOk_keys h⟩

theorem joinB_yes {us vs : List Wr} (h : mapOkB us = true) (h' : mapOkB vs = true) : joinB us vs = joinW us vs := by
  unfold joinB
  exact if_pos ⟨h, h'⟩

theorem within_iff (us vs : List Wr) : withinB us vs = true ↔ mapOkB us = true ∧ mapOkB vs = true ∧ joinW us vs = vs := by
  unfold withinB
  rw [Bool.and_eq_true, Bool.and_eq_true, same_iff]
  constructor
  · rintro ⟨h1, h2, h3⟩
    rw [joinB_yes h1 h2] at h3
    exact ⟨h1, h2, h3⟩
  · rintro ⟨h1, h2, h3⟩
    refine ⟨h1, h2, ?_⟩
    rw [joinB_yes h1 h2]
    exact h3

theorem within_self (us : List Wr) : withinB us us = mapOkB us := by
  cases h : mapOkB us
  · unfold withinB
    rw [h, Bool.false_and]
  · exact (within_iff us us).2 ⟨h, h, join_self (okM h)⟩

theorem within_anti {us vs : List Wr} (h : withinB us vs = true) (h' : withinB vs us = true) : us = vs := by
  obtain ⟨h1, h2, h3⟩ := (within_iff us vs).1 h
  obtain ⟨_, _, h4⟩ := (within_iff vs us).1 h'
  rw [← h3, join_comm (okM h1) (okM h2), h4]

theorem within_join {us vs ws : List Wr} (h : withinB us vs = true) (hw : mapOkB ws = true) : withinB us (joinB vs ws) = true := by
  obtain ⟨h1, h2, h3⟩ := (within_iff us vs).1 h
  refine (within_iff us _).2 ⟨h1, joinB_mapOk _ _, ?_⟩
  rw [joinB_yes h2 hw, ← join_assoc (okM h1) (okM h2) (okM hw), h3]

/-- What FnWithin asks. -/
theorem within_law (us vs ws : List Wr) : (withinB us vs = true → withinB vs us = true → sameB us vs = true) ∧ (withinB us vs = true → mapOkB ws = true → withinB us (joinB vs ws) = true) :=
  ⟨fun h h' => (same_iff _ _).2 (within_anti h h'), fun h h' => within_join h h'⟩

end Go.Proofs.YtidpcjcnhklmpacGreatDoor

/- The laws' own big; a row's bytes, opened. -/
namespace Go.Proofs.YtidpcjcnhklmpacGreatDoor
open Go.ChangeShapes Go.WideShapes Go.ChangeAt Go.RowKit Go.Joins

namespace lawBytes

set_option maxRecDepth 100000 in
theorem big_is (a : Option Addr) (len cap : Nat) (r : Bool) (h : decide (1048576 < len) = r) (hm : len ≤ maxLen) (w : World) :
    Calls Tryz.prog 4 #[.slice a len cap] w fun e w' => e = .returned (.bool r) ∧ w' = w := by
  unfold maxLen at hm
  cases r
  · have h' : len ≤ 1048576 := by simpa using h
    clear h
    go_enter Tryz.func4, Tryz.ntmps4
    go_wp2
    go_ret
    exact ⟨by simp; omega, rfl⟩
  · have h' : 1048576 < len := by simpa using h
    clear h
    go_enter Tryz.func4, Tryz.ntmps4
    go_wp2
    go_ret
    exact ⟨by simp; omega, rfl⟩

set_option maxRecDepth 100000 in
theorem open_bytes {H : Type} {enc : TypeId × Value → H} {w : World} {base b0 : Nat} {held : Bool} {r : Go.Reach} {v : Value} {d : DataW H} {p : List MemPlace} (hv : Value.okWide Tryz.prog w r b0 22 v) (h : DataW.Trod enc Tryz.prog w base (fun _ => true) held 22 v d p) :
    ∃ (a : Option Addr) (len cap : Nat), v = .slice a len cap ∧ (len ≤ maxLen ∧ Bytes w a len) := by
  obtain ⟨a, len, cap, rfl⟩ := okWide_slice Tryz.underlying22 hv
  obtain ⟨fuel, hf⟩ := h
  refine ⟨a, len, cap, rfl, ?_⟩
  rcases open_ints Tryz.underlying22 Tryz.underlying5 (by kernel_rfl) hf with ⟨hcs, _⟩ | ⟨x, l, c, zs, hcs, _, hl, hm, hz, _, hcell, hwz⟩
  · simp [Value.cells] at hcs
    obtain ⟨rfl, rfl, rfl⟩ := hcs
    exact ⟨Nat.zero_le _, .inl rfl⟩
  · simp [Value.cells] at hcs
    obtain ⟨rfl, rfl, rfl⟩ := hcs
    refine ⟨by omega, ?_⟩
    by_cases h0 : len = 0
    · exact .inl h0
    · have hzl : zs.length = cap := by simpa using hz
      have hx : x = ⟨x.block, x.off, none⟩ := by
        have h1 := hcell 0 (by omega)
        simp [Addr.add] at h1
        cases x with
        | mk b o s =>
          cases s with
          | none => rfl
          | some s =>
            simp only [World.cell?] at h1
            split at h1 <;> simp at h1
      refine .inr ⟨x.block, x.off, by rw [← hx], ?_, fun i hi => ?_⟩
      · have h1 := hcell 0 (by omega)
        have := World.block_lt_of_cell? w _ h1
        simpa [Addr.add] using this
      · have h1 := hcell i (by omega)
        have hw : (Lit.int .u8 (zs.getD i 0)).wf = true := hwz _ (by rw [List.getD_eq_getElem?_getD, List.getElem?_eq_getElem (by omega)]; exact List.getElem_mem _)
        have hb := bounds_u8 hw
        refine ⟨zs.getD i 0, hb.1, hb.2, ?_⟩
        rw [hx] at h1
        have e : (Addr.mk x.block x.off none).add i = ⟨x.block, x.off + i, none⟩ := by
          unfold Addr.add
          split
          · rename_i h
            rw [h]
            rfl
          · rfl
        rw [e] at h1
        exact h1

end lawBytes

end Go.Proofs.YtidpcjcnhklmpacGreatDoor

/- The laws' own pick. -/
namespace Go.Proofs.YtidpcjcnhklmpacGreatDoor
open Go.ChangeShapes Go.WideShapes Go.ChangeAt Go.RowKit Go.Joins

theorem tmodB_nat (a b : Nat) : Int.tmod ((a : Nat) : Int) (b : Int) = ((a % b : Nat) : Int) := rfl

set_option maxRecDepth 100000 in
set_option maxHeartbeats 2000000 in
theorem pickB_any (a : Option Addr) (len cap n : Nat) (w : World) (h : Bytes w a len) (hl : len ≤ 1048576) (hn : n ≤ 100000) :
    Calls Tryz.prog 10 #[.slice a len cap, .int .i64 1, .int .i64 n] w fun e w' => ∃ k : Nat, e = .returned (.int .i64 (k : Int)) ∧ (1 ≤ n → k < n) ∧ w' = w := by
  have HY := Lib.hid h
  clear h
  go_enter Tryz.func10, Tryz.ntmps10
  by_cases h0 : len = 0
  · subst h0
    go_wp2
    go_ret
    exact ⟨0, rfl, fun h => h, rfl⟩
  by_cases h1 : n < 2
  · have e0 : ¬ ((len : Int) = 0) := by omega
    have e1 : (n : Int) < 2 := by omega
    go_wp2
    go_ret
    exact ⟨0, rfl, fun h => h, rfl⟩
  have e0 : ¬ ((len : Int) = 0) := by omega
  have e1 : ¬ ((n : Int) < 2) := by omega
  have e2 : ¬ ((n : Int) = 0) := by omega
  obtain ⟨b, o, rfl, hbl, hby⟩ := HY.out.resolve_left h0
  have HBY := Lib.hid hby
  clear hby HY
  go_wp2
  go_loopw [7, 8] (fun x i wr => ∃ k y : Nat, i = .int .i64 k ∧ x = .int .i64 y ∧ (k = 0 ∧ y = 0 ∨ k = 1 ∧ y ≤ 255 ∨ k = 2 ∧ y ≤ 8160 ∨ k = 3 ∧ y ≤ 253215) ∧ wr = w) (fun _ i _ => 3 - (intOf i).toNat)
  case atStart => exact ⟨0, 0, rfl, rfl, .inl ⟨rfl, rfl⟩, rfl⟩
  case round =>
    obtain ⟨k, y, rfl, rfl, hy, rfl⟩ := hrel
    by_cases hk : k < 3
    · have hlen : 0 < len := by omega
      have hmod : Int.tmod (1 + (k : Int)) (len : Int) = (((1 + k) % len : Nat) : Int) := tmodB_nat (1 + k) len
      obtain ⟨q, hq⟩ : ∃ q, (1 + k) % len = q := ⟨_, rfl⟩
      rw [hq] at hmod
      have hql : q < len := by rw [← hq]; exact Nat.mod_lt _ hlen
      clear hq
      have i1 : (0 : Int) ≤ (q : Int) := by omega
      have i2 : (q : Int) < (len : Int) := by omega
      obtain ⟨z, z0, z1, hz⟩ := HBY.out q hql
      have i3 : (k : Int) < 3 := by omega
      have hwz : wrap64 z = z := by unfold wrap64; omega
      go_wp2
      refine ⟨⟨k + 1, 31 * y + z.toNat, by go_num, ?_, by omega, trivial⟩, by simp [intOf]; omega⟩
      congr 1
      omega
    · have i3 : ¬ ((k : Int) < 3) := by omega
      have hmod : Int.tmod ((y : Int) + 1) (n : Int) = (((y + 1) % n : Nat) : Int) := tmodB_nat (y + 1) n
      have hml : (y + 1) % n < n := Nat.mod_lt _ (by omega)
      go_wp2
      go_ret
      exact ⟨_, rfl, fun _ => hml, rfl⟩

end Go.Proofs.YtidpcjcnhklmpacGreatDoor
