import Derived.Test.YtidpcjcnhklmpalDoorPack4
import Derived.Test.YtidpcjcnhklmpalDoorPack3
import Derived.Shelf.LaysM
import Derived.Shelf.Strconv.Itoa3
import Derived.Test.YtidpcjcnhklmpalDoorProg
import Derived.Test.YtidpcjcnhklmpalDoorPack1
import Derived.Deep.AppendLies
import Derived.Laws.OwnMore
/- The contract of spec.BatchText. -/
namespace Go.Proofs.YtidpcjcnhklmpalDoor
open Go.ChangeShapes Go.WideShapes Go.ChangeAt Go.RowKit Go.Joins
attribute [local go_sem ↓] Go.wp_at_zero Go.wp_at_succ

/-- A list of writes, the dependencies of each from a block's begin on. -/
def IsWs0 (w : World) (a : Option Addr) (ws : List Wr) : Prop :=
  ws = [] ∨ ∃ b o, a = some ⟨b, o, none⟩ ∧ b < w.heap.size ∧ ∀ i, i < ws.length → ∃ a' cap, WrAt w b (o + i * 7) (ws.getD i wz) a' cap ∧ Deps0 w a' (ws.getD i wz).xs

set_option maxRecDepth 100000 in
theorem deps0_stay {w w' : World} {a : Option Addr} {xs : List Dp} (h : Deps0 w a xs) (hb : Below w.heap.size w w') : Deps0 w' a xs := by
  rcases h with h | ⟨g, h1, h2, h3⟩
  · exact .inl h
  · exact .inr ⟨g, h1, Nat.lt_of_lt_of_le h2 hb.size, h3.below hb h2⟩

set_option maxRecDepth 100000 in
theorem IsWs0.below {w w' : World} {a : Option Addr} {ws : List Wr} (h : IsWs0 w a ws) (hb : Below w.heap.size w w') : IsWs0 w' a ws := by
  rcases h with h | ⟨b, o, ha, hlt, hh⟩
  · exact .inl h
  · refine .inr ⟨b, o, ha, Nat.lt_of_lt_of_le hlt hb.size, fun i hi => ?_⟩
    obtain ⟨a', cap, h1, h2⟩ := hh i hi
    exact ⟨a', cap, h1.of_block (hb.block b hlt), deps0_stay h2 hb⟩

/-- The text behind so many writes. -/
def accB (ws : List Wr) (j : Nat) : List UInt8 := headB ws.length ++ 10 :: (ws.take j).flatMap lineW

set_option maxRecDepth 100000 in
theorem accB_next (ws : List Wr) {j : Nat} (h : j < ws.length) : accB ws (j + 1) = accB ws j ++ (textR (ws.getD j wz) ++ [10]) := by
  unfold accB
  have e : ws.take (j + 1) = ws.take j ++ [ws.getD j wz] := by
    rw [List.take_add_one, List.getElem?_eq_getElem h]
    simp [List.getD, h]
  rw [e, List.flatMap_append]
  simp [lineW]

set_option maxRecDepth 100000 in
theorem okR_text {x : Wr} : textR x = [] ↔ okR x = false := by
  unfold textR writeText okR
  cases h : writeOkB x.k x.c x.s x.q x.v x.de x.xs
  · simp
  · simp [headText]

set_option maxRecDepth 100000 in
theorem okWs_iff {ws : List Wr} : okWs ws = true ↔ (1 ≤ ws.length ∧ ws.length ≤ 6) ∧ ∀ i, i < ws.length → okR (ws.getD i wz) = true := by
  unfold okWs
  simp only [Bool.and_eq_true, decide_eq_true_eq, List.all_eq_true]
  constructor
  · rintro ⟨h1, h2⟩
    exact ⟨h1, fun i hi => h2 _ (by simp [List.getD, hi])⟩
  · rintro ⟨h1, h2⟩
    refine ⟨h1, fun x hx => ?_⟩
    obtain ⟨i, hi, rfl⟩ := List.getElem_of_mem hx
    have := h2 i hi
    simpa [List.getD, hi] using this

set_option maxRecDepth 100000 in
theorem text_400 {x : Wr} : (textR x).length ≤ 400 := by
  cases h : okR x
  · rw [okR_text.2 h]
    simp
  · exact text_len ⟨h, rfl⟩

set_option maxRecDepth 100000 in
set_option maxHeartbeats 4000000 in
theorem specBatch_any (a : Option Addr) (n cap : Nat) (ws : List Wr) (w : World) (hn : ws.length = n) (hm : n ≤ 1048576) (hx : Few ws) (hh : IsWs0 w a ws) :
    Calls Tryd.prog 18 #[.slice a n cap] w fun e w' => e = .returned (.string (str (batchT ws))) ∧ Below w.heap.size w w' := by
  by_cases hr : 1 ≤ n ∧ n ≤ 6
  rotate_left
  · have HE : Hid (batchT ws = []) := by
      show _ = _
      unfold batchT
      rw [if_neg fun h => hr (by rw [← hn]; exact okWs_len h)]
    clear hh hn hx
    have hb : btw (n : Int) 1 6 = false := by
      cases h : btw (n : Int) 1 6
      · rfl
      · exact absurd (by have := btw_bounds h; omega) hr
    go_enter Tryd.func18, Tryd.ntmps18
    go_wp2_with fail
    refine (between_any _ _ _ _).mono ?_
    rintro e w1 ⟨rfl, hw⟩
    subst w1
    rw [hb]
    go_wp2
    go_ret
    exact ⟨by rw [HE.out]; rfl, Below.refl _ _⟩
  have hb : btw (n : Int) 1 6 = true := by unfold btw; simp; omega
  have HH := Lib.hid hh
  have HN := Lib.hid hn
  have HX := Lib.hid hx
  clear hh hn hx
  have z0 : (⟨(Lib.itoa (n : Int)).toArray⟩ : ByteArray).size ≤ 21 := by
    have := Lib.itoa_length_le (n : Int) (by omega) (by omega)
    simpa [ByteArray.size] using this
  have HE0 : Hid ((⟨#[98, 97, 116, 99, 104, 32]⟩ : ByteArray) ++ ⟨(Lib.itoa (n : Int)).toArray⟩ ++ ⟨#[10]⟩ = str (accB ws 0)) := by
    have e1 : (⟨#[98, 97, 116, 99, 104, 32]⟩ : ByteArray) = str [98, 97, 116, 99, 104, 32] := rfl
    have e2 : (⟨(Lib.itoa (n : Int)).toArray⟩ : ByteArray) = str (Lib.itoa (n : Int)) := rfl
    have e3 : (⟨#[10]⟩ : ByteArray) = str [10] := rfl
    show _ = _
    rw [e1, e2, e3, str_add, str_add]
    unfold accB headB
    rw [HN.out]
    simp
  go_enter Tryd.func18, Tryd.ntmps18
  go_wp2_with fail
  refine (between_any _ _ _ _).mono ?_
  rintro e w1 ⟨rfl, hw⟩
  subst w1
  rw [hb]
  clear hb
  go_wp2_with fail
  refine (specNum (n : Int) _ (by omega) (by omega)).mono ?_
  rintro e w1 ⟨rfl, hb1⟩
  have HB1 := Lib.hid hb1
  clear hb1
  obtain ⟨t0, ht0⟩ : ∃ t0 : ByteArray, ⟨(Lib.itoa (n : Int)).toArray⟩ = t0 := ⟨_, rfl⟩
  rw [ht0] at z0 HE0 ⊢
  clear ht0
  have z1 : ((⟨#[98, 97, 116, 99, 104, 32]⟩ : ByteArray) ++ t0).size ≤ 27 := by
    rw [ByteArray.size_append]
    have : (⟨#[98, 97, 116, 99, 104, 32]⟩ : ByteArray).size = 6 := rfl
    omega
  have z2 : ((⟨#[98, 97, 116, 99, 104, 32]⟩ : ByteArray) ++ t0 ++ ⟨#[10]⟩).size ≤ 28 := by
    rw [ByteArray.size_append]
    have : (⟨#[10]⟩ : ByteArray).size = 1 := rfl
    omega
  go_wp2
  go_loopw [3, 4] (fun t i wr => ∃ (j : Nat) (acc : ByteArray), j ≤ n ∧ i = .int .i64 j ∧ t = .string acc ∧ acc.size ≤ 28 + 401 * j ∧ Hid (acc = str (accB ws j)) ∧ Hid (∀ i, i < j → okR (ws.getD i wz) = true) ∧ Hid (Below w.heap.size w wr)) (fun _ i _ => n - (intOf i).toNat)
  case atStart => exact ⟨0, _, Nat.zero_le _, rfl, rfl, by omega, HE0, fun i h => absurd h (Nat.not_lt_zero i), HB1⟩
  case round =>
    clear HE0 HB1 z0 z1 z2
    obtain ⟨j, acc, hj, rfl, rfl, hsz, HA, HO, HB⟩ := hrel
    by_cases hj' : j < n
    · have hjj : j < ws.length := by rw [HN.out]; exact hj'
      have i1 : (0 : Int) ≤ (j : Int) := by omega
      have i2 : (j : Int) < (n : Int) := by omega
      obtain ⟨b, o, rfl, hz, hall⟩ : ∃ b o, a = some ⟨b, o, none⟩ ∧ b < wr.heap.size ∧ ∀ i, i < ws.length → ∃ a' cap, WrAt wr b (o + i * 7) (ws.getD i wz) a' cap ∧ Deps0 wr a' (ws.getD i wz).xs := by
        rcases HH.out.below HB.out with h | h
        · rw [h] at hjj
          simp at hjj
        · exact h
      obtain ⟨ad, cp, ⟨e0, e1, e2, e3, e4, e5, e6⟩, hd⟩ := hall j hjj
      have hxl := HX.out j hjj
      have HD := Lib.hid hd
      have HNX := Lib.hid (accB_next ws hjj)
      have HT4 := Lib.hid (text_400 (x := ws.getD j wz))
      have HIF := Lib.hid (okR_text (x := ws.getD j wz))
      have HNO : Hid (okR (ws.getD j wz) = false → batchT ws = []) := fun h => by
        unfold batchT
        rw [if_neg fun hk => by have := (okWs_iff.1 hk).2 j hjj; rw [h] at this; cases this]
      have HO2 : Hid (okR (ws.getD j wz) = true → ∀ i, i < j + 1 → okR (ws.getD i wz) = true) := fun h i hi => by
        by_cases hij : i < j
        · exact HO.out i hij
        · obtain rfl : i = j := by omega
          exact h
      clear hall hd
      generalize ws.getD j wz = x at *
      obtain ⟨xk, xc, xs', xq, xv, xd, xx⟩ := x
      simp only at e0 e1 e2 e3 e4 e5 e6 hxl HD
      go_wp2_with fail
      refine (specText_gen xk xc xs' xq xv xd ad xx _ cp _ rfl hxl HD.out).mono ?_
      rintro e w2 ⟨rfl, hb⟩
      have HB2 := Lib.hid (below_step HB.out HB.out.size hb)
      clear hb HB HD e0 e1 e2 e3 e4 e5 e6
      have HTX : Hid (textR ⟨xk, xc, xs', xq, xv, xd, xx⟩ = writeText xk xc xs' xq xv xd xx) := rfl
      cases hok : okR ⟨xk, xc, xs', xq, xv, xd, xx⟩
      · have h0 : str (writeText xk xc xs' xq xv xd xx) = ⟨#[]⟩ := by
          rw [← HTX.out, HIF.out.2 hok]
          rfl
        rw [h0]
        have HE := Lib.hid (HNO.out hok)
        clear hok
        go_wp2
        go_ret
        exact ⟨by rw [HE.out]; rfl, HB2.out⟩
      · have HE2 := Lib.hid (HO2.out hok)
        have hne : textR ⟨xk, xc, xs', xq, xv, xd, xx⟩ ≠ [] := fun h => by
          have := HIF.out.1 h
          rw [hok] at this
          cases this
        have h4 := HT4.out
        rw [HTX.out] at hne h4 HNX
        have hs : (str (writeText xk xc xs' xq xv xd xx)).size ≤ 400 := by rw [str_size]; exact h4
        have HNE : Hid (accB ws (j + 1) = accB ws j ++ (writeText xk xc xs' xq xv xd xx ++ [10])) := HNX.out
        have hnl : (str (writeText xk xc xs' xq xv xd xx)).toList.isEmpty = false := by
          rw [ByteArray.toList_eq]
          cases h : writeText xk xc xs' xq xv xd xx with
          | nil => exact absurd h hne
          | cons => rfl
        have HSA : Hid (acc ++ str (writeText xk xc xs' xq xv xd xx) ++ ⟨#[10]⟩ = str (accB ws (j + 1))) := by
          have e3 : (⟨#[10]⟩ : ByteArray) = str [10] := rfl
          show _ = _
          rw [HA.out, e3, str_add, str_add, HNE.out, List.append_assoc]
        clear hok hne h4 HNX HNE HT4 HIF HNO HO2 HTX
        generalize str (writeText xk xc xs' xq xv xd xx) = tx at *
        have y1 : (acc ++ tx).size ≤ 428 + 401 * j := by rw [ByteArray.size_append]; omega
        have y2 : (acc ++ tx ++ ⟨#[10]⟩).size ≤ 28 + 401 * (j + 1) := by
          rw [ByteArray.size_append]
          have : (⟨#[10]⟩ : ByteArray).size = 1 := rfl
          omega
        go_wp2
        exact ⟨⟨j + 1, _, by omega, by go_num, rfl, y2, HSA, HE2, HB2⟩, by simp [intOf]; omega⟩
    · have hjn : j = n := by omega
      subst hjn
      have hacc : acc.size ≤ 3000 := by omega
      have HOK : Hid (okWs ws = true) := okWs_iff.2 ⟨by rw [HN.out]; exact hr, fun i hi => HO.out i (by rw [← HN.out]; exact hi)⟩
      have HBD : Hid (accB ws j = bodyB ws) := by
        show _ = _
        unfold accB bodyB
        rw [List.take_of_length_le (by rw [HN.out]; exact Nat.le_refl _)]
      have HCR : Hid (crcL acc.data.toList = crcL (bodyB ws)) := by
        show _ = _
        rw [HA.out, HBD.out]
        rfl
      have hcb := crcL_bd (bodyB ws)
      have z3 : (acc ++ ⟨#[115, 117, 109, 32]⟩).size ≤ 3004 := by
        rw [ByteArray.size_append]
        have : (⟨#[115, 117, 109, 32]⟩ : ByteArray).size = 4 := rfl
        omega
      have HFE : Hid (acc ++ ⟨#[115, 117, 109, 32]⟩ ++ ⟨(Lib.itoa ((crcL (bodyB ws) : Nat) : Int)).toArray⟩ ++ ⟨#[10]⟩ = str (batchT ws)) := by
        have e1 : (⟨#[115, 117, 109, 32]⟩ : ByteArray) = str [115, 117, 109, 32] := rfl
        have e2 : (⟨(Lib.itoa ((crcL (bodyB ws) : Nat) : Int)).toArray⟩ : ByteArray) = str (Lib.itoa ((crcL (bodyB ws) : Nat) : Int)) := rfl
        have e3 : (⟨#[10]⟩ : ByteArray) = str [10] := rfl
        show _ = _
        unfold batchT
        rw [if_pos HOK.out, HA.out, HBD.out, e1, e2, e3, str_add, str_add, str_add]
        simp [sumB]
      have z4 : (⟨(Lib.itoa ((crcL (bodyB ws) : Nat) : Int)).toArray⟩ : ByteArray).size ≤ 21 := by
        have := Lib.itoa_length_le ((crcL (bodyB ws) : Nat) : Int) (by omega) (by omega)
        simpa [ByteArray.size] using this
      go_wp2_with fail
      refine (specCrc_any acc _ (by omega)).mono ?_
      rintro e w2 ⟨rfl, hw⟩
      subst w2
      rw [HCR.out]
      go_wp2_with fail
      refine (specNum _ _ (by omega) (by omega)).mono ?_
      rintro e w2 ⟨rfl, hb⟩
      have HB2 := Lib.hid (below_step HB.out HB.out.size hb)
      clear hb
      generalize (⟨(Lib.itoa ((crcL (bodyB ws) : Nat) : Int)).toArray⟩ : ByteArray) = tc at *
      have z5 : (acc ++ ⟨#[115, 117, 109, 32]⟩ ++ tc).size ≤ 3100 := by rw [ByteArray.size_append]; omega
      have z6 : (acc ++ ⟨#[115, 117, 109, 32]⟩ ++ tc ++ ⟨#[10]⟩).size ≤ 3200 := by
        rw [ByteArray.size_append]
        have : (⟨#[10]⟩ : ByteArray).size = 1 := rfl
        omega
      go_wp2
      go_ret
      exact ⟨by rw [← HFE.out]; rfl, HB2.out⟩

end Go.Proofs.YtidpcjcnhklmpalDoor

/- The contract of impl.Crc: the same remainder, reckoned in 32 bits. -/
namespace Go.Proofs.YtidpcjcnhklmpalDoor
open Go.ChangeShapes Go.WideShapes Go.ChangeAt Go.RowKit Go.Joins

set_option maxRecDepth 100000 in
set_option maxHeartbeats 2000000 in
theorem crcStep_any (x : Nat) (w : World) (hx : x < 4294967296) :
    Calls Tryd.prog 87 #[.int .u32 (x : Int)] w fun e w' => e = .returned (.int .u32 (crcBits 8 x : Nat)) ∧ w' = w := by
  go_enter Tryd.func87, Tryd.ntmps87
  go_wp2
  go_loopw [0, 4] (fun r i wq => ∃ j : Nat, j ≤ 8 ∧ i = .int .i64 j ∧ r = .int .u32 (crcBits j x : Nat) ∧ wq = w) (fun _ i _ => 8 - (intOf i).toNat)
  case atStart => exact ⟨0, Nat.zero_le _, rfl, rfl, rfl⟩
  case round =>
    obtain ⟨j, hj, rfl, rfl, rfl⟩ := hrel
    by_cases hj' : j < 8
    · have j1 : (j : Int) < 8 := by omega
      have hz := crcBits_bd hx j
      have HS : Hid (crcBits (j + 1) x = crcBit (crcBits j x)) := rfl
      generalize crcBits j x = z at *
      have hz2 : (z / 2 : Nat) < 4294967296 := by omega
      have ha : bits .and .u32 (z : Int) 1 = ((z % 2 : Nat) : Int) := by
        have h := u32_and_nat z 1 hz (by omega)
        rw [nat_mask1] at h
        exact h
      have hx : bits .xor .u32 ((z / 2 : Nat) : Int) 3988292384 = ((z / 2 ^^^ 3988292384 : Nat) : Int) := u32_xor_nat (z / 2) 3988292384 hz2 (by omega)
      by_cases hm : z % 2 = 1
      · have HE : Hid (crcBits (j + 1) x = z / 2 ^^^ 3988292384) := by
          rw [HS.out]
          unfold crcBit
          rw [if_pos hm]
          exact Lib.hid rfl
        go_wp2
        refine ⟨⟨j + 1, by omega, by go_num, ?_, trivial⟩, by simp [intOf]; omega⟩
        have e2 : (z : Int) / 2 = ((z / 2 : Nat) : Int) := by omega
        rw [HE.out, e2, hx]
      · have HE : Hid (crcBits (j + 1) x = z / 2) := by
          rw [HS.out]
          unfold crcBit
          rw [if_neg hm]
          exact Lib.hid rfl
        have hm0 : z % 2 = 0 := by omega
        go_wp2
        refine ⟨⟨j + 1, by omega, by go_num, ?_, trivial⟩, by simp [intOf]; omega⟩
        have e2 : (z : Int) / 2 = ((z / 2 : Nat) : Int) := by omega
        rw [HE.out, e2]
    · have hjj : j = 8 := by omega
      subst hjj
      go_wp2
      go_ret
      exact ⟨rfl, rfl⟩

set_option maxRecDepth 100000 in
set_option maxHeartbeats 2000000 in
theorem implCrc_any (s : ByteArray) (w : World) (hs : s.size ≤ 9223372036854775807) :
    Calls Tryd.prog 67 #[.string s] w fun e w' => e = .returned (.int .i64 (crcL s.data.toList : Nat)) ∧ w' = w := by
  go_enter Tryd.func67, Tryd.ntmps67
  go_wp2
  go_loopw [3, 7] (fun x i wr => ∃ k : Nat, k ≤ s.size ∧ i = .int .i64 k ∧ x = .int .u32 (crcRun (s.data.toList.take k) : Nat) ∧ wr = w) (fun _ i _ => s.size - (intOf i).toNat)
  case atStart => exact ⟨0, Nat.zero_le _, rfl, rfl, rfl⟩
  case round =>
    obtain ⟨k, hk, rfl, rfl, rfl⟩ := hrel
    by_cases hk' : k < s.size
    · have i1 : (0 : Int) ≤ (k : Int) := by omega
      have i2 : (k : Int) < (s.size : Int) := by omega
      have HT := Lib.hid (crcRun_take hk')
      have hb := crcRun_bd (s.data.toList.take k)
      have hc : (s[k].toNat : Nat) < 4294967296 := by have := s[k].toNat_lt; omega
      have hu : s[k].toNat < 256 := UInt8.toNat_lt _
      have hx : bits .xor .u32 ((crcRun (s.data.toList.take k) : Nat) : Int) ((s[k].toNat : Nat) : Int) = ((crcRun (s.data.toList.take k) ^^^ s[k].toNat : Nat) : Int) := u32_xor_nat _ _ hb hc
      have hy := xor32 hb hc
      have HB : Hid (crcByte (crcRun (s.data.toList.take k)) s[k] = crcBits 8 (crcRun (s.data.toList.take k) ^^^ s[k].toNat)) := rfl
      go_wp2_with fail
      refine (crcStep_any _ _ hy).mono ?_
      rintro e w1 ⟨rfl, hw⟩
      subst w1
      go_wp2
      exact ⟨⟨k + 1, by omega, by go_num, by rw [HT.out, HB.out], trivial⟩, by simp [intOf]; omega⟩
    · have hkk : k = s.size := by omega
      subst hkk
      have e : s.data.toList.take s.size = s.data.toList := List.take_of_length_le (by simp)
      rw [e]
      have hb := crcRun_bd s.data.toList
      have hl := crcL_bd s.data.toList
      have hx : bits .xor .u32 ((crcRun s.data.toList : Nat) : Int) 4294967295 = ((crcL s.data.toList : Nat) : Int) := u32_xor_nat _ 4294967295 hb (by omega)
      go_wp2
      go_ret
      exact ⟨rfl, rfl⟩

end Go.Proofs.YtidpcjcnhklmpalDoor

/-
  DERIVED: THE SHELF's CONTRACTS AT THIS DUMP, IN PLAIN WORDS (tools/lay-plain.mjs out of 'TrydShelf.lean', which tools/lay-shelf.mjs wrote): THE SAME DECLARATIONS UNDER THE SAME NAMES: 'import', 'namespace', 'open', 'def', 'theorem' AND NOTHING ELSE: no command of the shelf's: FOR A HAND-IN. Each laying: the table of numbers ('.._ren') and one theorem, a field a fact of the dump's own or the kernel's comparison; each contract: ONE APPLICATION.
-/
namespace Go.Proofs
open Go.Shelf
def Tryd.laysM246_ren : Go.Shelf.Ren := ⟨fun | 246 => 94 | 283 => 102 | 284 => 103 | 285 => 104 | 286 => 105 | 129 => 108 | 317 => 107 | 318 => 109 | 319 => 110 | 320 => 111 | 337 => 112 | 338 => 113 | n => n, fun | 2 => 2 | 3 => 3 | 9 => 9 | 4 => 4 | 171 => 124 | 0 => 0 | 53 => 96 | 37 => 69 | 5 => 5 | 173 => 127 | 212 => 130 | 51 => 112 | 20 => 20 | 213 => 131 | 46 => 114 | 232 => 134 | 233 => 135 | n => n, fun | 17 => 1 | 18 => 2 | 19 => 3 | n => n⟩
theorem Tryd.laysM246 : Go.Proofs.LaysM.n246 Tryd.prog Tryd.laysM246_ren := {
  mixed := by kernel_rfl
  f129 := Tryd.func108.trans (congrArg some (by kernel_rfl))
  f246 := Tryd.func94.trans (congrArg some (by kernel_rfl))
  f283 := Tryd.func102.trans (congrArg some (by kernel_rfl))
  f284 := Tryd.func103.trans (congrArg some (by kernel_rfl))
  f285 := Tryd.func104.trans (congrArg some (by kernel_rfl))
  f286 := Tryd.func105.trans (congrArg some (by kernel_rfl))
  f317 := Tryd.func107.trans (congrArg some (by kernel_rfl))
  f318 := Tryd.func109.trans (congrArg some (by kernel_rfl))
  f319 := Tryd.func110.trans (congrArg some (by kernel_rfl))
  f320 := Tryd.func111.trans (congrArg some (by kernel_rfl))
  f337 := Tryd.func112.trans (congrArg some (by kernel_rfl))
  f338 := Tryd.func113.trans (congrArg some (by kernel_rfl))
  t0 := Tryd.underlying0
  a0 := Tryd.isAgg0
  z0 := Tryd.sizeOf0
  v0 := Tryd.zeroValue0
  t2 := Tryd.underlying2
  a2 := Tryd.isAgg2
  z2 := Tryd.sizeOf2
  v2 := Tryd.zeroValue2
  t3 := Tryd.underlying3
  a3 := Tryd.isAgg3
  z3 := Tryd.sizeOf3
  v3 := Tryd.zeroValue3
  t4 := Tryd.underlying4
  a4 := Tryd.isAgg4
  z4 := Tryd.sizeOf4
  v4 := Tryd.zeroValue4
  t5 := Tryd.underlying5
  a5 := Tryd.isAgg5
  z5 := Tryd.sizeOf5
  v5 := Tryd.zeroValue5
  t9 := Tryd.underlying9
  a9 := Tryd.isAgg9
  z9 := Tryd.sizeOf9
  v9 := Tryd.zeroValue9
  t20 := Tryd.underlying20
  a20 := Tryd.isAgg20
  z20 := Tryd.sizeOf20
  v20 := Tryd.zeroValue20
  t37 := Tryd.underlying69
  a37 := Tryd.isAgg69
  z37 := Tryd.sizeOf69
  v37 := Tryd.zeroValue69
  t46 := Tryd.underlying114
  a46 := Tryd.isAgg114
  z46 := Tryd.sizeOf114
  v46 := Tryd.zeroValue114
  t51 := Tryd.underlying112
  a51 := Tryd.isAgg112
  z51 := Tryd.sizeOf112
  v51 := Tryd.zeroValue112
  t53 := Tryd.underlying96
  a53 := Tryd.isAgg96
  z53 := Tryd.sizeOf96
  v53 := Tryd.zeroValue96
  t171 := Tryd.underlying124
  a171 := Tryd.isAgg124
  z171 := Tryd.sizeOf124
  v171 := Tryd.zeroValue124
  t173 := Tryd.underlying127
  a173 := Tryd.isAgg127
  z173 := Tryd.sizeOf127
  v173 := Tryd.zeroValue127
  t212 := Tryd.underlying130
  a212 := Tryd.isAgg130
  z212 := Tryd.sizeOf130
  v212 := Tryd.zeroValue130
  t213 := Tryd.underlying131
  a213 := Tryd.isAgg131
  z213 := Tryd.sizeOf131
  t232 := Tryd.underlying134
  a232 := Tryd.isAgg134
  z232 := Tryd.sizeOf134
  v232 := Tryd.zeroValue134
  t233 := Tryd.underlying135
  a233 := Tryd.isAgg135
  z233 := Tryd.sizeOf135
  v233 := Tryd.zeroValue135
  g17 := by kernel_rfl
  g18 := by kernel_rfl
  g19 := by kernel_rfl
  i0 := by kernel_rfl
  i2 := by kernel_rfl
  i3 := by kernel_rfl
  i4 := by kernel_rfl
  i5 := by kernel_rfl
  i9 := by kernel_rfl
  i20 := by kernel_rfl
  i37 := by kernel_rfl
  i46 := by kernel_rfl
  i51 := by kernel_rfl
  i53 := by kernel_rfl
  i171 := by kernel_rfl
  i173 := by kernel_rfl
  i212 := by kernel_rfl
  i232 := by kernel_rfl
  i233 := by kernel_rfl
  m17 := by kernel_rfl
  m18 := by kernel_rfl
  m19 := by kernel_rfl }
open Go.RowKit Go.Sort Go.Lib in
/-- internal/strconv.FormatInt: "FormatInt returns the string representation of i in the given base": AT BASE 10: i's decimal numeral, for every int64. The world behind the call: the world before it, new blocks behind the heap, draws. (LAID: no walk: one application.) -/
theorem Tryd.internal_strconv_FormatInt_10 (n : Int) (h0 : -9223372036854775808 ≤ n) (h1 : n ≤ 9223372036854775807) (w : World) (htab : Lib.TabIs Tryd.prog w "internal/strconv.uint64pow10" .u64 Lib.pow10Tab) :
    Calls Tryd.prog 94 #[.int .i64 n, .int .i64 10] w fun e w' => e = .returned (.string ⟨(Lib.itoa n).toArray⟩) ∧ ∃ k os, w' = grow (w.drewN k) os := Any.internal_strconv_FormatInt_10 Tryd.laysM246 n h0 h1 w htab
def Tryd.lays246_ren : Go.Shelf.Ren := ⟨fun | 246 => 94 | 283 => 102 | 284 => 103 | 285 => 104 | 286 => 105 | 129 => 108 | 317 => 107 | 318 => 109 | 319 => 110 | 320 => 111 | 337 => 112 | 338 => 113 | n => n, fun | 2 => 2 | 3 => 3 | 9 => 9 | 4 => 4 | 171 => 124 | 0 => 0 | 53 => 96 | 37 => 69 | 5 => 5 | 173 => 127 | 212 => 130 | 51 => 112 | 20 => 20 | 213 => 131 | 46 => 114 | 232 => 134 | 233 => 135 | n => n, fun | 17 => 1 | 18 => 2 | 19 => 3 | n => n⟩
theorem Tryd.lays246 : Go.Proofs.Lays.n246 Tryd.prog Tryd.lays246_ren := {
  mixed := by kernel_rfl
  f129 := Tryd.func108.trans (congrArg some (by kernel_rfl))
  f246 := Tryd.func94.trans (congrArg some (by kernel_rfl))
  f283 := Tryd.func102.trans (congrArg some (by kernel_rfl))
  f284 := Tryd.func103.trans (congrArg some (by kernel_rfl))
  f285 := Tryd.func104.trans (congrArg some (by kernel_rfl))
  f286 := Tryd.func105.trans (congrArg some (by kernel_rfl))
  f317 := Tryd.func107.trans (congrArg some (by kernel_rfl))
  f318 := Tryd.func109.trans (congrArg some (by kernel_rfl))
  f319 := Tryd.func110.trans (congrArg some (by kernel_rfl))
  f320 := Tryd.func111.trans (congrArg some (by kernel_rfl))
  f337 := Tryd.func112.trans (congrArg some (by kernel_rfl))
  f338 := Tryd.func113.trans (congrArg some (by kernel_rfl))
  t0 := Tryd.underlying0
  a0 := Tryd.isAgg0
  z0 := Tryd.sizeOf0
  v0 := Tryd.zeroValue0
  t2 := Tryd.underlying2
  a2 := Tryd.isAgg2
  z2 := Tryd.sizeOf2
  v2 := Tryd.zeroValue2
  t3 := Tryd.underlying3
  a3 := Tryd.isAgg3
  z3 := Tryd.sizeOf3
  v3 := Tryd.zeroValue3
  t4 := Tryd.underlying4
  a4 := Tryd.isAgg4
  z4 := Tryd.sizeOf4
  v4 := Tryd.zeroValue4
  t5 := Tryd.underlying5
  a5 := Tryd.isAgg5
  z5 := Tryd.sizeOf5
  v5 := Tryd.zeroValue5
  t9 := Tryd.underlying9
  a9 := Tryd.isAgg9
  z9 := Tryd.sizeOf9
  v9 := Tryd.zeroValue9
  t20 := Tryd.underlying20
  a20 := Tryd.isAgg20
  z20 := Tryd.sizeOf20
  v20 := Tryd.zeroValue20
  t37 := Tryd.underlying69
  a37 := Tryd.isAgg69
  z37 := Tryd.sizeOf69
  v37 := Tryd.zeroValue69
  t46 := Tryd.underlying114
  a46 := Tryd.isAgg114
  z46 := Tryd.sizeOf114
  v46 := Tryd.zeroValue114
  t51 := Tryd.underlying112
  a51 := Tryd.isAgg112
  z51 := Tryd.sizeOf112
  v51 := Tryd.zeroValue112
  t53 := Tryd.underlying96
  a53 := Tryd.isAgg96
  z53 := Tryd.sizeOf96
  v53 := Tryd.zeroValue96
  t171 := Tryd.underlying124
  a171 := Tryd.isAgg124
  z171 := Tryd.sizeOf124
  v171 := Tryd.zeroValue124
  t173 := Tryd.underlying127
  a173 := Tryd.isAgg127
  z173 := Tryd.sizeOf127
  v173 := Tryd.zeroValue127
  t212 := Tryd.underlying130
  a212 := Tryd.isAgg130
  z212 := Tryd.sizeOf130
  v212 := Tryd.zeroValue130
  t213 := Tryd.underlying131
  a213 := Tryd.isAgg131
  z213 := Tryd.sizeOf131
  t232 := Tryd.underlying134
  a232 := Tryd.isAgg134
  z232 := Tryd.sizeOf134
  v232 := Tryd.zeroValue134
  t233 := Tryd.underlying135
  a233 := Tryd.isAgg135
  z233 := Tryd.sizeOf135
  v233 := Tryd.zeroValue135
  g17 := by kernel_rfl
  g18 := by kernel_rfl
  g19 := by kernel_rfl }
open Go.RowKit Go.Sort Go.Lib in
/-- THE ROAD WITHOUT THE TABLE: 0 <= i < 100: two constants are read, nothing is laid: no premise on the world, and the world is as it was. (LAID: no walk: one application.) -/
theorem Tryd.internal_strconv_FormatInt_10_small (i : Nat) (hi : i < 100) (w : World) :
    Calls Tryd.prog 94 #[.int .i64 i, .int .i64 10] w fun e w' => e = .returned (.string ⟨(Lib.decDigits i).toArray⟩) ∧ w' = w := Any.internal_strconv_FormatInt_10_small Tryd.lays246 i hi w
def Tryd.laysM243_ren : Go.Shelf.Ren := ⟨fun | 243 => 88 | 246 => 94 | 283 => 102 | 284 => 103 | 285 => 104 | 286 => 105 | 129 => 108 | 317 => 107 | 318 => 109 | 319 => 110 | 320 => 111 | 337 => 112 | 338 => 113 | n => n, fun | 3 => 3 | 9 => 9 | 2 => 2 | 4 => 4 | 171 => 124 | 0 => 0 | 53 => 96 | 37 => 69 | 5 => 5 | 173 => 127 | 212 => 130 | 51 => 112 | 20 => 20 | 213 => 131 | 46 => 114 | 232 => 134 | 233 => 135 | n => n, fun | 17 => 1 | 18 => 2 | 19 => 3 | n => n⟩
theorem Tryd.laysM243 : Go.Proofs.LaysM.n243 Tryd.prog Tryd.laysM243_ren := {
  mixed := by kernel_rfl
  f129 := Tryd.func108.trans (congrArg some (by kernel_rfl))
  f243 := Tryd.func88.trans (congrArg some (by kernel_rfl))
  f246 := Tryd.func94.trans (congrArg some (by kernel_rfl))
  f283 := Tryd.func102.trans (congrArg some (by kernel_rfl))
  f284 := Tryd.func103.trans (congrArg some (by kernel_rfl))
  f285 := Tryd.func104.trans (congrArg some (by kernel_rfl))
  f286 := Tryd.func105.trans (congrArg some (by kernel_rfl))
  f317 := Tryd.func107.trans (congrArg some (by kernel_rfl))
  f318 := Tryd.func109.trans (congrArg some (by kernel_rfl))
  f319 := Tryd.func110.trans (congrArg some (by kernel_rfl))
  f320 := Tryd.func111.trans (congrArg some (by kernel_rfl))
  f337 := Tryd.func112.trans (congrArg some (by kernel_rfl))
  f338 := Tryd.func113.trans (congrArg some (by kernel_rfl))
  t0 := Tryd.underlying0
  a0 := Tryd.isAgg0
  z0 := Tryd.sizeOf0
  v0 := Tryd.zeroValue0
  t2 := Tryd.underlying2
  a2 := Tryd.isAgg2
  z2 := Tryd.sizeOf2
  v2 := Tryd.zeroValue2
  t3 := Tryd.underlying3
  a3 := Tryd.isAgg3
  z3 := Tryd.sizeOf3
  v3 := Tryd.zeroValue3
  t4 := Tryd.underlying4
  a4 := Tryd.isAgg4
  z4 := Tryd.sizeOf4
  v4 := Tryd.zeroValue4
  t5 := Tryd.underlying5
  a5 := Tryd.isAgg5
  z5 := Tryd.sizeOf5
  v5 := Tryd.zeroValue5
  t9 := Tryd.underlying9
  a9 := Tryd.isAgg9
  z9 := Tryd.sizeOf9
  v9 := Tryd.zeroValue9
  t20 := Tryd.underlying20
  a20 := Tryd.isAgg20
  z20 := Tryd.sizeOf20
  v20 := Tryd.zeroValue20
  t37 := Tryd.underlying69
  a37 := Tryd.isAgg69
  z37 := Tryd.sizeOf69
  v37 := Tryd.zeroValue69
  t46 := Tryd.underlying114
  a46 := Tryd.isAgg114
  z46 := Tryd.sizeOf114
  v46 := Tryd.zeroValue114
  t51 := Tryd.underlying112
  a51 := Tryd.isAgg112
  z51 := Tryd.sizeOf112
  v51 := Tryd.zeroValue112
  t53 := Tryd.underlying96
  a53 := Tryd.isAgg96
  z53 := Tryd.sizeOf96
  v53 := Tryd.zeroValue96
  t171 := Tryd.underlying124
  a171 := Tryd.isAgg124
  z171 := Tryd.sizeOf124
  v171 := Tryd.zeroValue124
  t173 := Tryd.underlying127
  a173 := Tryd.isAgg127
  z173 := Tryd.sizeOf127
  v173 := Tryd.zeroValue127
  t212 := Tryd.underlying130
  a212 := Tryd.isAgg130
  z212 := Tryd.sizeOf130
  v212 := Tryd.zeroValue130
  t213 := Tryd.underlying131
  a213 := Tryd.isAgg131
  z213 := Tryd.sizeOf131
  t232 := Tryd.underlying134
  a232 := Tryd.isAgg134
  z232 := Tryd.sizeOf134
  v232 := Tryd.zeroValue134
  t233 := Tryd.underlying135
  a233 := Tryd.isAgg135
  z233 := Tryd.sizeOf135
  v233 := Tryd.zeroValue135
  g17 := by kernel_rfl
  g18 := by kernel_rfl
  g19 := by kernel_rfl
  i0 := by kernel_rfl
  i2 := by kernel_rfl
  i3 := by kernel_rfl
  i4 := by kernel_rfl
  i5 := by kernel_rfl
  i9 := by kernel_rfl
  i20 := by kernel_rfl
  i37 := by kernel_rfl
  i46 := by kernel_rfl
  i51 := by kernel_rfl
  i53 := by kernel_rfl
  i171 := by kernel_rfl
  i173 := by kernel_rfl
  i212 := by kernel_rfl
  i232 := by kernel_rfl
  i233 := by kernel_rfl
  m17 := by kernel_rfl
  m18 := by kernel_rfl
  m19 := by kernel_rfl }
open Go.RowKit Go.Sort Go.Lib in
/-- internal/strconv.Itoa: "Itoa is equivalent to FormatInt(int64(i), 10).": i's decimal numeral, for every int. (LAID: no walk: one application.) -/
theorem Tryd.internal_strconv_Itoa (n : Int) (h0 : -9223372036854775808 ≤ n) (h1 : n ≤ 9223372036854775807) (w : World) (htab : Lib.TabIs Tryd.prog w "internal/strconv.uint64pow10" .u64 Lib.pow10Tab) :
    Calls Tryd.prog 88 #[.int .i64 n] w fun e w' => e = .returned (.string ⟨(Lib.itoa n).toArray⟩) ∧ ∃ k os, w' = grow (w.drewN k) os := Any.internal_strconv_Itoa Tryd.laysM243 n h0 h1 w htab
def Tryd.lays243_ren : Go.Shelf.Ren := ⟨fun | 243 => 88 | 246 => 94 | 283 => 102 | 284 => 103 | 285 => 104 | 286 => 105 | 129 => 108 | 317 => 107 | 318 => 109 | 319 => 110 | 320 => 111 | 337 => 112 | 338 => 113 | n => n, fun | 3 => 3 | 9 => 9 | 2 => 2 | 4 => 4 | 171 => 124 | 0 => 0 | 53 => 96 | 37 => 69 | 5 => 5 | 173 => 127 | 212 => 130 | 51 => 112 | 20 => 20 | 213 => 131 | 46 => 114 | 232 => 134 | 233 => 135 | n => n, fun | 17 => 1 | 18 => 2 | 19 => 3 | n => n⟩
theorem Tryd.lays243 : Go.Proofs.Lays.n243 Tryd.prog Tryd.lays243_ren := {
  mixed := by kernel_rfl
  f129 := Tryd.func108.trans (congrArg some (by kernel_rfl))
  f243 := Tryd.func88.trans (congrArg some (by kernel_rfl))
  f246 := Tryd.func94.trans (congrArg some (by kernel_rfl))
  f283 := Tryd.func102.trans (congrArg some (by kernel_rfl))
  f284 := Tryd.func103.trans (congrArg some (by kernel_rfl))
  f285 := Tryd.func104.trans (congrArg some (by kernel_rfl))
  f286 := Tryd.func105.trans (congrArg some (by kernel_rfl))
  f317 := Tryd.func107.trans (congrArg some (by kernel_rfl))
  f318 := Tryd.func109.trans (congrArg some (by kernel_rfl))
  f319 := Tryd.func110.trans (congrArg some (by kernel_rfl))
  f320 := Tryd.func111.trans (congrArg some (by kernel_rfl))
  f337 := Tryd.func112.trans (congrArg some (by kernel_rfl))
  f338 := Tryd.func113.trans (congrArg some (by kernel_rfl))
  t0 := Tryd.underlying0
  a0 := Tryd.isAgg0
  z0 := Tryd.sizeOf0
  v0 := Tryd.zeroValue0
  t2 := Tryd.underlying2
  a2 := Tryd.isAgg2
  z2 := Tryd.sizeOf2
  v2 := Tryd.zeroValue2
  t3 := Tryd.underlying3
  a3 := Tryd.isAgg3
  z3 := Tryd.sizeOf3
  v3 := Tryd.zeroValue3
  t4 := Tryd.underlying4
  a4 := Tryd.isAgg4
  z4 := Tryd.sizeOf4
  v4 := Tryd.zeroValue4
  t5 := Tryd.underlying5
  a5 := Tryd.isAgg5
  z5 := Tryd.sizeOf5
  v5 := Tryd.zeroValue5
  t9 := Tryd.underlying9
  a9 := Tryd.isAgg9
  z9 := Tryd.sizeOf9
  v9 := Tryd.zeroValue9
  t20 := Tryd.underlying20
  a20 := Tryd.isAgg20
  z20 := Tryd.sizeOf20
  v20 := Tryd.zeroValue20
  t37 := Tryd.underlying69
  a37 := Tryd.isAgg69
  z37 := Tryd.sizeOf69
  v37 := Tryd.zeroValue69
  t46 := Tryd.underlying114
  a46 := Tryd.isAgg114
  z46 := Tryd.sizeOf114
  v46 := Tryd.zeroValue114
  t51 := Tryd.underlying112
  a51 := Tryd.isAgg112
  z51 := Tryd.sizeOf112
  v51 := Tryd.zeroValue112
  t53 := Tryd.underlying96
  a53 := Tryd.isAgg96
  z53 := Tryd.sizeOf96
  v53 := Tryd.zeroValue96
  t171 := Tryd.underlying124
  a171 := Tryd.isAgg124
  z171 := Tryd.sizeOf124
  v171 := Tryd.zeroValue124
  t173 := Tryd.underlying127
  a173 := Tryd.isAgg127
  z173 := Tryd.sizeOf127
  v173 := Tryd.zeroValue127
  t212 := Tryd.underlying130
  a212 := Tryd.isAgg130
  z212 := Tryd.sizeOf130
  v212 := Tryd.zeroValue130
  t213 := Tryd.underlying131
  a213 := Tryd.isAgg131
  z213 := Tryd.sizeOf131
  t232 := Tryd.underlying134
  a232 := Tryd.isAgg134
  z232 := Tryd.sizeOf134
  v232 := Tryd.zeroValue134
  t233 := Tryd.underlying135
  a233 := Tryd.isAgg135
  z233 := Tryd.sizeOf135
  v233 := Tryd.zeroValue135
  g17 := by kernel_rfl
  g18 := by kernel_rfl
  g19 := by kernel_rfl }
open Go.RowKit Go.Sort Go.Lib in
/-- THE ROAD WITHOUT THE TABLE: 0 <= i < 100. (LAID: no walk: one application.) -/
theorem Tryd.internal_strconv_Itoa_small (i : Nat) (hi : i < 100) (w : World) :
    Calls Tryd.prog 88 #[.int .i64 i] w fun e w' => e = .returned (.string ⟨(Lib.decDigits i).toArray⟩) ∧ w' = w := Any.internal_strconv_Itoa_small Tryd.lays243 i hi w
def Tryd.laysM171_ren : Go.Shelf.Ren := ⟨fun | 171 => 78 | 243 => 88 | 246 => 94 | 283 => 102 | 284 => 103 | 285 => 104 | 286 => 105 | 129 => 108 | 317 => 107 | 318 => 109 | 319 => 110 | 320 => 111 | 337 => 112 | 338 => 113 | n => n, fun | 3 => 3 | 9 => 9 | 2 => 2 | 4 => 4 | 171 => 124 | 0 => 0 | 53 => 96 | 37 => 69 | 5 => 5 | 173 => 127 | 212 => 130 | 51 => 112 | 20 => 20 | 213 => 131 | 46 => 114 | 232 => 134 | 233 => 135 | n => n, fun | 17 => 1 | 18 => 2 | 19 => 3 | n => n⟩
theorem Tryd.laysM171 : Go.Proofs.LaysM.n171 Tryd.prog Tryd.laysM171_ren := {
  mixed := by kernel_rfl
  f129 := Tryd.func108.trans (congrArg some (by kernel_rfl))
  f171 := Tryd.func78.trans (congrArg some (by kernel_rfl))
  f243 := Tryd.func88.trans (congrArg some (by kernel_rfl))
  f246 := Tryd.func94.trans (congrArg some (by kernel_rfl))
  f283 := Tryd.func102.trans (congrArg some (by kernel_rfl))
  f284 := Tryd.func103.trans (congrArg some (by kernel_rfl))
  f285 := Tryd.func104.trans (congrArg some (by kernel_rfl))
  f286 := Tryd.func105.trans (congrArg some (by kernel_rfl))
  f317 := Tryd.func107.trans (congrArg some (by kernel_rfl))
  f318 := Tryd.func109.trans (congrArg some (by kernel_rfl))
  f319 := Tryd.func110.trans (congrArg some (by kernel_rfl))
  f320 := Tryd.func111.trans (congrArg some (by kernel_rfl))
  f337 := Tryd.func112.trans (congrArg some (by kernel_rfl))
  f338 := Tryd.func113.trans (congrArg some (by kernel_rfl))
  t0 := Tryd.underlying0
  a0 := Tryd.isAgg0
  z0 := Tryd.sizeOf0
  v0 := Tryd.zeroValue0
  t2 := Tryd.underlying2
  a2 := Tryd.isAgg2
  z2 := Tryd.sizeOf2
  v2 := Tryd.zeroValue2
  t3 := Tryd.underlying3
  a3 := Tryd.isAgg3
  z3 := Tryd.sizeOf3
  v3 := Tryd.zeroValue3
  t4 := Tryd.underlying4
  a4 := Tryd.isAgg4
  z4 := Tryd.sizeOf4
  v4 := Tryd.zeroValue4
  t5 := Tryd.underlying5
  a5 := Tryd.isAgg5
  z5 := Tryd.sizeOf5
  v5 := Tryd.zeroValue5
  t9 := Tryd.underlying9
  a9 := Tryd.isAgg9
  z9 := Tryd.sizeOf9
  v9 := Tryd.zeroValue9
  t20 := Tryd.underlying20
  a20 := Tryd.isAgg20
  z20 := Tryd.sizeOf20
  v20 := Tryd.zeroValue20
  t37 := Tryd.underlying69
  a37 := Tryd.isAgg69
  z37 := Tryd.sizeOf69
  v37 := Tryd.zeroValue69
  t46 := Tryd.underlying114
  a46 := Tryd.isAgg114
  z46 := Tryd.sizeOf114
  v46 := Tryd.zeroValue114
  t51 := Tryd.underlying112
  a51 := Tryd.isAgg112
  z51 := Tryd.sizeOf112
  v51 := Tryd.zeroValue112
  t53 := Tryd.underlying96
  a53 := Tryd.isAgg96
  z53 := Tryd.sizeOf96
  v53 := Tryd.zeroValue96
  t171 := Tryd.underlying124
  a171 := Tryd.isAgg124
  z171 := Tryd.sizeOf124
  v171 := Tryd.zeroValue124
  t173 := Tryd.underlying127
  a173 := Tryd.isAgg127
  z173 := Tryd.sizeOf127
  v173 := Tryd.zeroValue127
  t212 := Tryd.underlying130
  a212 := Tryd.isAgg130
  z212 := Tryd.sizeOf130
  v212 := Tryd.zeroValue130
  t213 := Tryd.underlying131
  a213 := Tryd.isAgg131
  z213 := Tryd.sizeOf131
  t232 := Tryd.underlying134
  a232 := Tryd.isAgg134
  z232 := Tryd.sizeOf134
  v232 := Tryd.zeroValue134
  t233 := Tryd.underlying135
  a233 := Tryd.isAgg135
  z233 := Tryd.sizeOf135
  v233 := Tryd.zeroValue135
  g17 := by kernel_rfl
  g18 := by kernel_rfl
  g19 := by kernel_rfl
  i0 := by kernel_rfl
  i2 := by kernel_rfl
  i3 := by kernel_rfl
  i4 := by kernel_rfl
  i5 := by kernel_rfl
  i9 := by kernel_rfl
  i20 := by kernel_rfl
  i37 := by kernel_rfl
  i46 := by kernel_rfl
  i51 := by kernel_rfl
  i53 := by kernel_rfl
  i171 := by kernel_rfl
  i173 := by kernel_rfl
  i212 := by kernel_rfl
  i232 := by kernel_rfl
  i233 := by kernel_rfl
  m17 := by kernel_rfl
  m18 := by kernel_rfl
  m19 := by kernel_rfl }
open Go.RowKit Go.Sort Go.Lib in
/-- strconv.Itoa: "Itoa is equivalent to FormatInt(int64(i), 10).": i's DECIMAL NUMERAL ('Lib.itoa': a '-' where i is negative, then the digits), FOR EVERY int. The world behind the call: the world before it, new blocks behind the heap (the library's 'var a [24]byte'), draws. (LAID: no walk: one application.) -/
theorem Tryd.strconv_Itoa (n : Int) (h0 : -9223372036854775808 ≤ n) (h1 : n ≤ 9223372036854775807) (w : World) (htab : Lib.TabIs Tryd.prog w "internal/strconv.uint64pow10" .u64 Lib.pow10Tab) :
    Calls Tryd.prog 78 #[.int .i64 n] w fun e w' => e = .returned (.string ⟨(Lib.itoa n).toArray⟩) ∧ ∃ k os, w' = grow (w.drewN k) os := Any.strconv_Itoa Tryd.laysM171 n h0 h1 w htab
def Tryd.lays171_ren : Go.Shelf.Ren := ⟨fun | 171 => 78 | 243 => 88 | 246 => 94 | 283 => 102 | 284 => 103 | 285 => 104 | 286 => 105 | 129 => 108 | 317 => 107 | 318 => 109 | 319 => 110 | 320 => 111 | 337 => 112 | 338 => 113 | n => n, fun | 3 => 3 | 9 => 9 | 2 => 2 | 4 => 4 | 171 => 124 | 0 => 0 | 53 => 96 | 37 => 69 | 5 => 5 | 173 => 127 | 212 => 130 | 51 => 112 | 20 => 20 | 213 => 131 | 46 => 114 | 232 => 134 | 233 => 135 | n => n, fun | 17 => 1 | 18 => 2 | 19 => 3 | n => n⟩
theorem Tryd.lays171 : Go.Proofs.Lays.n171 Tryd.prog Tryd.lays171_ren := {
  mixed := by kernel_rfl
  f129 := Tryd.func108.trans (congrArg some (by kernel_rfl))
  f171 := Tryd.func78.trans (congrArg some (by kernel_rfl))
  f243 := Tryd.func88.trans (congrArg some (by kernel_rfl))
  f246 := Tryd.func94.trans (congrArg some (by kernel_rfl))
  f283 := Tryd.func102.trans (congrArg some (by kernel_rfl))
  f284 := Tryd.func103.trans (congrArg some (by kernel_rfl))
  f285 := Tryd.func104.trans (congrArg some (by kernel_rfl))
  f286 := Tryd.func105.trans (congrArg some (by kernel_rfl))
  f317 := Tryd.func107.trans (congrArg some (by kernel_rfl))
  f318 := Tryd.func109.trans (congrArg some (by kernel_rfl))
  f319 := Tryd.func110.trans (congrArg some (by kernel_rfl))
  f320 := Tryd.func111.trans (congrArg some (by kernel_rfl))
  f337 := Tryd.func112.trans (congrArg some (by kernel_rfl))
  f338 := Tryd.func113.trans (congrArg some (by kernel_rfl))
  t0 := Tryd.underlying0
  a0 := Tryd.isAgg0
  z0 := Tryd.sizeOf0
  v0 := Tryd.zeroValue0
  t2 := Tryd.underlying2
  a2 := Tryd.isAgg2
  z2 := Tryd.sizeOf2
  v2 := Tryd.zeroValue2
  t3 := Tryd.underlying3
  a3 := Tryd.isAgg3
  z3 := Tryd.sizeOf3
  v3 := Tryd.zeroValue3
  t4 := Tryd.underlying4
  a4 := Tryd.isAgg4
  z4 := Tryd.sizeOf4
  v4 := Tryd.zeroValue4
  t5 := Tryd.underlying5
  a5 := Tryd.isAgg5
  z5 := Tryd.sizeOf5
  v5 := Tryd.zeroValue5
  t9 := Tryd.underlying9
  a9 := Tryd.isAgg9
  z9 := Tryd.sizeOf9
  v9 := Tryd.zeroValue9
  t20 := Tryd.underlying20
  a20 := Tryd.isAgg20
  z20 := Tryd.sizeOf20
  v20 := Tryd.zeroValue20
  t37 := Tryd.underlying69
  a37 := Tryd.isAgg69
  z37 := Tryd.sizeOf69
  v37 := Tryd.zeroValue69
  t46 := Tryd.underlying114
  a46 := Tryd.isAgg114
  z46 := Tryd.sizeOf114
  v46 := Tryd.zeroValue114
  t51 := Tryd.underlying112
  a51 := Tryd.isAgg112
  z51 := Tryd.sizeOf112
  v51 := Tryd.zeroValue112
  t53 := Tryd.underlying96
  a53 := Tryd.isAgg96
  z53 := Tryd.sizeOf96
  v53 := Tryd.zeroValue96
  t171 := Tryd.underlying124
  a171 := Tryd.isAgg124
  z171 := Tryd.sizeOf124
  v171 := Tryd.zeroValue124
  t173 := Tryd.underlying127
  a173 := Tryd.isAgg127
  z173 := Tryd.sizeOf127
  v173 := Tryd.zeroValue127
  t212 := Tryd.underlying130
  a212 := Tryd.isAgg130
  z212 := Tryd.sizeOf130
  v212 := Tryd.zeroValue130
  t213 := Tryd.underlying131
  a213 := Tryd.isAgg131
  z213 := Tryd.sizeOf131
  t232 := Tryd.underlying134
  a232 := Tryd.isAgg134
  z232 := Tryd.sizeOf134
  v232 := Tryd.zeroValue134
  t233 := Tryd.underlying135
  a233 := Tryd.isAgg135
  z233 := Tryd.sizeOf135
  v233 := Tryd.zeroValue135
  g17 := by kernel_rfl
  g18 := by kernel_rfl
  g19 := by kernel_rfl }
open Go.RowKit Go.Sort Go.Lib in
/-- THE ROAD WITHOUT THE TABLE: 0 <= i < 100: NO PREMISE ON THE WORLD, AND THE WORLD IS AS IT WAS: a row that keeps its argument in that range need list no table ('laid = []'). (LAID: no walk: one application.) -/
theorem Tryd.strconv_Itoa_small (i : Nat) (hi : i < 100) (w : World) :
    Calls Tryd.prog 78 #[.int .i64 i] w fun e w' => e = .returned (.string ⟨(Lib.decDigits i).toArray⟩) ∧ w' = w := Any.strconv_Itoa_small Tryd.lays171 i hi w
end Go.Proofs

/- The program's number's text: impl.NumText gives the decimal numeral, where the library's table of powers of ten lies as its initialiser lays it. -/
namespace Go.Proofs.YtidpcjcnhklmpalDoor
open Go.ChangeShapes Go.WideShapes Go.ChangeAt Go.RowKit Go.Joins

def Tab (w : World) : Prop := Lib.TabIs Tryd.prog w "internal/strconv.uint64pow10" .u64 Lib.pow10Tab

theorem gPow : Tryd.prog.globalNamed "internal/strconv.uint64pow10" = some 1 := by kernel_rfl

theorem grown_below (w : World) (k : Nat) (os : Array Obj) : Below w.heap.size w (Sort.grow (w.drewN k) os) :=
  ⟨rfl, rfl, rfl, by simp [Sort.grow], fun j hj => by
    have hj' : j < (w.drewN k).heap.size := hj
    show ((w.drewN k).heap ++ os)[j]? = w.heap[j]?
    rw [Array.getElem?_append_left hj']
    rfl⟩

theorem Tab.below {w w' : World} {B : Nat} (h : Tab w) (hb : Below B w w') (hB : 1 < B) : Tab w' := by
  unfold Tab Lib.TabIs at h ⊢
  rw [← h]
  unfold World.var?
  simp only [gPow, Option.bind_some]
  rw [hb.block _ hB]

theorem Tab.lt {w : World} (h : Tab w) : 1 < w.heap.size := by
  have := h.cell gPow 0 (by simp [Lib.pow10Tab])
  exact block_lt_of_cell this

set_option maxRecDepth 100000 in
theorem implNum (n : Int) (w : World) (h0 : -9223372036854775808 ≤ n) (h1 : n ≤ 9223372036854775807) (ht : Tab w) :
    Calls Tryd.prog 53 #[.int .i64 n] w fun e w' => e = .returned (.string ⟨(Lib.itoa n).toArray⟩) ∧ Below w.heap.size w w' := by
  have HT : Hid (Tab w) := ht
  clear ht
  go_enter Tryd.func53, Tryd.ntmps53
  go_wp2_with fail
  refine (Tryd.strconv_Itoa n h0 h1 _ HT.out).mono ?_
  rintro e w1 ⟨rfl, k, os, rfl⟩
  have HB := Lib.hid (grown_below w k os)
  generalize Sort.grow (w.drewN k) os = w2 at HB ⊢
  go_wp2
  go_ret
  exact ⟨rfl, HB.out⟩
end Go.Proofs.YtidpcjcnhklmpalDoor

/- The lines of a batch's head and of its sum: the contracts of impl.headLine and impl.sumLine. -/
namespace Go.Proofs.YtidpcjcnhklmpalDoor
open Go.ChangeShapes Go.WideShapes Go.ChangeAt Go.RowKit Go.Joins
attribute [local go_sem ↓] Go.wp_at_zero Go.wp_at_succ

set_option maxRecDepth 100000 in
set_option maxHeartbeats 2000000 in
theorem headLine_any (n : Nat) (w : World) (hn : n ≤ 6) (ht : Tab w) :
    Calls Tryd.prog 43 #[.int .i64 (n : Int)] w fun e w' => e = .returned (.string (str (headB n ++ [10]))) ∧ Below w.heap.size w w' := by
  have HE : Hid ((⟨#[98, 97, 116, 99, 104, 32]⟩ : ByteArray) ++ ⟨(Lib.itoa (n : Int)).toArray⟩ ++ ⟨#[10]⟩ = str (headB n ++ [10])) := by
    have e1 : (⟨#[98, 97, 116, 99, 104, 32]⟩ : ByteArray) = str [98, 97, 116, 99, 104, 32] := rfl
    have e2 : (⟨(Lib.itoa (n : Int)).toArray⟩ : ByteArray) = str (Lib.itoa (n : Int)) := rfl
    have e3 : (⟨#[10]⟩ : ByteArray) = str [10] := rfl
    show _ = _
    rw [e1, e2, e3, str_add, str_add]
    rfl
  have z0 : (⟨(Lib.itoa (n : Int)).toArray⟩ : ByteArray).size ≤ 21 := by
    have := Lib.itoa_length_le (n : Int) (by omega) (by omega)
    simpa [ByteArray.size] using this
  have HT := Lib.hid ht
  clear ht
  go_enter Tryd.func43, Tryd.ntmps43
  go_wp2_with fail
  refine (implNum (n : Int) _ (by omega) (by omega) HT.out).mono ?_
  rintro e w1 ⟨rfl, hb⟩
  have HB := Lib.hid hb
  clear hb
  generalize (⟨(Lib.itoa (n : Int)).toArray⟩ : ByteArray) = t0 at *
  have z1 : ((⟨#[98, 97, 116, 99, 104, 32]⟩ : ByteArray) ++ t0).size ≤ 27 := by
    rw [ByteArray.size_append]
    have : (⟨#[98, 97, 116, 99, 104, 32]⟩ : ByteArray).size = 6 := rfl
    omega
  have z2 : ((⟨#[98, 97, 116, 99, 104, 32]⟩ : ByteArray) ++ t0 ++ ⟨#[10]⟩).size ≤ 28 := by
    rw [ByteArray.size_append]
    have : (⟨#[10]⟩ : ByteArray).size = 1 := rfl
    omega
  go_wp2
  go_ret
  exact ⟨by rw [← HE.out]; rfl, HB.out⟩

/-- The line of the sum of this text. -/
def sumL (bs : List UInt8) : List UInt8 := [115, 117, 109, 32] ++ Lib.itoa (crcL bs : Int)

set_option maxRecDepth 100000 in
theorem sumL_size (bs : List UInt8) : (sumL bs).length ≤ 25 := by
  have h := crcL_bd bs
  have := Lib.itoa_length_le ((crcL bs : Nat) : Int) (by omega) (by omega)
  unfold sumL
  simp
  omega

set_option maxRecDepth 100000 in
set_option maxHeartbeats 2000000 in
theorem sumLine_any (s : ByteArray) (w : World) (hs : s.size ≤ 1048576) (ht : Tab w) :
    Calls Tryd.prog 45 #[.string s] w fun e w' => e = .returned (.string (str (sumL s.data.toList ++ [10]))) ∧ Below w.heap.size w w' := by
  have hcb := crcL_bd s.data.toList
  have HE : Hid ((⟨#[115, 117, 109, 32]⟩ : ByteArray) ++ ⟨(Lib.itoa ((crcL s.data.toList : Nat) : Int)).toArray⟩ ++ ⟨#[10]⟩ = str (sumL s.data.toList ++ [10])) := by
    have e1 : (⟨#[115, 117, 109, 32]⟩ : ByteArray) = str [115, 117, 109, 32] := rfl
    have e2 : (⟨(Lib.itoa ((crcL s.data.toList : Nat) : Int)).toArray⟩ : ByteArray) = str (Lib.itoa ((crcL s.data.toList : Nat) : Int)) := rfl
    have e3 : (⟨#[10]⟩ : ByteArray) = str [10] := rfl
    show _ = _
    rw [e1, e2, e3, str_add, str_add]
    rfl
  have z0 : (⟨(Lib.itoa ((crcL s.data.toList : Nat) : Int)).toArray⟩ : ByteArray).size ≤ 21 := by
    have := Lib.itoa_length_le ((crcL s.data.toList : Nat) : Int) (by omega) (by omega)
    simpa [ByteArray.size] using this
  have HT := Lib.hid ht
  clear ht
  go_enter Tryd.func45, Tryd.ntmps45
  go_wp2_with fail
  refine (implCrc_any s _ (by omega)).mono ?_
  rintro e w1 ⟨rfl, hw⟩
  subst w1
  go_wp2_with fail
  refine (implNum ((crcL s.data.toList : Nat) : Int) _ (by omega) (by omega) HT.out).mono ?_
  rintro e w1 ⟨rfl, hb⟩
  have HB := Lib.hid hb
  clear hb
  generalize (⟨(Lib.itoa ((crcL s.data.toList : Nat) : Int)).toArray⟩ : ByteArray) = t0 at *
  have z1 : ((⟨#[115, 117, 109, 32]⟩ : ByteArray) ++ t0).size ≤ 25 := by
    rw [ByteArray.size_append]
    have : (⟨#[115, 117, 109, 32]⟩ : ByteArray).size = 4 := rfl
    omega
  have z2 : ((⟨#[115, 117, 109, 32]⟩ : ByteArray) ++ t0 ++ ⟨#[10]⟩).size ≤ 26 := by
    rw [ByteArray.size_append]
    have : (⟨#[10]⟩ : ByteArray).size = 1 := rfl
    omega
  go_wp2
  go_ret
  exact ⟨by rw [← HE.out]; rfl, HB.out⟩

end Go.Proofs.YtidpcjcnhklmpalDoor

/- The contract of the specification's l02Copy. -/
namespace Go.Proofs.YtidpcjcnhklmpalDoor
open Go.ChangeShapes Go.WideShapes Go.ChangeAt Go.RowKit Go.Joins
attribute [local go_sem ↓] Go.wp_at_zero Go.wp_at_succ

def depVals (xs : List Dp) : List Value := (List.range (xs.length * 4)).map fun j => .int .i64 (depCell xs j)

theorem depVals_len (xs : List Dp) : (depVals xs).length = xs.length * 4 := by simp [depVals]

theorem holds_cells {w : World} {b o : Nat} {xs : List Dp} (h : HoldsDeps w b o xs) {j : Nat} (hj : j < xs.length * 4) : w.cell? ⟨b, o + j, none⟩ = some (.int .i64 (depCell xs j)) := by
  obtain ⟨h0, h1, h2, h3⟩ := h (j / 4) (by omega)
  have h4 : j % 4 = 0 ∨ j % 4 = 1 ∨ j % 4 = 2 ∨ j % 4 = 3 := by omega
  rcases h4 with e | e | e | e
  · rw [show j = j / 4 * 4 by omega, depCell0]
    exact h0
  · rw [show j = j / 4 * 4 + 1 by omega, depCell1, ← Nat.add_assoc]
    exact h1
  · rw [show j = j / 4 * 4 + 2 by omega, depCell2, ← Nat.add_assoc]
    exact h2
  · rw [show j = j / 4 * 4 + 3 by omega, depCell3, ← Nat.add_assoc]
    exact h3

theorem holds_of_cells {w : World} {b : Nat} {xs : List Dp} (h : ∀ j, j < xs.length * 4 → w.cell? ⟨b, j, none⟩ = some (.int .i64 (depCell xs j))) : HoldsDeps w b 0 xs := by
  intro i hi
  rw [Nat.zero_add]
  refine ⟨?_, ?_, ?_, ?_⟩
  · rw [h _ (by omega), depCell0]
  · rw [h _ (by omega), depCell1]
  · rw [h _ (by omega), depCell2]
  · rw [h _ (by omega), depCell3]

theorem depVals_cells {w : World} {b o : Nat} {xs : List Dp} (h : HoldsDeps w b o xs) : ∀ j u, (depVals xs)[j]? = some u → w.cell? ((⟨b, o, none⟩ : Addr).add j) = some u := by
  intro j u hu
  have hj : j < xs.length * 4 := by
    have := (List.getElem?_eq_some_iff.1 hu).1
    rwa [depVals_len] at this
  have e : (⟨b, o, none⟩ : Addr).add j = ⟨b, o + j, none⟩ := by
    unfold Addr.add
    split
    · rename_i h
      rw [h]
      rfl
    · rfl
  rw [e, holds_cells h hj, ← hu]
  simp [depVals, hj]

theorem depVals_one (xs : List Dp) : ∀ u ∈ depVals xs, u.oneCell' = true := by
  intro u hu
  simp only [depVals, List.mem_map] at hu
  obtain ⟨j, _, rfl⟩ := hu
  rfl

theorem depVals_holds {w : World} {base g n cap : Nat} {xs : List Dp} {t : Nat} (hl : xs.length = n) (h : w.ownsRow base t 4 (.slice (some ⟨g, 0, none⟩) n cap) n (depVals xs)) : HoldsDeps w g 0 xs := by
  subst hl
  refine holds_of_cells fun j hj => ?_
  rw [h.cellAt j hj]
  simp [depVals, hj]

theorem run_append_zero {P : Program} (w : World) (t ty e : TypeId) (i : TypeInfo) (ht : P.underlying t = some (.slice e)) (hi : P.info? e = some i) (b : Option Addr) (n c : Nat) (hle : n ≤ c) (a : Option Addr) (cap : Nat) :
    (Builtin.append_ #[t, t] ty #[.slice b n c, .slice a 0 cap]).run P w = .ok (.slice b n c) w := by
  cases a <;> cases b <;> simp [Builtin.append_, run_underlying ht, sizeOf, typeInfo, hi, Builtin.lenOf, Builtin.firstCells, hle, storeCells, loadCells, loadCellsFrom]

/-- Nothing is appended. -/
theorem wpList_append_zero {P : Program} {w : World} {ops : Array Oper} {rest : List Oper} {o : Oper} {a : Act} {Q : Exit → Act → World → Prop} (hgd : o.guard = none) (s x : Operand) (t : TypeId)
    (ho : o.op = .call { callee := .builtin .append, args := #[s, x], argTypes := #[t, t] }) (e : TypeId) (i : TypeInfo) (ht : P.underlying t = some (.slice e)) (hi : P.info? e = some i)
    (b : Option Addr) (n c : Nat) (hle : n ≤ c) (hs : a.eval s = .slice b n c) (ad : Option Addr) (cap : Nat) (hx : a.eval x = .slice ad 0 cap)
    (h : wpList P ops Q rest (a.put o.dst (.slice b n c)) w) : wpList P ops Q (o :: rest) a w := by
  refine wpList_plain hgd fun K hK => ?_
  have hrun := run_append_zero (P := P) w t o.type e i ht hi b n c hle ad cap
  unfold Oper.wp
  simp [execOp, ho, resolve, invoke, builtin, hs, hx, hrun, Result.andThen]
  exact hK _ _ h

/-- What a block holds that is not the one that was written. -/
theorem kept_block {W w1 : World} {b r t : Nat} {vs : Array Value} (hg : W.grownBy w1 (some r)) (hr : b ≠ r) (h : W.heap[b]? = some (.cells vs t (0, 0))) : (∀ j v, vs[j]? = some v → w1.cell? ⟨b, j, none⟩ = some v) ∧ ∀ j, w1.frozen? ⟨b, j, none⟩ = false := by
  have hb : b < W.heap.size := (Array.getElem?_eq_some_iff.1 h).1
  have e := hg.block b hb (by simpa using hr)
  rw [h] at e
  exact ⟨fun j v hv => by rw [cell_of_row w1 b j vs t (0, 0) e]; exact hv, fun j => frozen_of_row w1 b j vs t e⟩

theorem heap_two (w : World) (o1 o2 o3 : Obj) : (((w.alloc o1).alloc o2).alloc o3).heap[w.heap.size]? = some o1 ∧ (((w.alloc o1).alloc o2).alloc o3).heap[w.heap.size + 1]? = some o2 := by
  constructor
  · rw [Below.heap_alloc _ _ _ (by simp; omega), Below.heap_alloc _ _ _ (by simp)]
    exact heap_alloc_new w o1
  · rw [Below.heap_alloc _ _ _ (by simp)]
    have := heap_alloc_new (w.alloc o1) o2
    simpa using this

set_option maxHeartbeats 2000000 in
theorem copy_some (x : Wr) (b o cap : Nat) (w : World) (hn : x.xs.length ≤ 1048576) (hp : 0 < x.xs.length) (hlt : b < w.heap.size) (hh : HoldsDeps w b o x.xs) :
    Calls Tryd.prog 56 #[wrOf x (some ⟨b, o, none⟩) cap] w fun e w' => ∃ g cp, e = .returned (wrOf x (some ⟨g, 0, none⟩) cp) ∧ w.heap.size ≤ g ∧ g < w'.heap.size ∧ HoldsDeps w' g 0 x.xs ∧ Below w.heap.size w w' := by
  obtain ⟨xk, xc, xs', xq, xv, xd, xx⟩ := x
  simp only at hn hp hh ⊢
  have HH : Hid (HoldsDeps w b o xx) := hh
  clear hh
  obtain ⟨i0, hi0, hx0⟩ := Option.map_eq_some_iff.1 infoDep
  simp only [Prod.mk.injEq] at hx0
  have HI0 := Lib.hid hi0
  have HX0 := Lib.hid hx0
  clear hi0 hx0
  go_enter Tryd.func56, Tryd.ntmps56
  have HB0 : Hid (Below w.heap.size w (((w.alloc (.cells #[.int .i64 xk, .int .i64 xc, .int .i64 xs', .int .i64 xq, .int .i64 xv, .bool xd, .slice (some ⟨b, o, none⟩) xx.length cap] 49)).alloc (.cells #[.int .i64 0, .int .i64 0, .int .i64 0, .int .i64 0, .int .i64 0, .bool false, .slice none 0 0] 49)).alloc (.cells #[] 75))) :=
    (((Below.refl _ _).alloc (Nat.le_refl _) _).alloc (by simp) _).alloc (by simp; omega) _
  have HO0 : Hid ((((w.alloc (.cells #[.int .i64 xk, .int .i64 xc, .int .i64 xs', .int .i64 xq, .int .i64 xv, .bool xd, .slice (some ⟨b, o, none⟩) xx.length cap] 49)).alloc (.cells #[.int .i64 0, .int .i64 0, .int .i64 0, .int .i64 0, .int .i64 0, .bool false, .slice none 0 0] 49)).alloc (.cells #[] 75)).ownsRow (w.heap.size + 1 + 1) 75 4 (.slice (some ⟨w.heap.size + 1 + 1, 0, none⟩) 0 0) 0 []) := by
    have := World.ownsRow_made (base := w.heap.size + 1 + 1) (e := 75) (size := 4) ((w.alloc (.cells #[.int .i64 xk, .int .i64 xc, .int .i64 xs', .int .i64 xq, .int .i64 xv, .bool xd, .slice (some ⟨b, o, none⟩) xx.length cap] 49)).alloc (.cells #[.int .i64 0, .int .i64 0, .int .i64 0, .int .i64 0, .int .i64 0, .bool false, .slice none 0 0] 49)) #[] 0 (by simp) (by simp [maxLen]) (by simp)
    exact Lib.hid (by simpa using this)
  go_wp2_with (at_builtin; refine wpList_append_lies _ (by rfl) _ _ _ (by rfl) (w.heap.size + 1 + 1) 75 i0 (depV 0 0 0 0) 4 32 Tryd.underlying47 HI0.out HX0.out.1 HX0.out.2.1 HX0.out.2.2 (by rfl) (by omega) (.slice (some ⟨w.heap.size + 1 + 1, 0, none⟩) 0 0) 0 [] (by rfl) HO0.out ⟨b, o, none⟩ xx.length cap (depVals xx) (by rfl) (depVals_len xx) (depVals_cells (HH.out.below HB0.out hlt)) (depVals_one xx) hp (by unfold maxLen; omega) (by omega) (by simp) _ rfl ?_; intro g cp w5 hown hgrow _ hg5; refine Hid.out ?_)
  refine Lib.hid ?_
  rw [Nat.zero_add] at hown
  obtain ⟨hg4, -⟩ := (fun h => (hown.lt g h) : _ → _ ∧ _) rfl
  have HD5 : Hid (HoldsDeps w5 g 0 xx) := depVals_holds rfl hown
  have HB5 : Hid (Below w.heap.size w w5) := HB0.out.grown hgrow HB0.out.size fun k hk => by simp only [Value.ownBlock, Option.some.injEq] at hk; omega
  obtain ⟨hb0, hf0⟩ := kept_block (r := w.heap.size + 1 + 1) hgrow (by omega) (heap_two w _ _ _).1
  obtain ⟨hb1, hf1⟩ := kept_block (r := w.heap.size + 1 + 1) hgrow (by omega) (heap_two w _ _ _).2
  have b0 := hb0 0 _ rfl
  have b1 := hb0 1 _ rfl
  have b2 := hb0 2 _ rfl
  have b3 := hb0 3 _ rfl
  have b4 := hb0 4 _ rfl
  have b5 := hb0 5 _ rfl
  have b6 := hb0 6 _ rfl
  have z0 := hb1 0 _ rfl
  have z1 := hb1 1 _ rfl
  have z2 := hb1 2 _ rfl
  have z3 := hb1 3 _ rfl
  have z4 := hb1 4 _ rfl
  have z5 := hb1 5 _ rfl
  have z6 := hb1 6 _ rfl
  clear hb0 hb1
  have hz5 : w.heap.size + 1 + 1 < w5.heap.size := by have := hgrow.size; simp at this; omega
  clear hown hgrow HB0 HO0
  go_wp2
  refine bodyPost_ret (v := wrV xk xc xs' xq xv xd (some ⟨g, 0, none⟩) xx.length cp) (by simp [results, Tryd.results56, go_sem, z0, z1, z2, z3, z4, z5, z6]) rfl ⟨g, cp, rfl, by omega, by simpa using hg5, ?_, ?_⟩
  · exact (((((((HD5.out.set (by simp; omega) _).set (by simp; omega) _).set (by simp; omega) _).set (by simp; omega) _).set (by simp; omega) _).set (by simp; omega) _).set (by simp; omega) _).set (by simp; omega) _
  · exact (((((((HB5.out.setCell (by simp) _).setCell (by simp) _).setCell (by simp) _).setCell (by simp) _).setCell (by simp) _).setCell (by simp) _).setCell (by simp) _).setCell (by simp) _

set_option maxHeartbeats 2000000 in
theorem copy_none (x : Wr) (a : Option Addr) (cap : Nat) (w : World) (hx : x.xs = []) :
    Calls Tryd.prog 56 #[wrOf x a cap] w fun e w' => ∃ g cp, e = .returned (wrOf x (some ⟨g, 0, none⟩) cp) ∧ w.heap.size ≤ g ∧ g < w'.heap.size ∧ HoldsDeps w' g 0 x.xs ∧ Below w.heap.size w w' := by
  obtain ⟨xk, xc, xs', xq, xv, xd, xx⟩ := x
  simp only at hx
  subst hx
  obtain ⟨i0, hi0, -⟩ := Option.map_eq_some_iff.1 infoDep
  have HI0 := Lib.hid hi0
  clear hi0
  go_enter Tryd.func56, Tryd.ntmps56
  go_wp2_with (at_builtin; refine wpList_append_zero (by rfl) _ _ _ (by rfl) 75 i0 Tryd.underlying47 HI0.out (some ⟨w.heap.size + 1 + 1, 0, none⟩) 0 0 (by omega) (by rfl) a cap (by rfl) ?_)
  exact bodyPost_ret (v := wrV xk xc xs' xq xv xd (some ⟨w.heap.size + 1 + 1, 0, none⟩) 0 0) (by simp [results, Tryd.results56, go_sem]) rfl ⟨w.heap.size + 1 + 1, 0, rfl, by omega, by simp, fun i hi => absurd hi (Nat.not_lt_zero i), (((Below.refl _ _).alloc (Nat.le_refl _) _).alloc (by simp) _).alloc (by simp; omega) _⟩

theorem copy_any (x : Wr) (a : Option Addr) (cap : Nat) (w : World) (hn : x.xs.length ≤ 1048576) (h : IsDeps w a x.xs) :
    Calls Tryd.prog 56 #[wrOf x a cap] w fun e w' => ∃ g cp, e = .returned (wrOf x (some ⟨g, 0, none⟩) cp) ∧ w.heap.size ≤ g ∧ g < w'.heap.size ∧ HoldsDeps w' g 0 x.xs ∧ Below w.heap.size w w' := by
  rcases h with h | ⟨b, o, rfl, hlt, hh⟩
  · exact copy_none x a cap w h
  · by_cases hp : 0 < x.xs.length
    · exact copy_some x b o cap w hn hp hlt hh
    · exact copy_none x _ cap w (List.length_eq_zero_iff.1 (by omega))

end Go.Proofs.YtidpcjcnhklmpalDoor

/- The contracts of the specification's MapAt and MapHas. -/
namespace Go.Proofs.YtidpcjcnhklmpalDoor
open Go.ChangeShapes Go.WideShapes Go.ChangeAt Go.RowKit Go.Joins
attribute [local go_sem ↓] Go.wp_at_zero Go.wp_at_succ

/-- Number i is the first write of this key. -/
def FirstAt (ws : List Wr) (key : Int) (i : Nat) : Prop := i < ws.length ∧ (ws.getD i wz).k = key ∧ ∀ j, j < i → (ws.getD j wz).k ≠ key
/-- There is none of this key. -/
def NoneAt (ws : List Wr) (key : Int) : Prop := ∀ j, j < ws.length → (ws.getD j wz).k ≠ key

theorem FirstAt.same {ws : List Wr} {key : Int} {i j : Nat} (h : FirstAt ws key i) (h' : FirstAt ws key j) : i = j := by
  by_cases h1 : i < j
  · exact absurd h.2.1 (h'.2.2 i h1)
  · by_cases h2 : j < i
    · exact absurd h'.2.1 (h.2.2 j h2)
    · omega

theorem FirstAt.no {ws : List Wr} {key : Int} {i : Nat} (h : FirstAt ws key i) (h' : NoneAt ws key) : False := h' i h.1 h.2.1

/-- What a look at a map tells: a write of one's own, or nothing. -/
def Told (ws : List Wr) (key : Int) (w w' : World) (v : Value) : Prop :=
  (∃ i g cp, FirstAt ws key i ∧ v = .tuple #[wrOf (ws.getD i wz) (some ⟨g, 0, none⟩) cp, .bool true] ∧ w.heap.size ≤ g ∧ g < w'.heap.size ∧ HoldsDeps w' g 0 (ws.getD i wz).xs) ∨
  (NoneAt ws key ∧ v = .tuple #[wrV 0 0 0 0 0 false none 0 0, .bool false])

set_option maxHeartbeats 2000000 in
theorem specMapAt_gen (a : Option Addr) (n cap : Nat) (key : Int) (ws : List Wr) (w : World) (hn : ws.length = n) (hm : n ≤ 1048576) (hx : Few ws) (hh : IsWs w a ws) :
    Calls Tryd.prog 32 #[.slice a n cap, .int .i64 key] w fun e w' => ∃ v, e = .returned v ∧ Told ws key w w' v ∧ Below w.heap.size w w' := by
  have HH : Hid (IsWs w a ws) := hh
  have HN : Hid (ws.length = n) := hn
  have HX : Hid (Few ws) := hx
  clear hh hn hx
  go_enter Tryd.func32, Tryd.ntmps32
  go_wp2
  have HB0 : Hid (Below w.heap.size w (w.alloc (.cells #[.int .i64 0, .int .i64 0, .int .i64 0, .int .i64 0, .int .i64 0, .bool false, .slice none 0 0] 49))) := (Below.refl _ _).alloc (Nat.le_refl _) _
  go_loopw [6] (fun i wr => ∃ k : Nat, k ≤ n ∧ i = .int .i64 k ∧ wr = w.alloc (.cells #[.int .i64 0, .int .i64 0, .int .i64 0, .int .i64 0, .int .i64 0, .bool false, .slice none 0 0] 49) ∧ Hid (∀ j, j < k → (ws.getD j wz).k ≠ key)) (fun i _ => n - (intOf i).toNat)
  case atStart => exact ⟨0, Nat.zero_le _, rfl, rfl, fun j hj => absurd hj (Nat.not_lt_zero j)⟩
  case round =>
    obtain ⟨k, hk, rfl, rfl, HK⟩ := hrel
    by_cases hk' : k < n
    · obtain ⟨b, o, ad, cp, rfl, hz, ⟨e0, e1, e2, e3, e4, e5, e6⟩, hd⟩ := HH.out.at HB0.out HN.out hk'
      have i1 : (0 : Int) ≤ (k : Int) := by omega
      have i2 : (k : Int) < (n : Int) := by omega
      have hxl := HX.out k (by rw [HN.out]; exact hk')
      have HD : Hid (IsDeps (w.alloc (.cells #[.int .i64 0, .int .i64 0, .int .i64 0, .int .i64 0, .int .i64 0, .bool false, .slice none 0 0] 49)) ad (ws.getD k wz).xs) := hd
      clear hd
      by_cases hy : (ws.getD k wz).k = key
      · have HF : Hid (FirstAt ws key k) := ⟨by rw [HN.out]; exact hk', hy, HK.out⟩
        have HE : Hid (∀ w2 g cp, w.heap.size ≤ g → g < w2.heap.size → HoldsDeps w2 g 0 (ws.getD k wz).xs → Told ws key w w2 (.tuple #[wrOf (ws.getD k wz) (some ⟨g, 0, none⟩) cp, .bool true])) := fun w2 g cp h1 h2 h3 => .inl ⟨k, g, cp, HF.out, rfl, h1, h2, h3⟩
        clear HF HK
        generalize ws.getD k wz = x at *
        obtain ⟨xk, xc, xs', xq, xv, xd, xx⟩ := x
        simp only at e0 e1 e2 e3 e4 e5 e6 hxl HD HE hy
        subst hy
        go_wp2_with fail
        refine (copy_any ⟨xk, xc, xs', xq, xv, xd, xx⟩ _ _ _ hxl HD.out).mono ?_
        rintro e w2 ⟨g, cp2, rfl, hg1, hg2, hg3, hb⟩
        have HB2 : Hid (Below w.heap.size w w2) := below_step HB0.out HB0.out.size hb
        have HG : Hid (HoldsDeps w2 g 0 xx) := hg3
        obtain ⟨hc, hf⟩ := bcell hb
        have hz2 : w.heap.size < w2.heap.size := by have := hb.size; simp at this; omega
        have hg4 : w.heap.size < g := by simp at hg1; omega
        clear hb hg3 hg1
        go_wp2
        refine bodyPost_ret (v := .tuple #[wrV xk xc xs' xq xv xd (some ⟨g, 0, none⟩) xx.length cp2, .bool true]) (by simp [results, Tryd.results32, go_sem, hc]) rfl ⟨_, rfl, HE.out _ g cp2 (by omega) (by simpa using hg2) ?_, ?_⟩
        · exact ((((((HG.out.set (by simp; omega) _).set (by simp; omega) _).set (by simp; omega) _).set (by simp; omega) _).set (by simp; omega) _).set (by simp; omega) _).set (by simp; omega) _
        · exact ((((((HB2.out.setCell (by simp) _).setCell (by simp) _).setCell (by simp) _).setCell (by simp) _).setCell (by simp) _).setCell (by simp) _).setCell (by simp) _
      · have HK' : Hid (∀ j, j < k + 1 → (ws.getD j wz).k ≠ key) := fun j hj => by
          by_cases h : j < k
          · exact HK.out j h
          · have : j = k := by omega
            rw [this]
            exact hy
        clear HD
        generalize ws.getD k wz = x at *
        obtain ⟨xk, xc, xs', xq, xv, xd, xx⟩ := x
        simp only at e0 hy
        go_wp2
        exact ⟨⟨k + 1, by omega, by go_num, trivial, HK'⟩, by simp [intOf]; omega⟩
    · have hkk : k = n := by omega
      subst hkk
      go_wp2
      exact bodyPost_ret (v := .tuple #[wrV 0 0 0 0 0 false none 0 0, .bool false]) (by simp [results, Tryd.results32, go_sem]) rfl ⟨_, rfl, .inr ⟨fun j hj => HK.out j (by rw [← HN.out]; exact hj), rfl⟩, HB0.out⟩

theorem specMapAt_any (b n cap : Nat) (key : Int) (ws : List Wr) (γ : Nat → Nat) (w : World) (hn : ws.length = n) (hm : n ≤ 1048576) (hx : Few ws) (hh : HoldsWs w b ws γ) :
    Calls Tryd.prog 32 #[.slice (some ⟨b, 0, none⟩) n cap, .int .i64 key] w fun e w' => ∃ v, e = .returned v ∧ Told ws key w w' v ∧ Below w.heap.size w w' :=
  specMapAt_gen _ n cap key ws w hn hm hx (hh.isWs hx)

def findW (ws : List Wr) (key : Int) : Option Wr := ws.find? fun x => x.k == key

theorem find_first : ∀ {ws : List Wr} {key : Int} {i : Nat}, FirstAt ws key i → findW ws key = some (ws.getD i wz)
  | [], _, _, h => by simp [FirstAt] at h
  | x :: r, key, 0, h => by
    have hk : x.k = key := h.2.1
    simp [findW, hk]
  | x :: r, key, i + 1, h => by
    have hk : x.k ≠ key := h.2.2 0 (by omega)
    have : FirstAt r key i := ⟨by simpa using h.1, h.2.1, fun j hj => h.2.2 (j + 1) (by omega)⟩
    have := find_first this
    simp only [findW, List.find?_cons, beq_eq_false_iff_ne.2 hk] at this ⊢
    exact this

theorem find_none {ws : List Wr} {key : Int} (h : NoneAt ws key) : findW ws key = none := by
  induction ws with
  | nil => rfl
  | cons x r ih =>
    have hk : x.k ≠ key := h 0 (by simp)
    have := ih fun j hj => h (j + 1) (by simpa using hj)
    simp only [findW, List.find?_cons, beq_eq_false_iff_ne.2 hk] at this ⊢
    exact this

def hasB (ws : List Wr) (key c s q : Int) : Bool := match findW ws key with | some x => decide (0 ≤ tcmp x.c x.s x.q c s q) | none => false

end Go.Proofs.YtidpcjcnhklmpalDoor

/- Rows of dependencies of one's own that grow. -/
namespace Go.Proofs.YtidpcjcnhklmpalDoor
open Go.ChangeShapes Go.WideShapes Go.ChangeAt Go.RowKit Go.Joins

def dpVals (d : Dp) : List Value := [.int .i64 d.k, .int .i64 d.c, .int .i64 d.s, .int .i64 d.q]

theorem dps_at : ∀ (ds : List Dp) (i c : Nat), i < ds.length → c < 4 → (ds.flatMap dpVals)[i * 4 + c]? = (dpVals (ds.getD i dz))[c]?
  | [], i, c, hi, _ => by simp at hi
  | e :: r, 0, c, _, hc => by
    rw [List.flatMap_cons, List.getElem?_append_left (by simp [dpVals]; omega)]
    simp
  | e :: r, i + 1, c, hi, hc => by
    rw [List.flatMap_cons, List.getElem?_append_right (by simp [dpVals]; omega)]
    have := dps_at r i c (by simpa using hi) hc
    rw [show (i + 1) * 4 + c - (dpVals e).length = i * 4 + c by simp [dpVals]; omega, this]
    simp

/-- A row of dependencies of one's own, from block number base on; it may be nil. -/
def RowD (w : World) (base : Nat) (v : Value) (ds : List Dp) : Prop := w.ownsRow base 75 4 v ds.length (ds.flatMap dpVals)

theorem RowD.below {w w' : World} {base : Nat} {v : Value} {ds : List Dp} (h : RowD w base v ds) (hb : Below w.heap.size w w') : RowD w' base v ds :=
  World.ownsRow.kept (row := none) h ⟨hb.os, hb.tape, hb.output, hb.size, fun k hk _ => hb.block k hk⟩ (by
    by_cases e : v.ownBlock = none
    · exact .inl e
    · exact .inr e)

theorem RowD.mono {w : World} {base base' : Nat} {v : Value} {ds : List Dp} (h : RowD w base v ds) (hb : base' ≤ base) : RowD w base' v ds := by
  refine ⟨h.1, ?_⟩
  rcases h.2 with h1 | ⟨g, cap, cur, h1, h2, h3⟩
  · exact .inl h1
  · exact .inr ⟨g, cap, cur, h1, Nat.le_trans hb h2, h3⟩

/-- Dependencies of one's own, between two block numbers. -/
def OwnD (w : World) (lo hi : Nat) (a : Option Addr) (ds : List Dp) : Prop :=
  ds = [] ∨ ∃ g, a = some ⟨g, 0, none⟩ ∧ lo ≤ g ∧ g < hi ∧ g < w.heap.size ∧ HoldsDeps w g 0 ds ∧ ∀ o, w.frozen? ⟨g, o, none⟩ = false

theorem OwnD.isDeps {w : World} {lo hi : Nat} {a : Option Addr} {ds : List Dp} (h : OwnD w lo hi a ds) : IsDeps w a ds := by
  rcases h with h | ⟨g, ha, _, _, hlt, hh, _⟩
  · exact .inl h
  · exact .inr ⟨g, 0, ha, hlt, hh⟩

theorem RowD.form {w : World} {base : Nat} {v : Value} {ds : List Dp} (h : RowD w base v ds) : ∃ a cap, v = .slice a ds.length cap ∧ OwnD w base w.heap.size a ds := by
  rcases h.2 with ⟨h1, h2⟩ | ⟨g, cap, cur, h1, h2, h3, _⟩
  · exact ⟨none, 0, by rw [h1, h2], .inl (List.length_eq_zero_iff.1 h2)⟩
  · have hlt : g < w.heap.size := (Array.getElem?_eq_some_iff.1 h3).1
    subst h1
    refine ⟨_, cap, rfl, .inr ⟨g, rfl, h2, hlt, hlt, fun i hi => ?_, fun o => World.ownsRow.frozenAt h o⟩⟩
    rw [Nat.zero_add]
    have c : ∀ c, c < 4 → w.cell? ⟨g, i * 4 + c, none⟩ = (dpVals (ds.getD i dz))[c]? := fun c hc => by rw [World.ownsRow.cellAt h _ (by omega), dps_at ds i c hi hc]
    exact ⟨c 0 (by omega), c 1 (by omega), c 2 (by omega), c 3 (by omega)⟩

theorem oneD_cells (w : World) (t : Nat) (d : Dp) : ∀ j u, (dpVals d)[j]? = some u → (w.alloc (.cells #[.int .i64 d.k, .int .i64 d.c, .int .i64 d.s, .int .i64 d.q] t)).cell? ((⟨w.heap.size, 0, none⟩ : Addr).add j) = some u := by
  intro j u hu
  have e1 : (⟨w.heap.size, 0, none⟩ : Addr).add j = ⟨w.heap.size, j, none⟩ := by
    unfold Addr.add
    split
    · rename_i h
      rw [h]
    · simp
  rw [e1, cell_of_row _ _ j _ t (0, 0) (heap_alloc_new w _), ← hu]
  simp [dpVals]

theorem dp_one (d : Dp) : ∀ u ∈ dpVals d, u.oneCell' = true := by
  intro u hu
  simp only [dpVals, List.mem_cons, List.not_mem_nil, or_false] at hu
  rcases hu with rfl | rfl | rfl | rfl <;> rfl

end Go.Proofs.YtidpcjcnhklmpalDoor
