/- At all acts and replies the law FnExactEventsOf answers true: impl.EventsOf answers as spec.EventsOf, leaves both lists as they were, and its answer owns its memory. No conditions. -/
import Derived.Test.YtobcefkjoojflaaPack9
import Derived.Test.YtobcefkjoojflaaPack10
import Derived.Test.YtobcefkjoojflaaPack5
namespace Go.Proofs.Ytobcefkjoojflaa.lawEventsOf
open Go.ChangeShapes Go.WideShapes Go.ChangeAt Go.RowKit Go.Joins
set_option maxRecDepth 100000
attribute [local go_sem ↓] Go.wp_at_zero Go.wp_at_succ

theorem eventE_ws (x : Ac) (ws : List Wr) : (eventE x ws).ws = ws := by
  unfold eventE
  split
  · rfl
  · split <;> rfl

theorem heft_app : ∀ (a b : List (List Wr)), heftB (a ++ b) = heftB a + heftB b
  | [], b => by simp [heftB]
  | x :: r, b => by
    have h := heft_app r b
    simp only [List.cons_append, heftB, h]
    omega

theorem evsTo_heft (acs : List Ac) (rs : List Rp) : ∀ k, k ≤ rs.length → heftB (evW (evsTo acs rs k)) ≤ heftB ((rpW rs).take k)
  | 0, _ => by simp [evsTo, evW, heftB]
  | k + 1, hk => by
    have h := evsTo_heft acs rs k (by omega)
    have h2 := heft_take (rpW rs) k (by rw [rpW_len]; omega)
    rw [rpW_get rs (by omega)] at h2
    have h3 : heftB (evW (evsTo acs rs (k + 1))) ≤ heftB (evW (evsTo acs rs k)) + ((rs.getD k rpz).ws.length + bulk (rs.getD k rpz).ws) := by
      have e : evW (evsTo acs rs (k + 1)) = evW (evsTo acs rs k) ++ evW (if eventB (acs.getD k acz) (rs.getD k rpz).c (rs.getD k rpz).ws.length = true then [eventE (acs.getD k acz) (rs.getD k rpz).ws] else []) := by
        simp only [evsTo, evW, List.map_append]
      rw [e, heft_app]
      split
      · simp only [evW, List.map_cons, List.map_nil, heftB, eventE_ws]
        omega
      · simp only [evW, List.map_nil, heftB]
        omega
    omega

theorem evsA_heft (acs : List Ac) (rs : List Rp) : heftB (evW (evsA acs rs)) ≤ heftB (rpW rs) := by
  unfold evsA
  split
  · rename_i h
    exact Nat.le_trans (evsTo_heft acs rs acs.length (by omega)) (heft_part _ _)
  · simp [evW, heftB]

theorem evsA_len (acs : List Ac) (rs : List Rp) : (evsA acs rs).length ≤ acs.length := by
  unfold evsA
  split
  · exact evsTo_len acs rs _
  · simp

set_option maxHeartbeats 16000000 in
theorem walk (a : Option Addr) (n cap : Nat) (acs : List Ac) (b : Option Addr) (n' cap' : Nat) (rs : List Rp) (w : World) (hr : acs.length = n ∧ n ≤ maxLen ∧ IsAs w a acs) (hr' : rs.length = n' ∧ n' ≤ maxLen ∧ (∀ i, i < rs.length → (rs.getD i rpz).ws.length ≤ maxLen) ∧ IsRs w b rs) :
    Calls Try.prog 3 #[.slice a n cap, .slice b n' cap'] w fun e w' => e = .returned (.bool true) ∧ Below w.heap.size w w' := by
  obtain ⟨hl, hm, hi⟩ := hr
  obtain ⟨hl', hm', hlm, hi'⟩ := hr'
  have HI := Lib.hid hi
  have HN := Lib.hid hl
  have HI' := Lib.hid hi'
  have HN' := Lib.hid hl'
  have HLM := Lib.hid hlm
  clear hi hl hi' hl' hlm
  go_enter Try.func3, Try.ntmps3
  go_wp2_with fail
  refine (szActS_any a n cap 1048576 _ (by omega) (by omega) hm).mono ?_
  rintro e w1 ⟨r, rfl, hr, hb⟩
  have HB1 := Lib.hid hb
  clear hb
  rcases hr with rfl | ⟨r0, hr⟩
  · go_wp2
    go_ret
    exact ⟨rfl, HB1.out⟩
  have hn : n ≤ 1048576 := by omega
  have r1 : r ≤ 1048576 := by omega
  clear hr
  go_wp2_with fail
  refine (szReplyS_any b n' cap' r rs _ (by omega) (by omega) hm' HN'.out HLM.out (HI'.out.below HB1.out)).mono ?_
  rintro e w2 ⟨r', rfl, hr', hb⟩
  have HB2 : Hid (Below w.heap.size w w2) := below_step HB1.out HB1.out.size hb
  clear hb hm hm' HB1
  rcases hr' with rfl | ⟨r0', hr'⟩
  · go_wp2
    go_ret
    exact ⟨rfl, HB2.out⟩
  have hn' : n' ≤ 1048576 := by omega
  have hhe : heftB (rpW rs) ≤ 1048576 := by omega
  clear hr' r1
  have HF : Hid (FewR rs) := fewR_heft hhe
  have HHE := Lib.hid hhe
  clear hhe r0
  obtain ⟨es, hes⟩ : ∃ es, evsA acs rs = es := ⟨_, rfl⟩
  obtain ⟨L, hL⟩ : ∃ L, es.length = L := ⟨_, rfl⟩
  have HZ := Lib.hid hes
  have HLN := Lib.hid hL
  have HEE : Hid (heftB (evW es) ≤ 1048576) := by
    have h1 := evsA_heft acs rs
    have h2 := HHE.out
    rw [hes] at h1
    have h3 : heftB (evW es) ≤ 1048576 := by omega
    exact Lib.hid h3
  have HFE : Hid (FewE es) := fewE_heft HEE.out
  have hLn : L ≤ 1048576 := by
    have h1 := evsA_len acs rs
    have h2 := HN.out
    rw [hes] at h1
    omega
  clear hes hL
  go_wp2_with fail
  refine (toActS_any a n cap acs _ HN.out hn (HI.out.below HB2.out)).mono ?_
  rintro e w3 ⟨rfl, hO, hb⟩
  have HB3 : Hid (Below w.heap.size w w3) := below_step HB2.out HB2.out.size hb
  have HA3 : Hid (IsAs w3 (some ⟨w2.heap.size, 0, none⟩) acs) := hO.isAs
  clear hb hO HB2
  go_wp2_with fail
  refine (toReplyS_any b n' cap' rs _ HN'.out hn' HF.out (HI'.out.below HB3.out)).mono ?_
  rintro e w4 ⟨xs4, rfl, he4, hO, hb⟩
  have HB4 : Hid (Below w.heap.size w w4) := below_step HB3.out HB3.out.size hb
  have HA4 := Lib.hid (HA3.out.below hb)
  have HR4 : Hid (IsRs w4 (some ⟨w3.heap.size, 0, none⟩) rs) := by
    have h := hO.isRs (by rw [he4]; exact HF.out)
    rw [he4] at h
    exact Lib.hid h
  clear hb hO he4 HB3 HA3
  go_wp2_with fail
  refine (specEventsOf_any _ _ n n' n n' acs rs _ HN.out HN'.out hn hn' HF.out HA4.out HR4.out).mono ?_
  rintro e w5 ⟨v5, es5, rfl, he5, hrow, hb⟩
  obtain ⟨ad, cd, rfl, hD⟩ := hrow.isEs
  rw [HZ.out] at he5
  obtain ⟨L5, hL5⟩ : ∃ L5, es5.length = L5 := ⟨_, rfl⟩
  rw [hL5]
  obtain rfl : L5 = L := by rw [← hL5, ← evsOf_len, he5]; exact HLN.out
  rw [he5] at hD
  have HD := Lib.hid hD
  have HB5 : Hid (Below w.heap.size w w5) := below_step HB4.out HB4.out.size hb
  have HS5 : Hid (Below w5.heap.size w5 w5) := Below.refl _ _
  have hw5 : w.heap.size ≤ w5.heap.size := HB5.out.size
  clear hb hD hrow he5 hL5 HA4 HR4 HB4
  go_wp2_with fail
  refine (toActS_any a n cap acs _ HN.out hn (HI.out.below HB5.out)).mono ?_
  rintro e w6 ⟨rfl, hO, hb⟩
  have HB6 : Hid (Below w.heap.size w w6) := below_step HB5.out HB5.out.size hb
  have HS6 : Hid (Below w5.heap.size w5 w6) := below_step HS5.out HS5.out.size hb
  have hs56 : w5.heap.size ≤ w6.heap.size := hb.size
  have HX6 := Lib.hid hO
  clear hb hO HB5 HS5
  go_wp2_with fail
  refine (toReplyS_any b n' cap' rs _ HN'.out hn' HF.out (HI'.out.below HB6.out)).mono ?_
  rintro e w7 ⟨xs7, rfl, he7, hO, hb⟩
  have HB7 : Hid (Below w.heap.size w w7) := below_step HB6.out HB6.out.size hb
  have HS7 : Hid (Below w5.heap.size w5 w7) := below_step HS6.out HS6.out.size hb
  have hs67 : w6.heap.size ≤ w7.heap.size := hb.size
  have HX7 := Lib.hid (HX6.out.below hb)
  have HY7 := Lib.hid hO
  have HE7 := Lib.hid he7
  have hxl : xs7.length = n' := by have h1 := congrArg List.length he7; rw [HN'.out, rpsOf_len] at h1; exact h1
  have HTR : Hid (TameR xs7 (1 + 6 * n)) := tameR_heft (by omega) (by omega) (by rw [he7]; exact HHE.out) (by omega)
  have HFB : Hid (FewR (rpsOf xs7)) := by rw [he7]; exact HF.out
  clear hb hO he7 HB6 HS6 HX6
  have HWB : Hid (∀ W A, OwnR W w6.heap.size w7.heap.size A xs7 → IsRs W A rs) := fun W A h => by have := h.isRs HFB.out; rwa [HE7.out] at this
  go_wp2_with fail
  refine (implEventsOf_any _ _ n n' n n' acs rs _ HN.out HN'.out hn hn' HF.out HX7.out.isAs (HWB.out _ _ HY7.out)).mono ?_
  rintro e w8 ⟨v8, es8, rfl, he8, hrow, hb⟩
  obtain ⟨ag, cg, rfl, hG⟩ := hrow.ownE
  rw [HZ.out] at he8
  obtain ⟨L8, hL8⟩ : ∃ L8, es8.length = L8 := ⟨_, rfl⟩
  rw [hL8]
  obtain rfl : L8 = L5 := by rw [← hL8, ← evsOf_len, he8]; exact HLN.out
  have HL8 := Lib.hid hL8
  have HTM : Hid (TameE es8 1) := tameE_heft (by omega) (by omega) (by rw [he8]; exact HEE.out) (by omega)
  have HG8 := Lib.hid hG
  have HGE : Hid (∀ W hi A, OwnE W w7.heap.size hi A es8 → IsEs W A es) := fun W hi A h => by have := h.isEs (by rw [he8]; exact HFE.out); rwa [he8] at this
  have HB8 : Hid (Below w.heap.size w w8) := below_step HB7.out HB7.out.size hb
  have HS8 : Hid (Below w5.heap.size w5 w8) := below_step HS7.out HS7.out.size hb
  have HX8 := Lib.hid (HX7.out.below hb)
  have HY8 := Lib.hid (HY7.out.below hb)
  clear hb hrow hG he8 hL8 HB7 HS7 HX7 HY7
  go_wp2_with fail
  refine (eqEventS_same _ _ L8 _ _ es _ HLN.out hLn HFE.out (HGE.out _ _ _ HG8.out) (HD.out.below HS8.out)).mono ?_
  rintro e w9 ⟨rfl, hb⟩
  have HB9 : Hid (Below w.heap.size w w9) := below_step HB8.out HB8.out.size hb
  have HS9 : Hid (Below w5.heap.size w5 w9) := below_step HS8.out HS8.out.size hb
  have HX9 := Lib.hid (HX8.out.below hb)
  have HY9 := Lib.hid (HY8.out.below hb)
  have HG9 := Lib.hid (HG8.out.below hb)
  clear hb HB8 HS8 HX8 HY8 HG8
  go_wp2_with fail
  refine (toActS_any a n cap acs _ HN.out hn (HI.out.below HB9.out)).mono ?_
  rintro e w10 ⟨rfl, hO, hb⟩
  have HB10 : Hid (Below w.heap.size w w10) := below_step HB9.out HB9.out.size hb
  have HS10 : Hid (Below w5.heap.size w5 w10) := below_step HS9.out HS9.out.size hb
  have HX10 := Lib.hid (HX9.out.below hb)
  have HY10 := Lib.hid (HY9.out.below hb)
  have HG10 := Lib.hid (HG9.out.below hb)
  have HW10 := Lib.hid hO.isAs
  clear hb hO HB9 HS9 HX9 HY9 HG9
  go_wp2_with fail
  refine (eqActS_same _ _ n _ _ acs _ HN.out hn HX10.out.isAs HW10.out).mono ?_
  rintro e w11 ⟨rfl, hb⟩
  have HB11 : Hid (Below w.heap.size w w11) := below_step HB10.out HB10.out.size hb
  have HS11 : Hid (Below w5.heap.size w5 w11) := below_step HS10.out HS10.out.size hb
  have HX11 := Lib.hid (HX10.out.below hb)
  have HY11 := Lib.hid (HY10.out.below hb)
  have HG11 := Lib.hid (HG10.out.below hb)
  clear hb HB10 HS10 HX10 HY10 HG10 HW10
  go_wp2_with fail
  refine (toReplyS_any b n' cap' rs _ HN'.out hn' HF.out (HI'.out.below HB11.out)).mono ?_
  rintro e w12 ⟨xs12, rfl, he12, hO, hb⟩
  have HB12 : Hid (Below w.heap.size w w12) := below_step HB11.out HB11.out.size hb
  have HS12 : Hid (Below w5.heap.size w5 w12) := below_step HS11.out HS11.out.size hb
  have HX12 := Lib.hid (HX11.out.below hb)
  have HY12 := Lib.hid (HY11.out.below hb)
  have HG12 := Lib.hid (HG11.out.below hb)
  have HW12 : Hid (IsRs w12 (some ⟨w11.heap.size, 0, none⟩) rs) := by
    have h := hO.isRs (by rw [he12]; exact HF.out)
    rw [he12] at h
    exact Lib.hid h
  clear hb hO he12 HB11 HS11 HX11 HY11 HG11
  go_wp2_with fail
  refine (eqReplyS_same _ _ n' _ _ rs _ HN'.out hn' HF.out (HWB.out _ _ HY12.out) HW12.out).mono ?_
  rintro e w13 ⟨rfl, hb⟩
  have HB13 : Hid (Below w.heap.size w w13) := below_step HB12.out HB12.out.size hb
  have HS13 : Hid (Below w5.heap.size w5 w13) := below_step HS12.out HS12.out.size hb
  have HX13 := Lib.hid (HX12.out.below hb)
  have HY13 := Lib.hid (HY12.out.below hb)
  have HG13 := Lib.hid (HG12.out.below hb)
  clear hb HB12 HS12 HX12 HY12 HG12 HW12
  go_wp2_with fail
  refine (markActS_any _ _ n n _ 1 acs _ HN.out hn (by omega) (by omega) HX13.out).mono ?_
  rintro e w14 ⟨rfl, ho⟩
  have hbl : Below w5.heap.size w13 w14 := ho.below fun x hx => hx.1
  have HB14 : Hid (Below w.heap.size w w14) := HB13.out.trans (hbl.mono hw5)
  have HS14 : Hid (Below w5.heap.size w5 w14) := HS13.out.trans hbl
  have HY14 := Lib.hid (HY13.out.only ho fun x hx => hx.2)
  have HG14 := Lib.hid (HG13.out.only ho fun x hx => Nat.lt_of_lt_of_le hx.2 hs67)
  clear hbl ho HB13 HS13 HX13 HY13 HG13
  go_wp2_with fail
  refine (markReplyS_any _ _ n' n' _ (1 + 6 * n) xs7 _ hxl hn' HTR.out HY14.out).mono ?_
  rintro e w15 ⟨rfl, -, ho⟩
  have hbl : Below w5.heap.size w14 w15 := ho.below fun x hx => Nat.le_trans hs56 hx.1
  have HB15 : Hid (Below w.heap.size w w15) := HB14.out.trans (hbl.mono hw5)
  have HS15 : Hid (Below w5.heap.size w5 w15) := HS14.out.trans hbl
  have HG15 := Lib.hid (HG14.out.only ho fun x hx => hx.2)
  have HK := Lib.hid (markKR_bd xs7 (1 + 6 * n))
  obtain ⟨k, hk⟩ : ∃ k, markKR xs7 (1 + 6 * n) = k := ⟨_, rfl⟩
  rw [hk] at HK ⊢
  have k0 : 0 ≤ k := by have := HK.out.1; omega
  clear hbl ho HB14 HS14 HY14 HG14 HK hk
  go_wp2_with fail
  refine (eqEventS_same _ _ L8 _ _ es _ HLN.out hLn HFE.out (HGE.out _ _ _ HG15.out) (HD.out.below HS15.out)).mono ?_
  rintro e w16 ⟨rfl, hb⟩
  have HB16 : Hid (Below w.heap.size w w16) := below_step HB15.out HB15.out.size hb
  have HS16 : Hid (Below w5.heap.size w5 w16) := below_step HS15.out HS15.out.size hb
  have HG16 := Lib.hid (HG15.out.below hb)
  clear hb HB15 HS15 HG15
  go_wp2_with fail
  refine (markEventS_any _ _ L8 _ _ 1 es8 _ HL8.out hLn HTM.out HG16.out).mono ?_
  rintro e w17 ⟨rfl, hmk, ho⟩
  have hbl : Below w7.heap.size w16 w17 := ho.below fun x hx => hx.1
  have HB17 : Hid (Below w.heap.size w w17) := HB16.out.trans (hbl.mono (by omega))
  have HS17 : Hid (Below w5.heap.size w5 w17) := HS16.out.trans (hbl.mono (by omega))
  have HM17 := Lib.hid hmk
  have HQ := Lib.hid (markKE_bd es8 1)
  obtain ⟨q, hq⟩ : ∃ q, markKE es8 1 = q := ⟨_, rfl⟩
  have HQE := Lib.hid hq
  have q0 : 0 ≤ q := by have := HQ.out.1; omega
  rw [hq]
  clear hbl ho hmk HB16 HS16 HG16 HQ hq
  go_wp2_with fail
  refine (heldEventS_any L8 _ _ 1 es8 _ HL8.out hLn HTM.out HM17.out).mono ?_
  rintro e w18 ⟨rfl, hw⟩
  subst w18
  rw [HQE.out]
  go_wp2_with fail
  refine (toActS_any a n cap acs _ HN.out hn (HI.out.below HB17.out)).mono ?_
  rintro e w18 ⟨rfl, hO, hb⟩
  have HB18 : Hid (Below w.heap.size w w18) := below_step HB17.out HB17.out.size hb
  have HS18 : Hid (Below w5.heap.size w5 w18) := below_step HS17.out HS17.out.size hb
  have HM18 := Lib.hid (HM17.out.below hb)
  have HA18 := Lib.hid hO.isAs
  clear hb hO HB17 HS17 HM17
  go_wp2_with fail
  refine (toReplyS_any b n' cap' rs _ HN'.out hn' HF.out (HI'.out.below HB18.out)).mono ?_
  rintro e w19 ⟨xs19, rfl, he19, hO, hb⟩
  have HB19 : Hid (Below w.heap.size w w19) := below_step HB18.out HB18.out.size hb
  have HS19 : Hid (Below w5.heap.size w5 w19) := below_step HS18.out HS18.out.size hb
  have HM19 := Lib.hid (HM18.out.below hb)
  have HA19 := Lib.hid (HA18.out.below hb)
  have HR19 : Hid (IsRs w19 (some ⟨w18.heap.size, 0, none⟩) rs) := by
    have h := hO.isRs (by rw [he19]; exact HF.out)
    rw [he19] at h
    exact Lib.hid h
  clear hb hO he19 HB18 HS18 HM18 HA18
  go_wp2_with fail
  refine (implEventsOf_any _ _ n n' n n' acs rs _ HN.out HN'.out hn hn' HF.out HA19.out HR19.out).mono ?_
  rintro e w20 ⟨v20, es20, rfl, he20, hrow, hb⟩
  obtain ⟨ah, ch, rfl, hG⟩ := hrow.ownE
  rw [HZ.out] at he20
  obtain ⟨L20, hL20⟩ : ∃ L20, es20.length = L20 := ⟨_, rfl⟩
  rw [hL20]
  obtain rfl : L20 = L8 := by rw [← hL20, ← evsOf_len, he20]; exact HLN.out
  have HH : Hid (IsEs w20 ah es) := by
    have h := hG.isEs (by rw [he20]; exact HFE.out)
    rw [he20] at h
    exact Lib.hid h
  have HB20 : Hid (Below w.heap.size w w20) := below_step HB19.out HB19.out.size hb
  have HS20 : Hid (Below w5.heap.size w5 w20) := below_step HS19.out HS19.out.size hb
  have HM20 := Lib.hid (HM19.out.below hb)
  clear hb hrow hG he20 hL20 HB19 HS19 HM19 HA19 HR19
  go_wp2_with fail
  refine (eqEventS_same _ _ L20 _ _ es _ HLN.out hLn HFE.out HH.out (HD.out.below HS20.out)).mono ?_
  rintro e w21 ⟨rfl, hb⟩
  have HB21 : Hid (Below w.heap.size w w21) := below_step HB20.out HB20.out.size hb
  have HS21 : Hid (Below w5.heap.size w5 w21) := below_step HS20.out HS20.out.size hb
  have HM21 := Lib.hid (HM20.out.below hb)
  clear hb HB20 HS20 HM20 HH
  go_wp2_with fail
  refine (heldEventS_any L20 _ _ 1 es8 _ HL8.out hLn HTM.out HM21.out).mono ?_
  rintro e w22 ⟨rfl, hw⟩
  subst w22
  rw [HQE.out]
  go_wp2
  go_ret
  exact ⟨rfl, HB21.out⟩

theorem lifted (os : Os) (started : os.Started) (H : Type) (enc : TypeId × Value → H) :
    ReturnsInHanded {} Try.checked os 3 .any (Rows.fnExactEventsOfSpec.pre6 enc Try.prog Try.f3 Rows.fnExactEventsOfRow.domain false) (Rows.fnExactEventsOfSpec.post enc Try.prog Try.f3 false true false false) := by
  refine returnsInHanded_of_change (C := Try.checked) own started (by kernel_rfl) Try.func3
    (ChangeSpec.witness6 (enc := enc) (C := Try.checked) false ⟨#[], #[.slice none 0 0, .slice none 0 0], []⟩ 8 (by kernel_rfl) (by kernel_rfl) (by kernel_rfl) (by kernel_rfl)) ?_
  intro W base args ds gs before hval0 hW hcnd _
  have hval : ∀ (j : Nat) t v, Try.f3.params[j]? = some t → args[j]? = some v → Value.okWide Try.prog W .any base t v := hval0
  have hW' := hW
  obtain ⟨p, q, hA0, hV, rfl, hfz, hnd⟩ := hW
  have hA : DataW.TrodAll enc Try.prog W 0 (fun _ => true) true Try.f3.params.toList args.toList ds p := hA0
  rw [Try.params3] at hA hval
  obtain ⟨v0, v1, d0, d1, p0, p1, rfl, rfl, rfl, h0, h1⟩ := trodAll_two hA
  have k0 := h0
  have lt0 : ∀ x ∈ p0, x.block < W.heap.size := by obtain ⟨m, hm⟩ := k0; exact DataW.trod_lt m _ _ _ hm
  have k1 := h1
  have lt1 : ∀ x ∈ p1, x.block < W.heap.size := by obtain ⟨m, hm⟩ := k1; exact DataW.trod_lt m _ _ _ hm
  obtain ⟨rfl, rfl⟩ := trodVars_none hV
  obtain ⟨a0, len0, cap0, ys0, hv0, hr0⟩ := open_acts (hval 0 22 v0 rfl rfl) h0
  subst hv0
  obtain ⟨a1, len1, cap1, ys1, hv1, hr1⟩ := open_rs (hval 1 23 v1 rfl rfl) h1
  subst hv1
  clear hA0 hval0
  refine (walk a0 len0 cap0 ys0 a1 len1 cap1 ys1 W hr0 hr1).mono fun e W' ⟨he, bel⟩ => ?_
  subst he
  exact ⟨_, rfl, _, _, _, [], _, [], hW', trodAll_mk1 (shut_bool Try.underlying4 _), (trodAll_mk2 (Below.trod laidOut (by kernel_rfl) (of_decide_eq_true (by kernel_rfl)) k0 bel lt0) (Below.trod laidOut (by kernel_rfl) (of_decide_eq_true (by kernel_rfl)) k1 bel lt1)), rfl, bel.frame _, fun h => by cases h⟩

theorem over : Rows.fnExactEventsOfRow.holds Try.pinned (OpenSpec.ofChange Rows.fnExactEventsOfSpec) :=
  OpenClaim.holds_of_wide 3 Try.f3 rfl rfl rfl rfl rfl rfl rfl ⟨rfl, rfl, rfl, rfl, rfl⟩ rfl rfl rfl rfl rfl (by kernel_rfl) Try.func3 (by kernel_rfl)
    (of_decide_eq_true (by kernel_rfl)) (by unfold Func.isWrapper; rw [if_neg (by decide +kernel)]; exact ⟨rfl, rfl⟩)
    (fun os started H enc _ => lifted os started H enc)

end Go.Proofs.Ytobcefkjoojflaa.lawEventsOf
namespace Go.Proofs.Ytobcefkjoojflaa
theorem fnExactEventsOf_holds : Rows.FnExactEventsOfSaid := lawEventsOf.over
#print axioms fnExactEventsOf_holds
end Go.Proofs.Ytobcefkjoojflaa
