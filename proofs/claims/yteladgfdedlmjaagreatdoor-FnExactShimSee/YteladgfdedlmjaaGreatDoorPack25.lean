import Derived.Test.YteladgfdedlmjaaGreatDoorPack17
import Derived.Test.YteladgfdedlmjaaGreatDoorPack23
import Derived.Test.YteladgfdedlmjaaGreatDoorPack24
namespace Go.Proofs.YteladgfdedlmjaaGreatDoor.lawShimSee
open Go.ChangeShapes Go.WideShapes Go.ChangeAt Go.RowKit Go.Joins
set_option maxRecDepth 100000
attribute [local go_sem ↓] Go.wp_at_zero Go.wp_at_succ
theorem see_small (x : Sm) (vs : List Wr) : (seeAns x vs).1.ws.length ≤ 6 ∧ bulk (seeAns x vs).1.ws ≤ 36 ∧ Few (seeAns x vs).1.ws := by
 have hz : smz.ws.length ≤ 6 ∧ bulk smz.ws ≤ 36 ∧ Few smz.ws := ⟨by simp [smz], by simp [smz, bulk], fun i hi => by simp [smz] at hi⟩
 unfold seeAns seeGo
 split
 ·split
  ·have h3 := wid_ok x.ws vs
   exact ⟨mapOk_len h3, mapOk_bulk h3, ok_few h3⟩
  ·exact hz
 ·exact hz
def CopyF (si cl sq la : Int) (ws : List Wr) (t : ByteArray) : Fact := fun v w => ∃ a' cp, v = shV si cl sq la a' ws.length cp t ∧ IsWs w a' ws
theorem lasts_copy (si cl sq la : Int) (ws : List Wr) (t : ByteArray) : lasts (fun w w' => Below w.heap.size w w') (CopyF si cl sq la ws t) := by
 rintro v w w' ⟨a', cp, h1, h2⟩ hr
 exact ⟨a', cp, h1, h2.below hr⟩
set_option maxHeartbeats 16000000 in
theorem walk (x : Sm) (a : Option Addr) (cap : Nat) (b : Option Addr) (m capm : Nat) (vs : List Wr) (w : World) (hl : x.ws.length ≤ maxLen) (ht : x.t.size ≤ maxLen) (hi : IsWs w a x.ws) (hr : vs.length = m ∧ m ≤ maxLen ∧ IsWs w b vs) (hL : LV w) :
  Calls Tryz.prog 7 #[smV x a cap, .slice b m capm] w fun e w' => e = .returned (.bool true) ∧ Below w.heap.size w w' := by
 obtain ⟨hm, hmm, hj⟩ := hr
 have HM := Lib.hid hm
 have HJ := Lib.hid hj
 have hsm := see_small x vs
 obtain ⟨Z, hZ⟩ : ∃ Z, Z = seeAns x vs := ⟨_, rfl⟩
 rw [← hZ] at hsm
 have HSP0 : Hid (∀ W a cap b capm, IsWs W a x.ws → IsWs W b vs → x.ws.length + m ≤ 1048576 → Few x.ws → Few vs → x.t.size ≤ 1048576 → Calls Tryz.prog 23 #[smV x a cap, .slice b m capm] W fun e w' => ∃ a' cp', e = .returned (.tuple #[smV Z.1 a' cp', .int .i64 Z.2]) ∧ IsWs w' a' Z.1.ws ∧ Below W.heap.size W w') := fun W a cap b capm hw h0 h1 h2 h3 h4 => by
  rw [hZ]
  refine (specSee_x x a cap b m capm vs W h1 h2 h4 hw HM.out h3 h0).mono ?_
  rintro e w' ⟨a', cp', he, hf, hb⟩
  exact ⟨a', cp', he, hf.isWs (by rw [← hZ]; exact hsm.2.2), hb⟩
 have HIM0 : Hid (∀ W a cap b capm, LV W → IsWs W a x.ws → IsWs W b vs → x.ws.length + m ≤ 1048576 → Few x.ws → Few vs → x.t.size ≤ 1048576 → Calls Tryz.prog 22 #[smV x a cap, .slice b m capm] W fun e w' => ∃ a' cp' γ, e = .returned (.tuple #[smV Z.1 a' cp', .int .i64 Z.2]) ∧ OwnA w' W.heap.size w'.heap.size a' Z.1.ws γ ∧ Below W.heap.size W w') := fun W a cap b capm hv hw h0 h1 h2 h3 h4 => by
  rw [hZ]
  exact implSee_x x a cap b m capm vs W h1 h2 h4 hw HM.out h3 h0 hv
 clear hZ hm hj
 obtain ⟨X, c⟩ := Z
 obtain ⟨hX6, hXb, hXf⟩ := hsm
 simp only at hX6 hXb hXf HSP0 HIM0
 have HXF := Lib.hid hXf
 clear hXf
 obtain ⟨si, cl, sq, la, ws, t⟩ := x
 simp only at hl ht hi HSP0 HIM0
 have HL := Lib.hid hL
 have HI := Lib.hid hi
 clear hL hi
 have HX0 : Hid (∀ W a cap, IsWs W a ws → ws.length ≤ 1048576 → Few ws → Calls Tryz.prog 29 #[shV si cl sq la a ws.length cap t] W fun e w' => ∃ a' cp γ, e = .returned (shV si cl sq la a' ws.length cp t) ∧ OwnA w' W.heap.size w'.heap.size a' ws γ ∧ Below W.heap.size W w') := fun W a cap hw h1 h2 => toShim_any ⟨si, cl, sq, la, ws, t⟩ a cap W h1 h2 hw
 unfold smV at HSP0 HIM0 ⊢
 simp only at HSP0 HIM0 ⊢
 obtain ⟨n, hnn⟩ : ∃ n, ws.length = n := ⟨_, rfl⟩
 rw [hnn] at hl HX0 HSP0 HIM0
 rw [hnn]
 have HN := Lib.hid hnn
 clear hnn
 have HB0 : Hid (Below w.heap.size w (w.alloc (.cells #[.int .i64 si, .int .i64 cl, .int .i64 sq, .int .i64 la, .slice a n cap, .string t] 53))) := (Below.refl _ _).alloc (Nat.le_refl _) _
 have HS0 := Lib.hid (SBox.start w si cl sq la a n cap t 53)
 unfold shV
 go_enter Tryz.func7, Tryz.ntmps7
 go_wp2_with fail
 generalize (w.alloc (.cells #[.int .i64 si, .int .i64 cl, .int .i64 sq, .int .i64 la, .slice a n cap, .string t] 53)) = V0 at *
 refine (szShim_any si cl sq la a n cap t 1048576 ws _ (by omega) (by omega) hl ht HN.out (HI.out.below HB0.out)).mono ?_
 rintro e w1 ⟨r, rfl, hr, hb⟩
 have HB1 := Lib.hid (below_step HB0.out HB0.out.size hb)
 clear HB0
 have HS1 := Lib.hid (HS0.out.below hb)
 clear HS0
 clear hb
 rcases hr with rfl | ⟨r0, hr⟩
 ·go_wp2
  go_ret
  exact ⟨rfl, HB1.out⟩
 have HRR := Lib.hid hr
 have r1 : r ≤ 1048576 := by omega
 have hn1 : n ≤ 1048576 := by omega
 have ht1 : t.size ≤ 1048576 := by omega
 have hbu : bulk ws ≤ 1048576 := by omega
 have HF : Hid (Few ws) := few_of_bulk hbu
 clear hr
 go_wp2_with fail
 refine (szWriteS_any b m capm r vs _ (by omega) (by omega) hmm HM.out (HJ.out.below HB1.out)).mono ?_
 rintro e w2 ⟨r2, rfl, hr, hb⟩
 have HB2 := Lib.hid (below_step HB1.out HB1.out.size hb)
 clear HB1
 have HS2 := Lib.hid (HS1.out.below hb)
 clear HS1
 clear hb
 rcases hr with rfl | ⟨r20, hr⟩
 ·go_wp2
  go_ret
  exact ⟨rfl, HB2.out⟩
 have hm1 : m ≤ 1048576 := by omega
 have hnm : n + m ≤ 1048576 := by have := HRR.out; omega
 have hbv : bulk vs ≤ 1048576 := by omega
 have HFV : Hid (Few vs) := few_of_bulk hbv
 have HY : Hid (∀ i, i < m → (vs.getD i wz).xs.length ≤ 1048576) := fun i h => HFV.out i (by rw [HM.out]; exact h)
 clear hr HRR
 obtain ⟨-, x0, x1, x2, x3, x4, x5, -⟩ := HS2.out
 go_wp2_with fail
 refine (HX0.out _ a cap (HI.out.below HB2.out) hn1 HF.out).mono ?_
 rintro e w3 ⟨a3, cp3, γ3, rfl, ho, hb⟩
 have HB3 := Lib.hid (below_step HB2.out HB2.out.size hb)
 clear HB2
 have HS3 := Lib.hid (HS2.out.below hb)
 clear HS2
 clear x0 x1 x2 x3 x4 x5
 have HQ3_0 := Lib.hid (ho.isWs HF.out)
 clear hb ho
 go_wp2_with fail
 refine (toWriteS_any b m capm vs _ hm1 HM.out HY.out (HJ.out.below HB3.out)).mono ?_
 rintro e w4 ⟨γ4, rfl, hO, hb⟩
 have HB4 := Lib.hid (below_step HB3.out HB3.out.size hb)
 clear HB3
 have HS4 := Lib.hid (HS3.out.below hb)
 clear HS3
 have HQ3_1 := Lib.hid (HQ3_0.out.below hb)
 clear HQ3_0
 have HQ4 := Lib.hid (hO.holds.isWs HFV.out)
 clear hb hO
 go_wp2_with fail
 refine (HSP0.out _ a3 cp3 _ m HQ3_1.out HQ4.out hnm HF.out HFV.out ht1).mono ?_
 rintro e w5 ⟨sa, sc, rfl, hsw, hb⟩
 clear HQ3_1
 have HB5 := Lib.hid (below_step HB4.out HB4.out.size hb)
 clear HB4
 have HS5 := Lib.hid (HS4.out.below hb)
 clear HS4
 clear hb HQ4
 unfold shV
 have HSA0 := Lib.hid (hsw)
 clear hsw
 have hA : Below w5.heap.size w5 (w5.alloc (.cells #[.int .i64 X.si, .int .i64 X.cl, .int .i64 X.sq, .int .i64 X.la, .slice sa X.ws.length sc, .string X.t] 26)) := (Below.refl _ _).alloc (Nat.le_refl _) _
 have hzV5 : (w5.alloc (.cells #[.int .i64 X.si, .int .i64 X.cl, .int .i64 X.sq, .int .i64 X.la, .slice sa X.ws.length sc, .string X.t] 26)).heap.size = w5.heap.size + 1 := by simp
 have HXS_0 := Lib.hid (SBox.start w5 X.si X.cl X.sq X.la sa X.ws.length sc X.t 26)
 have HB6 := Lib.hid (below_step HB5.out HB5.out.size hA)
 clear HB5
 have HS6 := Lib.hid (HS5.out.below hA)
 clear HS5
 have HSA1 := Lib.hid (HSA0.out.below hA)
 clear HSA0
 clear hA
 obtain ⟨-, x0, x1, x2, x3, x4, x5, -⟩ := HS6.out
 go_wp2_with fail
 generalize (w5.alloc (.cells #[.int .i64 X.si, .int .i64 X.cl, .int .i64 X.sq, .int .i64 X.la, .slice sa X.ws.length sc, .string X.t] 26)) = V5 at *
 have hyV5 : w5.heap.size < V5.heap.size := by omega
 clear hzV5
 clear x0 x1 x2 x3 x4 x5
 have HS5 := HS6
 have HXS5 := HXS_0
 have HSA5 := HSA1
 have hwV5 : w.heap.size ≤ V5.heap.size := HB6.out.size
 refine (HX0.out _ a cap (HI.out.below HB6.out) hn1 HF.out).mono ?_
 rintro e w6 ⟨a6, cp6, γ6, rfl, ho, hb⟩
 have h56 : V5.heap.size ≤ w6.heap.size := hb.size
 have HT0 : Hid (Below V5.heap.size V5 V5) := Below.refl _ _
 have HB7 := Lib.hid (below_step HB6.out HB6.out.size hb)
 clear HB6
 have HS7 := Lib.hid (HS6.out.below hb)
 clear HS6
 have HSA2 := Lib.hid (HSA1.out.below hb)
 clear HSA1
 have HXS_1 := Lib.hid (HXS_0.out.below hb)
 clear HXS_0
 have HT1 := Lib.hid (below_step HT0.out HT0.out.size hb)
 clear HT0
 have HO0 := Lib.hid (ho)
 clear hb ho
 unfold shV
 have hA : Below w6.heap.size w6 (w6.alloc (.cells #[.int .i64 si, .int .i64 cl, .int .i64 sq, .int .i64 la, .slice a6 n cp6, .string t] 26)) := (Below.refl _ _).alloc (Nat.le_refl _) _
 have hzV6 : (w6.alloc (.cells #[.int .i64 si, .int .i64 cl, .int .i64 sq, .int .i64 la, .slice a6 n cp6, .string t] 26)).heap.size = w6.heap.size + 1 := by simp
 have HX_0 := Lib.hid (SBox.start w6 si cl sq la a6 n cp6 t 26)
 have HB8 := Lib.hid (below_step HB7.out HB7.out.size hA)
 clear HB7
 have HS8 := Lib.hid (HS7.out.below hA)
 clear HS7
 have HSA3 := Lib.hid (HSA2.out.below hA)
 clear HSA2
 have HXS_2 := Lib.hid (HXS_1.out.below hA)
 clear HXS_1
 have HT2 := Lib.hid (below_step HT1.out HT1.out.size hA)
 clear HT1
 have HO1 := Lib.hid (HO0.out.below hA)
 clear HO0
 clear hA
 go_wp2_with fail
 generalize (w6.alloc (.cells #[.int .i64 si, .int .i64 cl, .int .i64 sq, .int .i64 la, .slice a6 n cp6, .string t] 26)) = V6 at *
 have hyV6 : w6.heap.size < V6.heap.size := by omega
 clear hzV6
 refine (toWriteS_any b m capm vs _ hm1 HM.out HY.out (HJ.out.below HB8.out)).mono ?_
 rintro e w7 ⟨γ7, rfl, hO, hb⟩
 have h67 : V6.heap.size ≤ w7.heap.size := hb.size
 have HB9 := Lib.hid (below_step HB8.out HB8.out.size hb)
 clear HB8
 have HS9 := Lib.hid (HS8.out.below hb)
 clear HS8
 have HSA4 := Lib.hid (HSA3.out.below hb)
 clear HSA3
 have HXS_3 := Lib.hid (HXS_2.out.below hb)
 clear HXS_2
 have HT3 := Lib.hid (below_step HT2.out HT2.out.size hb)
 clear HT2
 have HO2 := Lib.hid (HO1.out.below hb)
 clear HO1
 have HX_1 := Lib.hid (HX_0.out.below hb)
 clear HX_0
 have HP0 := Lib.hid (hO.gen.ownA)
 clear hb hO
 obtain ⟨-, y0, y1, y2, y3, y4, y5, -⟩ := HX_1.out
 go_wp2_with fail
 clear y0 y1 y2 y3 y4 y5
 refine (HIM0.out _ a6 cp6 _ m (HL.out.below HB9.out) (HO2.out.isWs HF.out) (HP0.out.isWs HFV.out) hnm HF.out HFV.out ht1).mono ?_
 rintro e w8 ⟨ga, gc, γg, rfl, hga, hb⟩
 have h78 : w7.heap.size ≤ w8.heap.size := hb.size
 have HB10 := Lib.hid (below_step HB9.out HB9.out.size hb)
 clear HB9
 have HS10 := Lib.hid (HS9.out.below hb)
 clear HS9
 have HSA5 := Lib.hid (HSA4.out.below hb)
 clear HSA4
 have HXS_4 := Lib.hid (HXS_3.out.below hb)
 clear HXS_3
 have HT4 := Lib.hid (below_step HT3.out HT3.out.size hb)
 clear HT3
 have HO3 := Lib.hid (HO2.out.below hb)
 clear HO2
 have HX_2 := Lib.hid (HX_1.out.below hb)
 clear HX_1
 have HP1 := Lib.hid (HP0.out.below hb)
 clear HP0
 have HG0 := Lib.hid (hga)
 clear hb hga
 unfold shV
 have hA : Below w8.heap.size w8 (w8.alloc (.cells #[.int .i64 X.si, .int .i64 X.cl, .int .i64 X.sq, .int .i64 X.la, .slice ga X.ws.length gc, .string X.t] 26)) := (Below.refl _ _).alloc (Nat.le_refl _) _
 have hzV8 : (w8.alloc (.cells #[.int .i64 X.si, .int .i64 X.cl, .int .i64 X.sq, .int .i64 X.la, .slice ga X.ws.length gc, .string X.t] 26)).heap.size = w8.heap.size + 1 := by simp
 have HXG_0 := Lib.hid (SBox.start w8 X.si X.cl X.sq X.la ga X.ws.length gc X.t 26)
 have HB11 := Lib.hid (below_step HB10.out HB10.out.size hA)
 clear HB10
 have HS11 := Lib.hid (HS10.out.below hA)
 clear HS10
 have HSA6 := Lib.hid (HSA5.out.below hA)
 clear HSA5
 have HXS_5 := Lib.hid (HXS_4.out.below hA)
 clear HXS_4
 have HT5 := Lib.hid (below_step HT4.out HT4.out.size hA)
 clear HT4
 have HO4 := Lib.hid (HO3.out.below hA)
 clear HO3
 have HX_3 := Lib.hid (HX_2.out.below hA)
 clear HX_2
 have HP2 := Lib.hid (HP1.out.below hA)
 clear HP1
 have HG1 := Lib.hid (HG0.out.below hA)
 clear HG0
 clear hA
 obtain ⟨-, x0, x1, x2, x3, x4, x5, -⟩ := HXG_0.out
 obtain ⟨-, y0, y1, y2, y3, y4, y5, -⟩ := HXS_5.out
 go_wp2_with fail
 generalize (w8.alloc (.cells #[.int .i64 X.si, .int .i64 X.cl, .int .i64 X.sq, .int .i64 X.la, .slice ga X.ws.length gc, .string X.t] 26)) = V8 at *
 have hyV8 : w8.heap.size < V8.heap.size := by omega
 clear hzV8
 clear x0 x1 x2 x3 x4 x5 y0 y1 y2 y3 y4 y5
 refine (eqShim_same _ _ _ _ ga sa X.ws.length gc sc _ X.ws _ rfl (by omega) HXF.out (HG1.out.isWs HXF.out) HSA6.out).mono ?_
 rintro e w9 ⟨rfl, hb⟩
 have HB12 := Lib.hid (below_step HB11.out HB11.out.size hb)
 clear HB11
 have HS12 := Lib.hid (HS11.out.below hb)
 clear HS11
 have HSA7 := Lib.hid (HSA6.out.below hb)
 clear HSA6
 have HXS_6 := Lib.hid (HXS_5.out.below hb)
 clear HXS_5
 have HT6 := Lib.hid (below_step HT5.out HT5.out.size hb)
 clear HT5
 have HO5 := Lib.hid (HO4.out.below hb)
 clear HO4
 have HX_4 := Lib.hid (HX_3.out.below hb)
 clear HX_3
 have HP3 := Lib.hid (HP2.out.below hb)
 clear HP2
 have HG2 := Lib.hid (HG1.out.below hb)
 clear HG1
 have HXG_1 := Lib.hid (HXG_0.out.below hb)
 clear HXG_0
 clear hb
 go_wp2_with fail
 refine wp_region_slots 3 [[(8, false)], [(2, false)], [(55, true)]] (fun w' => Below w9.heap.size w9 w') (fun w w' => Below w.heap.size w w') (by kernel_rfl) (by kernel_rfl) (by rfl) (Below.refl _ _).drew (fun _ _ h hr => below_step h h.size hr) ?_
 apply slot_eq
 ·intro ρ w' ⟨p1, p2, p3⟩ hS hn
  obtain ⟨-, y0, y1, y2, y3, y4, y5, -⟩ := HX_4.out.below hS
  simp at hn
  go_simp
  exact ⟨Below.refl _ _, rfl⟩
 apply slot_eq
 ·intro ρ w' ⟨p1, p2, p3⟩ hS hn
  obtain ⟨-, y0, y1, y2, y3, y4, y5, -⟩ := HS12.out.below hS
  simp at hn
  go_simp
  exact ⟨Below.refl _ _, rfl⟩
 refine slot_fact (CopyF si cl sq la ws t) (lasts_copy _ _ _ _ _ _) ?_ ?_
 ·intro ρ w' ⟨p1, p2, p3⟩ hS hn
  simp at hn
  go_simp
  exact got_call (HX0.out w' a cap (HI.out.below (below_step HB12.out HB12.out.size hS)) hn1 HF.out) fun e w'' ⟨a', cp, γ, he, ho, hb⟩ => ⟨_, he, hb, a', cp, by rw [HN.out], ho.isWs HF.out⟩
 refine slot_end ?_
 intro tv w10 hb hF
 simp at hF
 obtain ⟨⟨a8, cp8, f56, hw8⟩, f55, f54⟩ := hF
 simp only [List.take_succ_cons, List.take_zero, List.drop_succ_cons, List.drop_zero, putAll, f56, f55, f54]
 clear f56 f55 f54
 simp only [Act.put, List.setIfInBounds_toArray, List.set_cons_succ, List.set_cons_zero]
 have HB13 := Lib.hid (below_step HB12.out HB12.out.size hb)
 clear HB12
 have HS13 := Lib.hid (HS12.out.below hb)
 clear HS12
 have HSA8 := Lib.hid (HSA7.out.below hb)
 clear HSA7
 have HXS_7 := Lib.hid (HXS_6.out.below hb)
 clear HXS_6
 have HT7 := Lib.hid (below_step HT6.out HT6.out.size hb)
 clear HT6
 have HO6 := Lib.hid (HO5.out.below hb)
 clear HO5
 have HX_5 := Lib.hid (HX_4.out.below hb)
 clear HX_4
 have HP4 := Lib.hid (HP3.out.below hb)
 clear HP3
 have HG3 := Lib.hid (HG2.out.below hb)
 clear HG2
 have HXG_2 := Lib.hid (HXG_1.out.below hb)
 clear HXG_1
 have HC8 := Lib.hid hw8
 rw [HN.out]
 clear hb hw8
 go_wp2_with fail
 refine (eqShim_same si cl sq la a6 a8 n cp6 cp8 t ws _ HN.out hn1 HF.out (HO6.out.isWs HF.out) HC8.out).mono ?_
 rintro e w11 ⟨rfl, hb⟩
 have HB14 := Lib.hid (below_step HB13.out HB13.out.size hb)
 clear HB13
 have HS14 := Lib.hid (HS13.out.below hb)
 clear HS13
 have HSA9 := Lib.hid (HSA8.out.below hb)
 clear HSA8
 have HXS_8 := Lib.hid (HXS_7.out.below hb)
 clear HXS_7
 have HT8 := Lib.hid (below_step HT7.out HT7.out.size hb)
 clear HT7
 have HO7 := Lib.hid (HO6.out.below hb)
 clear HO6
 have HX_6 := Lib.hid (HX_5.out.below hb)
 clear HX_5
 have HP5 := Lib.hid (HP4.out.below hb)
 clear HP4
 have HG4 := Lib.hid (HG3.out.below hb)
 clear HG3
 have HXG_3 := Lib.hid (HXG_2.out.below hb)
 clear HXG_2
 clear hb HC8
 go_wp2_with fail
 refine (toWriteS_any b m capm vs _ hm1 HM.out HY.out (HJ.out.below HB14.out)).mono ?_
 rintro e w12 ⟨γ12, rfl, hO, hb⟩
 have HB15 := Lib.hid (below_step HB14.out HB14.out.size hb)
 clear HB14
 have HS15 := Lib.hid (HS14.out.below hb)
 clear HS14
 have HSA10 := Lib.hid (HSA9.out.below hb)
 clear HSA9
 have HXS_9 := Lib.hid (HXS_8.out.below hb)
 clear HXS_8
 have HT9 := Lib.hid (below_step HT8.out HT8.out.size hb)
 clear HT8
 have HO8 := Lib.hid (HO7.out.below hb)
 clear HO7
 have HX_7 := Lib.hid (HX_6.out.below hb)
 clear HX_6
 have HP6 := Lib.hid (HP5.out.below hb)
 clear HP5
 have HG5 := Lib.hid (HG4.out.below hb)
 clear HG4
 have HXG_4 := Lib.hid (HXG_3.out.below hb)
 clear HXG_3
 have HQ12 := Lib.hid (hO.holds.isWs HFV.out)
 clear hb hO
 go_wp2_with fail
 refine (eqWriteS_gen _ _ m m m vs _ HM.out hm1 HFV.out (HP6.out.isWs HFV.out) HQ12.out).mono ?_
 rintro e w13 ⟨rfl, hb⟩
 have HB16 := Lib.hid (below_step HB15.out HB15.out.size hb)
 clear HB15
 have HS16 := Lib.hid (HS15.out.below hb)
 clear HS15
 have HSA11 := Lib.hid (HSA10.out.below hb)
 clear HSA10
 have HXS_10 := Lib.hid (HXS_9.out.below hb)
 clear HXS_9
 have HT10 := Lib.hid (below_step HT9.out HT9.out.size hb)
 clear HT9
 have HO9 := Lib.hid (HO8.out.below hb)
 clear HO8
 have HX_8 := Lib.hid (HX_7.out.below hb)
 clear HX_7
 have HP7 := Lib.hid (HP6.out.below hb)
 clear HP6
 have HG6 := Lib.hid (HG5.out.below hb)
 clear HG5
 have HXG_5 := Lib.hid (HXG_4.out.below hb)
 clear HXG_4
 clear hb HQ12
 obtain ⟨-, y0, y1, y2, y3, y4, y5, -⟩ := HX_8.out
 go_wp2_with fail
 clear y0 y1 y2 y3 y4 y5
 refine (markShim_any si cl sq la t V5.heap.size w6.heap.size n cp6 a6 1 ws γ6 _ HN.out hn1 hbu (by omega) (by omega) HO9.out).mono ?_
 rintro e w14 ⟨rfl, -, w14', hb, ho⟩
 clear HO9
 clear HX_8
 clear HS16
 clear HXS_10
 clear HSA11
 have HB17 := Lib.hid (below_step HB16.out HB16.out.size hb)
 clear HB16
 have HT11 := Lib.hid (below_step HT10.out HT10.out.size hb)
 clear HT10
 have HP8 := Lib.hid (HP7.out.below hb)
 clear HP7
 have HG7 := Lib.hid (HG6.out.below hb)
 clear HG6
 have HXG_6 := Lib.hid (HXG_5.out.below hb)
 clear HXG_5
 have hbl : Below V5.heap.size w14' w14 := ho.below fun x hx => hx.1
 have HB18 := Lib.hid (HB17.out.trans (hbl.mono hwV5))
 clear HB17
 have HT12 := Lib.hid (HT11.out.trans hbl)
 clear HT11
 have HP9 := Lib.hid (HP8.out.only ho fun x hx => by have := hx.2; omega)
 clear HP8
 have HG8 := Lib.hid (HG7.out.only ho fun x hx => by have := hx.2; omega)
 clear HG7
 have HXG_7 := Lib.hid (HXG_6.out.only ho fun h => by have := h.2; omega)
 clear HXG_6
 clear hb ho hbl
 have hk : 0 ≤ markK ws 1 n ∧ markK ws 1 n ≤ 100000000 := by
  have := bulk_take_le ws n
  unfold markK
  constructor <;> omega
 generalize markK ws 1 n = kx at *
 go_wp2_with fail
 refine (markWriteS_all V6.heap.size w7.heap.size m m _ kx vs γ7 _ HM.out hm1 hbv (by omega) (by omega) HP9.out).mono ?_
 rintro e w15 ⟨rfl, -, ho⟩
 have hbl : Below V6.heap.size w14 w15 := ho.below fun x hx => hx.1
 clear HP9
 have HB19 := Lib.hid (HB18.out.trans (hbl.mono (by omega)))
 clear HB18
 have HT13 := Lib.hid (HT12.out.trans (hbl.mono (by omega)))
 clear HT12
 have HG9 := Lib.hid (HG8.out.only ho fun x hx => by have := hx.2; omega)
 clear HG8
 have HXG_8 := Lib.hid (HXG_7.out.only ho fun h => by have := h.2; omega)
 clear HXG_7
 clear ho hbl
 have hk2 : 0 ≤ markK vs kx m := by
  have := bulk_take_le vs m
  unfold markK
  omega
 generalize markK vs kx m = ky at *
 have HS_0 := Lib.hid (HS5.out.below HT13.out)
 have HXS_0 := Lib.hid (HXS5.out.below HT13.out)
 have HSA0 := Lib.hid (HSA5.out.below HT13.out)
 obtain ⟨-, x0, x1, x2, x3, x4, x5, -⟩ := HXG_8.out
 obtain ⟨-, y0, y1, y2, y3, y4, y5, -⟩ := HXS_0.out
 go_wp2_with fail
 clear x0 x1 x2 x3 x4 x5 y0 y1 y2 y3 y4 y5
 refine (eqShim_same _ _ _ _ ga sa X.ws.length gc sc _ X.ws _ rfl (by omega) HXF.out (HG9.out.isWs HXF.out) HSA0.out).mono ?_
 rintro e w16 ⟨rfl, hb⟩
 have HB20 := Lib.hid (below_step HB19.out HB19.out.size hb)
 clear HB19
 have HT14 := Lib.hid (below_step HT13.out HT13.out.size hb)
 clear HT13
 have HG10 := Lib.hid (HG9.out.below hb)
 clear HG9
 have HXG_9 := Lib.hid (HXG_8.out.below hb)
 clear HXG_8
 have HS_1 := Lib.hid (HS_0.out.below hb)
 clear HS_0
 have HXS_1 := Lib.hid (HXS_0.out.below hb)
 clear HXS_0
 have HSA1 := Lib.hid (HSA0.out.below hb)
 clear HSA0
 clear hb
 clear HS_1
 clear HXS_1
 clear HSA1
 have hmk : 0 ≤ markK X.ws 1 X.ws.length ∧ markK X.ws 1 X.ws.length ≤ 1000000 := by
  have := bulk_take_le X.ws X.ws.length
  unfold markK
  constructor <;> omega
 obtain ⟨-, y0, y1, y2, y3, y4, y5, -⟩ := HXG_9.out
 go_wp2_with fail
 clear y0 y1 y2 y3 y4 y5
 refine (markShim_any _ _ _ _ _ w7.heap.size w8.heap.size X.ws.length gc ga 1 X.ws γg _ rfl (by omega) (by omega) (by omega) (by omega) HG10.out).mono ?_
 rintro e w17 ⟨rfl, hmk1, w17', hb, ho⟩
 have HM_0 := Lib.hid hmk1
 clear HG10
 have HB21 := Lib.hid (below_step HB20.out HB20.out.size hb)
 clear HB20
 have HT15 := Lib.hid (below_step HT14.out HT14.out.size hb)
 clear HT14
 have HXG_10 := Lib.hid (HXG_9.out.below hb)
 clear HXG_9
 have hbl : Below w7.heap.size w17' w17 := ho.below fun x hx => hx.1
 have HB22 := Lib.hid (HB21.out.trans (hbl.mono (by omega)))
 clear HB21
 have HT16 := Lib.hid (HT15.out.trans (hbl.mono (by omega)))
 clear HT15
 have HXG_11 := Lib.hid (HXG_10.out.only ho fun h => by have := h.2; omega)
 clear HXG_10
 clear hb ho hbl hmk1
 obtain ⟨k1, hk1⟩ : ∃ k1, k1 = markK X.ws 1 X.ws.length := ⟨_, rfl⟩
 rw [← hk1] at hmk
 have HKK := Lib.hid hk1
 have HHE : Hid (∀ W, MarkedA W ga X.ws γg 1 → Calls Tryz.prog 34 #[shV X.si X.cl X.sq X.la ga X.ws.length gc X.t, .int .i64 1] W fun e w' => e = .returned (.int .i64 k1) ∧ Below W.heap.size W w') := fun W h => by
  rw [HKK.out]
  exact heldShim_any _ _ _ _ _ X.ws.length gc ga 1 X.ws γg _ rfl (by omega) (by omega) (by omega) (by omega) h
 rw [← hk1]
 clear hk1
 obtain ⟨-, y0, y1, y2, y3, y4, y5, -⟩ := HXG_11.out
 go_wp2_with fail
 clear y0 y1 y2 y3 y4 y5
 refine (HHE.out _ HM_0.out).mono ?_
 rintro e w18 ⟨rfl, hb⟩
 have HB23 := Lib.hid (below_step HB22.out HB22.out.size hb)
 clear HB22
 have HT17 := Lib.hid (below_step HT16.out HT16.out.size hb)
 clear HT16
 have HXG_12 := Lib.hid (HXG_11.out.below hb)
 clear HXG_11
 have HM_1 := Lib.hid (HM_0.out.below hb)
 clear HM_0
 clear hb
 have HS_0 := Lib.hid (HS5.out.below HT17.out)
 have HXS_0 := Lib.hid (HXS5.out.below HT17.out)
 have HSA0 := Lib.hid (HSA5.out.below HT17.out)
 obtain ⟨-, x0, x1, x2, x3, x4, x5, -⟩ := HS_0.out
 go_wp2_with fail
 refine (HX0.out _ a cap (HI.out.below HB23.out) hn1 HF.out).mono ?_
 rintro e w19 ⟨a19, cp19, γ19, rfl, ho, hb⟩
 have HB24 := Lib.hid (below_step HB23.out HB23.out.size hb)
 clear HB23
 have HT18 := Lib.hid (below_step HT17.out HT17.out.size hb)
 clear HT17
 have HXG_13 := Lib.hid (HXG_12.out.below hb)
 clear HXG_12
 have HM_2 := Lib.hid (HM_1.out.below hb)
 clear HM_1
 have HS_1 := Lib.hid (HS_0.out.below hb)
 clear HS_0
 have HXS_1 := Lib.hid (HXS_0.out.below hb)
 clear HXS_0
 have HSA1 := Lib.hid (HSA0.out.below hb)
 clear HSA0
 clear x0 x1 x2 x3 x4 x5
 have HQ19_0 := Lib.hid (ho.isWs HF.out)
 clear hb ho
 go_wp2_with fail
 refine (toWriteS_any b m capm vs _ hm1 HM.out HY.out (HJ.out.below HB24.out)).mono ?_
 rintro e w20 ⟨γ20, rfl, hO, hb⟩
 have HB25 := Lib.hid (below_step HB24.out HB24.out.size hb)
 clear HB24
 have HT19 := Lib.hid (below_step HT18.out HT18.out.size hb)
 clear HT18
 have HXG_14 := Lib.hid (HXG_13.out.below hb)
 clear HXG_13
 have HM_3 := Lib.hid (HM_2.out.below hb)
 clear HM_2
 have HS_2 := Lib.hid (HS_1.out.below hb)
 clear HS_1
 have HXS_2 := Lib.hid (HXS_1.out.below hb)
 clear HXS_1
 have HSA2 := Lib.hid (HSA1.out.below hb)
 clear HSA1
 have HQ19_1 := Lib.hid (HQ19_0.out.below hb)
 clear HQ19_0
 have HQ20 := Lib.hid (hO.holds.isWs HFV.out)
 clear hb hO
 go_wp2_with fail
 refine (HIM0.out _ a19 cp19 _ m (HL.out.below HB25.out) HQ19_1.out HQ20.out hnm HF.out HFV.out ht1).mono ?_
 rintro e w21 ⟨ha, hc, γh, rfl, hha, hb⟩
 clear HQ19_1
 have HB26 := Lib.hid (below_step HB25.out HB25.out.size hb)
 clear HB25
 have HT20 := Lib.hid (below_step HT19.out HT19.out.size hb)
 clear HT19
 have HXG_15 := Lib.hid (HXG_14.out.below hb)
 clear HXG_14
 have HM_4 := Lib.hid (HM_3.out.below hb)
 clear HM_3
 have HS_3 := Lib.hid (HS_2.out.below hb)
 clear HS_2
 have HXS_3 := Lib.hid (HXS_2.out.below hb)
 clear HXS_2
 have HSA3 := Lib.hid (HSA2.out.below hb)
 clear HSA2
 clear hb HQ20
 have HHA0 := Lib.hid (hha.isWs HXF.out)
 clear hha
 unfold shV
 have hA : Below w21.heap.size w21 (w21.alloc (.cells #[.int .i64 X.si, .int .i64 X.cl, .int .i64 X.sq, .int .i64 X.la, .slice ha X.ws.length hc, .string X.t] 26)) := (Below.refl _ _).alloc (Nat.le_refl _) _
 have hzV21 : (w21.alloc (.cells #[.int .i64 X.si, .int .i64 X.cl, .int .i64 X.sq, .int .i64 X.la, .slice ha X.ws.length hc, .string X.t] 26)).heap.size = w21.heap.size + 1 := by simp
 have HXP_0 := Lib.hid (SBox.start w21 X.si X.cl X.sq X.la ha X.ws.length hc X.t 26)
 have HB27 := Lib.hid (below_step HB26.out HB26.out.size hA)
 clear HB26
 have HT21 := Lib.hid (below_step HT20.out HT20.out.size hA)
 clear HT20
 have HXG_16 := Lib.hid (HXG_15.out.below hA)
 clear HXG_15
 have HM_5 := Lib.hid (HM_4.out.below hA)
 clear HM_4
 have HS_4 := Lib.hid (HS_3.out.below hA)
 clear HS_3
 have HXS_4 := Lib.hid (HXS_3.out.below hA)
 clear HXS_3
 have HSA4 := Lib.hid (HSA3.out.below hA)
 clear HSA3
 have HHA1 := Lib.hid (HHA0.out.below hA)
 clear HHA0
 clear hA
 obtain ⟨-, x0, x1, x2, x3, x4, x5, -⟩ := HXP_0.out
 obtain ⟨-, y0, y1, y2, y3, y4, y5, -⟩ := HXS_4.out
 go_wp2_with fail
 generalize (w21.alloc (.cells #[.int .i64 X.si, .int .i64 X.cl, .int .i64 X.sq, .int .i64 X.la, .slice ha X.ws.length hc, .string X.t] 26)) = V21 at *
 have hyV21 : w21.heap.size < V21.heap.size := by omega
 clear hzV21
 clear x0 x1 x2 x3 x4 x5 y0 y1 y2 y3 y4 y5
 refine (eqShim_same _ _ _ _ ha sa X.ws.length hc sc _ X.ws _ rfl (by omega) HXF.out (HHA1.out) HSA4.out).mono ?_
 rintro e w22 ⟨rfl, hb⟩
 have HB28 := Lib.hid (below_step HB27.out HB27.out.size hb)
 clear HB27
 have HT22 := Lib.hid (below_step HT21.out HT21.out.size hb)
 clear HT21
 have HXG_17 := Lib.hid (HXG_16.out.below hb)
 clear HXG_16
 have HM_6 := Lib.hid (HM_5.out.below hb)
 clear HM_5
 have HS_5 := Lib.hid (HS_4.out.below hb)
 clear HS_4
 have HXS_5 := Lib.hid (HXS_4.out.below hb)
 clear HXS_4
 have HSA5 := Lib.hid (HSA4.out.below hb)
 clear HSA4
 have HHA2 := Lib.hid (HHA1.out.below hb)
 clear HHA1
 have HXP_1 := Lib.hid (HXP_0.out.below hb)
 clear HXP_0
 clear hb
 obtain ⟨-, y0, y1, y2, y3, y4, y5, -⟩ := HXG_17.out
 go_wp2_with fail
 clear y0 y1 y2 y3 y4 y5
 refine (HHE.out _ HM_6.out).mono ?_
 rintro e w23 ⟨rfl, hb⟩
 have HB29 := Lib.hid (below_step HB28.out HB28.out.size hb)
 clear HB28
 have HT23 := Lib.hid (below_step HT22.out HT22.out.size hb)
 clear HT22
 have HXG_18 := Lib.hid (HXG_17.out.below hb)
 clear HXG_17
 have HM_7 := Lib.hid (HM_6.out.below hb)
 clear HM_6
 have HS_6 := Lib.hid (HS_5.out.below hb)
 clear HS_5
 have HXS_6 := Lib.hid (HXS_5.out.below hb)
 clear HXS_5
 have HSA6 := Lib.hid (HSA5.out.below hb)
 clear HSA5
 have HHA3 := Lib.hid (HHA2.out.below hb)
 clear HHA2
 have HXP_2 := Lib.hid (HXP_1.out.below hb)
 clear HXP_1
 clear hb
 go_wp2
 go_ret
 exact ⟨rfl, HB29.out⟩
end Go.Proofs.YteladgfdedlmjaaGreatDoor.lawShimSee
