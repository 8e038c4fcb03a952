import Derived.Test.YtbbmpfkijhhemaaGreatDoorPack17
import Derived.Test.YtbbmpfkijhhemaaGreatDoorPack23
import Derived.ChangeShapes
import Derived.WideShapes
import Derived.Test.YtbbmpfkijhhemaaGreatDoorProg
namespace Go.Proofs.YtbbmpfkijhhemaaGreatDoor.lawShimPut
open Go.ChangeShapes Go.WideShapes Go.ChangeAt Go.RowKit Go.Joins
set_option maxRecDepth 100000
attribute [local go_sem ↓] Go.wp_at_zero Go.wp_at_succ

def CopyF (si cl sq la : Int) (ws : List Wr) (t : ByteArray) : Fact := fun v w => ∃ a' cp, v = shV si cl sq la a' ws.length cp t ∧ IsWs w a' ws

theorem lasts_copy (si cl sq la : Int) (ws : List Wr) (t : ByteArray) : lasts (fun w w' => Below w.heap.size w w') (CopyF si cl sq la ws t) := by
  rintro v w w' ⟨a', cp, h1, h2⟩ hr
  exact ⟨a', cp, h1, h2.below hr⟩

theorem put_small (x : Sm) (key val : Int) (de : Bool) (mask : Int) : (putAns x key val de mask).1.ws.length ≤ 6 ∧ bulk (putAns x key val de mask).1.ws ≤ 36 ∧ Few (putAns x key val de mask).1.ws ∧ (putAns x key val de mask).2.1.xs.length ≤ 42 := by
  unfold putAns
  split
  · rename_i h
    have hok : smOkB x = true := by
      rw [rightP_eq] at h
      simp only [Bool.and_eq_true] at h
      exact h.2
    have hm := (right_of hok).1
    split
    · rename_i h2
      have hy : okW (putWr x key val de mask) = true := by
        unfold putGo at h2
        simp only [Bool.and_eq_true] at h2
        exact h2.1
      have hr := (mapOk_iff _).1 hm
      have h3 : mapOkB (putW x.ws (putWr x key val de mask)) = true := by
        rw [mapOk_iff]
        refine ⟨fun z hz => ?_, rise_putW hr.2 _⟩
        rcases putW_mem hr.2 hz with rfl | hz
        · exact hy
        · exact hr.1 z hz
      exact ⟨mapOk_len h3, mapOk_bulk h3, ok_few h3, becB_42 _ _⟩
    · exact ⟨by simp [smz], by simp [smz, bulk], fun i hi => by simp [smz] at hi, by simp [wz]⟩
  · exact ⟨by simp [smz], by simp [smz, bulk], fun i hi => by simp [smz] at hi, by simp [wz]⟩

set_option maxHeartbeats 16000000 in
theorem walk (x : Sm) (a : Option Addr) (cap : Nat) (key val : Int) (de : Bool) (mask : Int) (w : World) (hl : x.ws.length ≤ maxLen) (ht : x.t.size ≤ maxLen) (hi : IsWs w a x.ws) (_ : -9223372036854775808 ≤ key ∧ key ≤ 9223372036854775807) (_ : -9223372036854775808 ≤ val ∧ val ≤ 9223372036854775807) (_ : -9223372036854775808 ≤ mask ∧ mask ≤ 9223372036854775807) (hL : LV w) :
    Calls Tryz.prog 6 #[smV x a cap, .int .i64 key, .int .i64 val, .bool de, .int .i64 mask] w fun e w' => e = .returned (.bool true) ∧ Below w.heap.size w w' := by
  have hsm := put_small x key val de mask
  obtain ⟨Z, hZ⟩ : ∃ Z, Z = putAns x key val de mask := ⟨_, rfl⟩
  rw [← hZ] at hsm
  have HSP0 : Hid (∀ W a cap, IsWs W a x.ws → x.ws.length ≤ 1048576 → Few x.ws → x.t.size ≤ 1048576 → Calls Tryz.prog 10 #[smV x a cap, .int .i64 key, .int .i64 val, .bool de, .int .i64 mask] W fun e w' => ∃ a' cp' ad cd, e = .returned (.tuple #[smV Z.1 a' cp', wrOf Z.2.1 ad cd, .int .i64 Z.2.2]) ∧ IsWs w' a' Z.1.ws ∧ IsDeps w' ad Z.2.1.xs ∧ Below W.heap.size W w') := fun W a cap hw h1 h2 h3 => by
    rw [hZ]
    refine (specPut_x x a cap key val de mask W h1 h2 h3 hw).mono ?_
    rintro e w' ⟨a', cp', ad, cd, he, hf, hd, hb⟩
    exact ⟨a', cp', ad, cd, he, hf.isWs (by rw [← hZ]; exact hsm.2.2.1), hd.isDeps, hb⟩
  have HIM0 : Hid (∀ W a cap, LV W → IsWs W a x.ws → x.ws.length ≤ 1048576 → Few x.ws → x.t.size ≤ 1048576 → Calls Tryz.prog 9 #[smV x a cap, .int .i64 key, .int .i64 val, .bool de, .int .i64 mask] W fun e w' => PutAns W Z e w') := fun W a cap hv hw h1 h2 h3 => by
    rw [hZ]
    exact implPut_x x a cap key val de mask W h1 h2 h3 hw hv
  clear hZ
  obtain ⟨X, Y, c⟩ := Z
  obtain ⟨hX6, hXb, hXf, hY42⟩ := hsm
  simp only at hX6 hXb hXf hY42 HSP0 HIM0
  unfold PutAns at HIM0
  simp only at HIM0
  have HXF := Lib.hid hXf
  clear hXf
  obtain ⟨si, cl, sq, la, ws, t⟩ := x
  simp only at hl ht hi HSP0 HIM0
  have HL := Lib.hid hL
  have HI := Lib.hid hi
  clear hL hi
  have HX0 : Hid (∀ W a cap, IsWs W a ws → ws.length ≤ 1048576 → Few ws → Calls Tryz.prog 28 #[shV si cl sq la a ws.length cap t] W fun e w' => ∃ a' cp γ, e = .returned (shV si cl sq la a' ws.length cp t) ∧ OwnA w' W.heap.size w'.heap.size a' ws γ ∧ Below W.heap.size W w') := fun W a cap hw h1 h2 => toShim_any ⟨si, cl, sq, la, ws, t⟩ a cap W h1 h2 hw
  unfold smV at HSP0 HIM0 ⊢
  simp only at HSP0 HIM0 ⊢
  obtain ⟨n, hnn⟩ : ∃ n, ws.length = n := ⟨_, rfl⟩
  rw [hnn] at hl HX0 HSP0 HIM0
  rw [hnn]
  have HN := Lib.hid hnn
  clear hnn
  have HB0 : Hid (Below w.heap.size w (w.alloc (.cells #[.int .i64 si, .int .i64 cl, .int .i64 sq, .int .i64 la, .slice a n cap, .string t] 53))) := (Below.refl _ _).alloc (Nat.le_refl _) _
  have HS0 := Lib.hid (SBox.start w si cl sq la a n cap t 53)
  unfold shV
  go_enter Tryz.func6, Tryz.ntmps6
  go_wp2_with fail
  generalize (w.alloc (.cells #[.int .i64 si, .int .i64 cl, .int .i64 sq, .int .i64 la, .slice a n cap, .string t] 53)) = V0 at *
  refine (szShim_any si cl sq la a n cap t 1048576 ws _ (by omega) (by omega) hl ht HN.out (HI.out.below HB0.out)).mono ?_
  rintro e w1 ⟨r, rfl, hr, hb⟩
  have HB1 := Lib.hid (below_step HB0.out HB0.out.size hb)
  clear HB0
  have HS1 := Lib.hid (HS0.out.below hb)
  clear HS0
  clear hb
  rcases hr with rfl | ⟨r0, hr⟩
  · go_wp2
    go_ret
    exact ⟨rfl, HB1.out⟩
  have hn1 : n ≤ 1048576 := by omega
  have ht1 : t.size ≤ 1048576 := by omega
  have hbu : bulk ws ≤ 1048576 := by omega
  have HF : Hid (Few ws) := few_of_bulk hbu
  clear hr
  obtain ⟨-, x0, x1, x2, x3, x4, x5, -⟩ := HS1.out
  go_wp2_with fail
  refine (HX0.out _ a cap (HI.out.below HB1.out) hn1 HF.out).mono ?_
  rintro e w2 ⟨a2, cp2, γ2, rfl, ho, hb⟩
  have HB2 := Lib.hid (below_step HB1.out HB1.out.size hb)
  clear HB1
  have HS2 := Lib.hid (HS1.out.below hb)
  clear HS1
  clear x0 x1 x2 x3 x4 x5
  have HW2 := Lib.hid (ho.isWs HF.out)
  clear hb ho
  go_wp2_with fail
  refine (HSP0.out _ a2 cp2 HW2.out hn1 HF.out ht1).mono ?_
  rintro e w3 ⟨sa, sc, sd, sdc, rfl, hsw, hsd, hb⟩
  have HB3 := Lib.hid (below_step HB2.out HB2.out.size hb)
  clear HB2
  have HS3 := Lib.hid (HS2.out.below hb)
  clear HS2
  clear hb HW2
  unfold shV wrOf
  have HSA0 := Lib.hid (hsw)
  have HSD0 := Lib.hid (hsd)
  clear hsw hsd
  have hA : Below w3.heap.size w3 ((w3.alloc (.cells #[.int .i64 X.si, .int .i64 X.cl, .int .i64 X.sq, .int .i64 X.la, .slice sa X.ws.length sc, .string X.t] 26)).alloc (.cells #[.int .i64 Y.k, .int .i64 Y.c, .int .i64 Y.s, .int .i64 Y.q, .int .i64 Y.v, .bool Y.de, .slice sd Y.xs.length sdc] 33)) := ((Below.refl _ _).alloc (Nat.le_refl _) _).alloc (by simp) _
  have hzV3 : ((w3.alloc (.cells #[.int .i64 X.si, .int .i64 X.cl, .int .i64 X.sq, .int .i64 X.la, .slice sa X.ws.length sc, .string X.t] 26)).alloc (.cells #[.int .i64 Y.k, .int .i64 Y.c, .int .i64 Y.s, .int .i64 Y.q, .int .i64 Y.v, .bool Y.de, .slice sd Y.xs.length sdc] 33)).heap.size = w3.heap.size + 1 + 1 := by simp
  have h1V3 : SBox ((w3.alloc (.cells #[.int .i64 X.si, .int .i64 X.cl, .int .i64 X.sq, .int .i64 X.la, .slice sa X.ws.length sc, .string X.t] 26)).alloc (.cells #[.int .i64 Y.k, .int .i64 Y.c, .int .i64 Y.s, .int .i64 Y.q, .int .i64 Y.v, .bool Y.de, .slice sd Y.xs.length sdc] 33)) w3.heap.size X.si X.cl X.sq X.la sa X.ws.length sc X.t := (SBox.start w3 X.si X.cl X.sq X.la sa X.ws.length sc X.t 26).below ((Below.refl _ _).alloc (Nat.le_refl _) _)
  have h2V3 : RBox ((w3.alloc (.cells #[.int .i64 X.si, .int .i64 X.cl, .int .i64 X.sq, .int .i64 X.la, .slice sa X.ws.length sc, .string X.t] 26)).alloc (.cells #[.int .i64 Y.k, .int .i64 Y.c, .int .i64 Y.s, .int .i64 Y.q, .int .i64 Y.v, .bool Y.de, .slice sd Y.xs.length sdc] 33)) (w3.heap.size + 1) Y.k Y.c Y.s Y.q Y.v Y.de sd Y.xs.length sdc := by have := RBox.start (w3.alloc (.cells #[.int .i64 X.si, .int .i64 X.cl, .int .i64 X.sq, .int .i64 X.la, .slice sa X.ws.length sc, .string X.t] 26)) Y.k Y.c Y.s Y.q Y.v Y.de sd Y.xs.length sdc 33; simpa using this
  have HB4 := Lib.hid (below_step HB3.out HB3.out.size hA)
  clear HB3
  have HS4 := Lib.hid (HS3.out.below hA)
  clear HS3
  have HSA1 := Lib.hid (HSA0.out.below hA)
  clear HSA0
  have HSD1 := Lib.hid (HSD0.out.below hA)
  clear HSD0
  clear hA
  obtain ⟨-, x0, x1, x2, x3, x4, x5, -⟩ := HS4.out
  go_wp2_with fail
  generalize ((w3.alloc (.cells #[.int .i64 X.si, .int .i64 X.cl, .int .i64 X.sq, .int .i64 X.la, .slice sa X.ws.length sc, .string X.t] 26)).alloc (.cells #[.int .i64 Y.k, .int .i64 Y.c, .int .i64 Y.s, .int .i64 Y.q, .int .i64 Y.v, .bool Y.de, .slice sd Y.xs.length sdc] 33)) = V3 at *
  clear x0 x1 x2 x3 x4 x5
  have HXS := Lib.hid h1V3
  have HXW := Lib.hid h2V3
  clear h1V3 h2V3
  have HXS_0 := HXS
  clear HXS
  have HXW_0 := HXW
  clear HXW
  have HS3 := HS4
  have HXS3 := HXS_0
  have HXW3 := HXW_0
  have HSA3 := HSA1
  have HSD3 := HSD1
  have hwV3 : w.heap.size ≤ V3.heap.size := HB4.out.size
  refine (HX0.out _ a cap (HI.out.below HB4.out) hn1 HF.out).mono ?_
  rintro e w4 ⟨a4, cp4, γ4, rfl, ho, hb⟩
  have h34 : V3.heap.size ≤ w4.heap.size := hb.size
  have HT0 : Hid (Below V3.heap.size V3 V3) := Below.refl _ _
  have HB5 := Lib.hid (below_step HB4.out HB4.out.size hb)
  clear HB4
  have HS5 := Lib.hid (HS4.out.below hb)
  clear HS4
  have HSA2 := Lib.hid (HSA1.out.below hb)
  clear HSA1
  have HSD2 := Lib.hid (HSD1.out.below hb)
  clear HSD1
  have HXS_1 := Lib.hid (HXS_0.out.below hb)
  clear HXS_0
  have HXW_1 := Lib.hid (HXW_0.out.below hb HXW_0.out.lt)
  clear HXW_0
  have HT1 := Lib.hid (below_step HT0.out HT0.out.size hb)
  clear HT0
  have HO0 := Lib.hid (ho)
  clear hb ho
  unfold shV
  have hA : Below w4.heap.size w4 (w4.alloc (.cells #[.int .i64 si, .int .i64 cl, .int .i64 sq, .int .i64 la, .slice a4 n cp4, .string t] 26)) := (Below.refl _ _).alloc (Nat.le_refl _) _
  have hzA : (w4.alloc (.cells #[.int .i64 si, .int .i64 cl, .int .i64 sq, .int .i64 la, .slice a4 n cp4, .string t] 26)).heap.size = w4.heap.size + 1 := by simp
  have HX_0 := Lib.hid (SBox.start w4 si cl sq la a4 n cp4 t 26)
  have HB6 := Lib.hid (below_step HB5.out HB5.out.size hA)
  clear HB5
  have HS6 := Lib.hid (HS5.out.below hA)
  clear HS5
  have HSA3 := Lib.hid (HSA2.out.below hA)
  clear HSA2
  have HSD3 := Lib.hid (HSD2.out.below hA)
  clear HSD2
  have HXS_2 := Lib.hid (HXS_1.out.below hA)
  clear HXS_1
  have HXW_2 := Lib.hid (HXW_1.out.below hA HXW_1.out.lt)
  clear HXW_1
  have HT2 := Lib.hid (below_step HT1.out HT1.out.size hA)
  clear HT1
  have HO1 := Lib.hid (HO0.out.below hA)
  clear HO0
  clear hA
  obtain ⟨-, y0, y1, y2, y3, y4, y5, -⟩ := HX_0.out
  go_wp2_with fail
  generalize (w4.alloc (.cells #[.int .i64 si, .int .i64 cl, .int .i64 sq, .int .i64 la, .slice a4 n cp4, .string t] 26)) = V4 at *
  clear y0 y1 y2 y3 y4 y5
  refine (HIM0.out _ a4 cp4 (HL.out.below HB6.out) (HO1.out.isWs HF.out) hn1 HF.out ht1).mono ?_
  rintro e w6 ⟨ga, gc, gd, gdc, mid, γg, rfl, hm1, hm2, hgd, hga, hb⟩
  have h46 : V4.heap.size ≤ w6.heap.size := hb.size
  have HB7 := Lib.hid (below_step HB6.out HB6.out.size hb)
  clear HB6
  have HS7 := Lib.hid (HS6.out.below hb)
  clear HS6
  have HSA4 := Lib.hid (HSA3.out.below hb)
  clear HSA3
  have HSD4 := Lib.hid (HSD3.out.below hb)
  clear HSD3
  have HXS_3 := Lib.hid (HXS_2.out.below hb)
  clear HXS_2
  have HXW_3 := Lib.hid (HXW_2.out.below hb HXW_2.out.lt)
  clear HXW_2
  have HT3 := Lib.hid (below_step HT2.out HT2.out.size hb)
  clear HT2
  have HO2 := Lib.hid (HO1.out.below hb)
  clear HO1
  have HX_1 := Lib.hid (HX_0.out.below hb)
  clear HX_0
  have HG0 := Lib.hid (hga)
  have HD0 := Lib.hid (hgd)
  clear hb hga hgd
  unfold shV wrOf
  have hA : Below w6.heap.size w6 ((w6.alloc (.cells #[.int .i64 X.si, .int .i64 X.cl, .int .i64 X.sq, .int .i64 X.la, .slice ga X.ws.length gc, .string X.t] 26)).alloc (.cells #[.int .i64 Y.k, .int .i64 Y.c, .int .i64 Y.s, .int .i64 Y.q, .int .i64 Y.v, .bool Y.de, .slice gd Y.xs.length gdc] 33)) := ((Below.refl _ _).alloc (Nat.le_refl _) _).alloc (by simp) _
  have hzV6 : ((w6.alloc (.cells #[.int .i64 X.si, .int .i64 X.cl, .int .i64 X.sq, .int .i64 X.la, .slice ga X.ws.length gc, .string X.t] 26)).alloc (.cells #[.int .i64 Y.k, .int .i64 Y.c, .int .i64 Y.s, .int .i64 Y.q, .int .i64 Y.v, .bool Y.de, .slice gd Y.xs.length gdc] 33)).heap.size = w6.heap.size + 1 + 1 := by simp
  have h1V6 : SBox ((w6.alloc (.cells #[.int .i64 X.si, .int .i64 X.cl, .int .i64 X.sq, .int .i64 X.la, .slice ga X.ws.length gc, .string X.t] 26)).alloc (.cells #[.int .i64 Y.k, .int .i64 Y.c, .int .i64 Y.s, .int .i64 Y.q, .int .i64 Y.v, .bool Y.de, .slice gd Y.xs.length gdc] 33)) w6.heap.size X.si X.cl X.sq X.la ga X.ws.length gc X.t := (SBox.start w6 X.si X.cl X.sq X.la ga X.ws.length gc X.t 26).below ((Below.refl _ _).alloc (Nat.le_refl _) _)
  have h2V6 : RBox ((w6.alloc (.cells #[.int .i64 X.si, .int .i64 X.cl, .int .i64 X.sq, .int .i64 X.la, .slice ga X.ws.length gc, .string X.t] 26)).alloc (.cells #[.int .i64 Y.k, .int .i64 Y.c, .int .i64 Y.s, .int .i64 Y.q, .int .i64 Y.v, .bool Y.de, .slice gd Y.xs.length gdc] 33)) (w6.heap.size + 1) Y.k Y.c Y.s Y.q Y.v Y.de gd Y.xs.length gdc := by have := RBox.start (w6.alloc (.cells #[.int .i64 X.si, .int .i64 X.cl, .int .i64 X.sq, .int .i64 X.la, .slice ga X.ws.length gc, .string X.t] 26)) Y.k Y.c Y.s Y.q Y.v Y.de gd Y.xs.length gdc 33; simpa using this
  have HB8 := Lib.hid (below_step HB7.out HB7.out.size hA)
  clear HB7
  have HS8 := Lib.hid (HS7.out.below hA)
  clear HS7
  have HSA5 := Lib.hid (HSA4.out.below hA)
  clear HSA4
  have HSD5 := Lib.hid (HSD4.out.below hA)
  clear HSD4
  have HXS_4 := Lib.hid (HXS_3.out.below hA)
  clear HXS_3
  have HXW_4 := Lib.hid (HXW_3.out.below hA HXW_3.out.lt)
  clear HXW_3
  have HT4 := Lib.hid (below_step HT3.out HT3.out.size hA)
  clear HT3
  have HO3 := Lib.hid (HO2.out.below hA)
  clear HO2
  have HX_2 := Lib.hid (HX_1.out.below hA)
  clear HX_1
  have HG1 := Lib.hid (HG0.out.below hA)
  clear HG0
  have HD1 := Lib.hid (HD0.out.below hA)
  clear HD0
  clear hA
  have HXG_0 := Lib.hid h1V6
  have HXH_0 := Lib.hid h2V6
  clear h1V6 h2V6
  obtain ⟨-, x0, x1, x2, x3, x4, x5, -⟩ := HXG_0.out
  obtain ⟨-, y0, y1, y2, y3, y4, y5, -⟩ := HXS_4.out
  go_wp2_with fail
  generalize ((w6.alloc (.cells #[.int .i64 X.si, .int .i64 X.cl, .int .i64 X.sq, .int .i64 X.la, .slice ga X.ws.length gc, .string X.t] 26)).alloc (.cells #[.int .i64 Y.k, .int .i64 Y.c, .int .i64 Y.s, .int .i64 Y.q, .int .i64 Y.v, .bool Y.de, .slice gd Y.xs.length gdc] 33)) = V6 at *
  clear x0 x1 x2 x3 x4 x5 y0 y1 y2 y3 y4 y5
  refine (eqShim_same _ _ _ _ ga sa X.ws.length gc sc _ X.ws _ rfl (by omega) HXF.out (HG1.out.isWs HXF.out) HSA5.out).mono ?_
  rintro e w7 ⟨rfl, hb⟩
  have HB9 := Lib.hid (below_step HB8.out HB8.out.size hb)
  clear HB8
  have HS9 := Lib.hid (HS8.out.below hb)
  clear HS8
  have HSA6 := Lib.hid (HSA5.out.below hb)
  clear HSA5
  have HSD6 := Lib.hid (HSD5.out.below hb)
  clear HSD5
  have HXS_5 := Lib.hid (HXS_4.out.below hb)
  clear HXS_4
  have HXW_5 := Lib.hid (HXW_4.out.below hb HXW_4.out.lt)
  clear HXW_4
  have HT5 := Lib.hid (below_step HT4.out HT4.out.size hb)
  clear HT4
  have HO4 := Lib.hid (HO3.out.below hb)
  clear HO3
  have HX_3 := Lib.hid (HX_2.out.below hb)
  clear HX_2
  have HG2 := Lib.hid (HG1.out.below hb)
  clear HG1
  have HD2 := Lib.hid (HD1.out.below hb)
  clear HD1
  have HXG_1 := Lib.hid (HXG_0.out.below hb)
  clear HXG_0
  have HXH_1 := Lib.hid (HXH_0.out.below hb HXH_0.out.lt)
  clear HXH_0
  clear hb
  obtain ⟨-, u0, u1, u2, u3, u4, u5, u6, -⟩ := HXH_1.out
  obtain ⟨-, v0, v1, v2, v3, v4, v5, v6, -⟩ := HXW_5.out
  go_wp2_with fail
  clear u0 u1 u2 u3 u4 u5 u6 v0 v1 v2 v3 v4 v5 v6
  refine (eqWrite_gen Y.k Y.c Y.s Y.q Y.v Y.de gd sd Y.xs.length gdc sdc Y.xs _ (by omega) rfl (HD2.out.isDeps) HSD6.out).mono ?_
  rintro e w8 ⟨rfl, hb⟩
  have HB10 := Lib.hid (below_step HB9.out HB9.out.size hb)
  clear HB9
  have HS10 := Lib.hid (HS9.out.below hb)
  clear HS9
  have HSA7 := Lib.hid (HSA6.out.below hb)
  clear HSA6
  have HSD7 := Lib.hid (HSD6.out.below hb)
  clear HSD6
  have HXS_6 := Lib.hid (HXS_5.out.below hb)
  clear HXS_5
  have HXW_6 := Lib.hid (HXW_5.out.below hb HXW_5.out.lt)
  clear HXW_5
  have HT6 := Lib.hid (below_step HT5.out HT5.out.size hb)
  clear HT5
  have HO5 := Lib.hid (HO4.out.below hb)
  clear HO4
  have HX_4 := Lib.hid (HX_3.out.below hb)
  clear HX_3
  have HG3 := Lib.hid (HG2.out.below hb)
  clear HG2
  have HD3 := Lib.hid (HD2.out.below hb)
  clear HD2
  have HXG_2 := Lib.hid (HXG_1.out.below hb)
  clear HXG_1
  have HXH_2 := Lib.hid (HXH_1.out.below hb HXH_1.out.lt)
  clear HXH_1
  clear hb
  go_wp2_with fail
  refine wp_region_slots 3 [[(15, false)], [(5, false)], [(69, true)]] (fun w' => Below w8.heap.size w8 w') (fun w w' => Below w.heap.size w w') (by kernel_rfl) (by kernel_rfl) (by rfl) (Below.refl _ _).drew (fun _ _ h hr => below_step h h.size hr) ?_
  apply slot_eq
  · intro ρ w' ⟨p1, p2, p3⟩ hS hn
    obtain ⟨-, y0, y1, y2, y3, y4, y5, -⟩ := HX_4.out.below hS
    simp at hn
    go_simp
    exact ⟨Below.refl _ _, rfl⟩
  apply slot_eq
  · intro ρ w' ⟨p1, p2, p3⟩ hS hn
    obtain ⟨-, y0, y1, y2, y3, y4, y5, -⟩ := HS10.out.below hS
    simp at hn
    go_simp
    exact ⟨Below.refl _ _, rfl⟩
  refine slot_fact (CopyF si cl sq la ws t) (lasts_copy _ _ _ _ _ _) ?_ ?_
  · intro ρ w' ⟨p1, p2, p3⟩ hS hn
    simp at hn
    go_simp
    exact got_call (HX0.out w' a cap (HI.out.below (below_step HB10.out HB10.out.size hS)) hn1 HF.out) fun e w'' ⟨a', cp, γ, he, ho, hb⟩ => ⟨_, he, hb, a', cp, by rw [HN.out], ho.isWs HF.out⟩
  refine slot_end ?_
  intro tv w9 hb hF
  simp at hF
  obtain ⟨⟨a8, cp8, f70, hw8⟩, f69, f68⟩ := hF
  simp only [List.take_succ_cons, List.take_zero, List.drop_succ_cons, List.drop_zero, putAll, f70, f69, f68]
  clear f70 f69 f68
  simp only [Act.put, List.setIfInBounds_toArray, List.set_cons_succ, List.set_cons_zero]
  have HB11 := Lib.hid (below_step HB10.out HB10.out.size hb)
  clear HB10
  have HS11 := Lib.hid (HS10.out.below hb)
  clear HS10
  have HSA8 := Lib.hid (HSA7.out.below hb)
  clear HSA7
  have HSD8 := Lib.hid (HSD7.out.below hb)
  clear HSD7
  have HXS_7 := Lib.hid (HXS_6.out.below hb)
  clear HXS_6
  have HXW_7 := Lib.hid (HXW_6.out.below hb HXW_6.out.lt)
  clear HXW_6
  have HT7 := Lib.hid (below_step HT6.out HT6.out.size hb)
  clear HT6
  have HO6 := Lib.hid (HO5.out.below hb)
  clear HO5
  have HX_5 := Lib.hid (HX_4.out.below hb)
  clear HX_4
  have HG4 := Lib.hid (HG3.out.below hb)
  clear HG3
  have HD4 := Lib.hid (HD3.out.below hb)
  clear HD3
  have HXG_3 := Lib.hid (HXG_2.out.below hb)
  clear HXG_2
  have HXH_3 := Lib.hid (HXH_2.out.below hb HXH_2.out.lt)
  clear HXH_2
  have HC8 := Lib.hid hw8
  rw [HN.out]
  clear hb hw8
  go_wp2_with fail
  refine (eqShim_same si cl sq la a4 a8 n cp4 cp8 t ws _ HN.out hn1 HF.out (HO6.out.isWs HF.out) HC8.out).mono ?_
  rintro e w10 ⟨rfl, hb⟩
  have HB12 := Lib.hid (below_step HB11.out HB11.out.size hb)
  clear HB11
  have HS12 := Lib.hid (HS11.out.below hb)
  clear HS11
  have HSA9 := Lib.hid (HSA8.out.below hb)
  clear HSA8
  have HSD9 := Lib.hid (HSD8.out.below hb)
  clear HSD8
  have HXS_8 := Lib.hid (HXS_7.out.below hb)
  clear HXS_7
  have HXW_8 := Lib.hid (HXW_7.out.below hb HXW_7.out.lt)
  clear HXW_7
  have HT8 := Lib.hid (below_step HT7.out HT7.out.size hb)
  clear HT7
  have HO7 := Lib.hid (HO6.out.below hb)
  clear HO6
  have HX_6 := Lib.hid (HX_5.out.below hb)
  clear HX_5
  have HG5 := Lib.hid (HG4.out.below hb)
  clear HG4
  have HD5 := Lib.hid (HD4.out.below hb)
  clear HD4
  have HXG_4 := Lib.hid (HXG_3.out.below hb)
  clear HXG_3
  have HXH_4 := Lib.hid (HXH_3.out.below hb HXH_3.out.lt)
  clear HXH_3
  clear hb HC8
  obtain ⟨-, y0, y1, y2, y3, y4, y5, -⟩ := HX_6.out
  go_wp2_with fail
  clear y0 y1 y2 y3 y4 y5
  refine (markShim_any si cl sq la t V3.heap.size w4.heap.size n cp4 a4 1 ws γ4 _ HN.out hn1 hbu (by omega) (by omega) HO7.out).mono ?_
  rintro e w11 ⟨rfl, -, w11', hb, ho⟩
  clear HO7
  clear HX_6
  have HB13 := Lib.hid (below_step HB12.out HB12.out.size hb)
  clear HB12
  have HS13 := Lib.hid (HS12.out.below hb)
  clear HS12
  have HSA10 := Lib.hid (HSA9.out.below hb)
  clear HSA9
  have HSD10 := Lib.hid (HSD9.out.below hb)
  clear HSD9
  have HXS_9 := Lib.hid (HXS_8.out.below hb)
  clear HXS_8
  have HXW_9 := Lib.hid (HXW_8.out.below hb HXW_8.out.lt)
  clear HXW_8
  have HT9 := Lib.hid (below_step HT8.out HT8.out.size hb)
  clear HT8
  have HG6 := Lib.hid (HG5.out.below hb)
  clear HG5
  have HD6 := Lib.hid (HD5.out.below hb)
  clear HD5
  have HXG_5 := Lib.hid (HXG_4.out.below hb)
  clear HXG_4
  have HXH_5 := Lib.hid (HXH_4.out.below hb HXH_4.out.lt)
  clear HXH_4
  have hbl : Below V3.heap.size w11' w11 := ho.below fun x hx => hx.1
  clear HS13
  clear HXS_9
  clear HXW_9
  clear HSA10
  clear HSD10
  have HB14 := Lib.hid (HB13.out.trans (hbl.mono hwV3))
  clear HB13
  have HT10 := Lib.hid (HT9.out.trans hbl)
  clear HT9
  have HG7 := Lib.hid (HG6.out.only ho fun x hx => by have := hx.2; omega)
  clear HG6
  have HD7 := Lib.hid (HD6.out.only ho fun x hx => .inl (by have := hx.2; omega))
  clear HD6
  have HXG_6 := Lib.hid (HXG_5.out.only ho fun h => by have := h.2; omega)
  clear HXG_5
  have HXH_6 := Lib.hid (HXH_5.out.only ho fun h => by have := h.2; omega)
  clear HXH_5
  clear hb ho hbl
  have HS_0 := Lib.hid (HS3.out.below HT10.out)
  have HXS_0 := Lib.hid (HXS3.out.below HT10.out)
  have HXW_0 := Lib.hid (HXW3.out.below HT10.out HXW3.out.lt)
  have HSA0 := Lib.hid (HSA3.out.below HT10.out)
  have HSD0 := Lib.hid (HSD3.out.below HT10.out)
  have hk : 0 ≤ markK ws 1 n := by
    have := bulk_take_le ws n
    unfold markK
    omega
  generalize markK ws 1 n = kx at *
  obtain ⟨-, x0, x1, x2, x3, x4, x5, -⟩ := HXG_6.out
  obtain ⟨-, y0, y1, y2, y3, y4, y5, -⟩ := HXS_0.out
  go_wp2_with fail
  clear x0 x1 x2 x3 x4 x5 y0 y1 y2 y3 y4 y5
  refine (eqShim_same _ _ _ _ ga sa X.ws.length gc sc _ X.ws _ rfl (by omega) HXF.out (HG7.out.isWs HXF.out) HSA0.out).mono ?_
  rintro e w12 ⟨rfl, hb⟩
  have HB15 := Lib.hid (below_step HB14.out HB14.out.size hb)
  clear HB14
  have HT11 := Lib.hid (below_step HT10.out HT10.out.size hb)
  clear HT10
  have HG8 := Lib.hid (HG7.out.below hb)
  clear HG7
  have HD8 := Lib.hid (HD7.out.below hb)
  clear HD7
  have HXG_7 := Lib.hid (HXG_6.out.below hb)
  clear HXG_6
  have HXH_7 := Lib.hid (HXH_6.out.below hb HXH_6.out.lt)
  clear HXH_6
  have HS_1 := Lib.hid (HS_0.out.below hb)
  clear HS_0
  have HXS_1 := Lib.hid (HXS_0.out.below hb)
  clear HXS_0
  have HXW_1 := Lib.hid (HXW_0.out.below hb HXW_0.out.lt)
  clear HXW_0
  have HSA1 := Lib.hid (HSA0.out.below hb)
  clear HSA0
  have HSD1 := Lib.hid (HSD0.out.below hb)
  clear HSD0
  clear hb
  obtain ⟨-, u0, u1, u2, u3, u4, u5, u6, -⟩ := HXH_7.out
  obtain ⟨-, v0, v1, v2, v3, v4, v5, v6, -⟩ := HXW_1.out
  go_wp2_with fail
  clear u0 u1 u2 u3 u4 u5 u6 v0 v1 v2 v3 v4 v5 v6
  refine (eqWrite_gen Y.k Y.c Y.s Y.q Y.v Y.de gd sd Y.xs.length gdc sdc Y.xs _ (by omega) rfl (HD8.out.isDeps) HSD1.out).mono ?_
  rintro e w13 ⟨rfl, hb⟩
  have HB16 := Lib.hid (below_step HB15.out HB15.out.size hb)
  clear HB15
  have HT12 := Lib.hid (below_step HT11.out HT11.out.size hb)
  clear HT11
  have HG9 := Lib.hid (HG8.out.below hb)
  clear HG8
  have HD9 := Lib.hid (HD8.out.below hb)
  clear HD8
  have HXG_8 := Lib.hid (HXG_7.out.below hb)
  clear HXG_7
  have HXH_8 := Lib.hid (HXH_7.out.below hb HXH_7.out.lt)
  clear HXH_7
  have HS_2 := Lib.hid (HS_1.out.below hb)
  clear HS_1
  have HXS_2 := Lib.hid (HXS_1.out.below hb)
  clear HXS_1
  have HXW_2 := Lib.hid (HXW_1.out.below hb HXW_1.out.lt)
  clear HXW_1
  have HSA2 := Lib.hid (HSA1.out.below hb)
  clear HSA1
  have HSD2 := Lib.hid (HSD1.out.below hb)
  clear HSD1
  clear hb
  have hmk : 0 ≤ markK X.ws 1 X.ws.length ∧ markK X.ws 1 X.ws.length ≤ 1000000 := by
    have := bulk_take_le X.ws X.ws.length
    unfold markK
    constructor <;> omega
  clear HS_2
  clear HXS_2
  clear HXW_2
  clear HSA2
  clear HSD2
  obtain ⟨-, y0, y1, y2, y3, y4, y5, -⟩ := HXG_8.out
  go_wp2_with fail
  clear y0 y1 y2 y3 y4 y5
  refine (markShim_any _ _ _ _ _ mid w6.heap.size X.ws.length gc ga 1 X.ws γg _ rfl (by omega) (by omega) (by omega) (by omega) HG9.out).mono ?_
  rintro e w14 ⟨rfl, hmk1, w14', hb, ho⟩
  have HM0 := Lib.hid hmk1
  have HGK := HG9
  clear HG9
  have HB17 := Lib.hid (below_step HB16.out HB16.out.size hb)
  clear HB16
  have HT13 := Lib.hid (below_step HT12.out HT12.out.size hb)
  clear HT12
  have HD10 := Lib.hid (HD9.out.below hb)
  clear HD9
  have HXG_9 := Lib.hid (HXG_8.out.below hb)
  clear HXG_8
  have HXH_9 := Lib.hid (HXH_8.out.below hb HXH_8.out.lt)
  clear HXH_8
  have hbl : Below mid w14' w14 := ho.below fun x hx => hx.1
  have HB18 := Lib.hid (HB17.out.trans (hbl.mono (by omega)))
  clear HB17
  have HT14 := Lib.hid (HT13.out.trans (hbl.mono (by omega)))
  clear HT13
  have HD11 := Lib.hid (HD10.out.only ho fun x hx => .inr hx.1)
  clear HD10
  have HXG_10 := Lib.hid (HXG_9.out.only ho fun h => by have := h.2; omega)
  clear HXG_9
  have HXH_10 := Lib.hid (HXH_9.out.only ho fun h => by have := h.2; omega)
  clear HXH_9
  clear hb ho hbl hmk1
  obtain ⟨k1, hk1⟩ : ∃ k1, k1 = markK X.ws 1 X.ws.length := ⟨_, rfl⟩
  rw [← hk1] at hmk
  have HKK := Lib.hid hk1
  have HHE : Hid (∀ W, MarkedA W ga X.ws γg 1 → Calls Tryz.prog 33 #[shV X.si X.cl X.sq X.la ga X.ws.length gc X.t, .int .i64 1] W fun e w' => e = .returned (.int .i64 k1) ∧ Below W.heap.size W w') := fun W h => by
    rw [HKK.out]
    exact heldShim_any _ _ _ _ _ X.ws.length gc ga 1 X.ws γg _ rfl (by omega) (by omega) (by omega) (by omega) h
  rw [← hk1]
  clear hk1
  obtain ⟨-, u0, u1, u2, u3, u4, u5, u6, -⟩ := HXH_10.out
  go_wp2_with fail
  clear u0 u1 u2 u3 u4 u5 u6
  refine (markWrite_all Y.k Y.c Y.s Y.q Y.v Y.de V4.heap.size mid Y.xs.length gdc gd k1 Y.xs _ rfl (by omega) (by omega) (by omega) HD11.out).mono ?_
  rintro e w15 ⟨rfl, hmk2, w15', hb, ho⟩
  clear HD11
  have HB19 := Lib.hid (below_step HB18.out HB18.out.size hb)
  clear HB18
  have HT15 := Lib.hid (below_step HT14.out HT14.out.size hb)
  clear HT14
  have HXG_11 := Lib.hid (HXG_10.out.below hb)
  clear HXG_10
  have HXH_11 := Lib.hid (HXH_10.out.below hb HXH_10.out.lt)
  clear HXH_10
  have HM1 := Lib.hid (HM0.out.below hb)
  clear HM0
  have hbl : Below V4.heap.size w15' w15 := ho.below fun x hx => hx.1
  have hM2 := Lib.hid hmk2
  have HB20 := Lib.hid (HB19.out.trans (hbl.mono (by omega)))
  clear HB19
  have HT16 := Lib.hid (HT15.out.trans (hbl.mono (by omega)))
  clear HT15
  have HM2 := Lib.hid (HM1.out.onlyM HGK.out ho fun b hb => hb.2)
  clear HM1
  have HXG_12 := Lib.hid (HXG_11.out.only ho fun h => by have := h.2; omega)
  clear HXG_11
  have HXH_12 := Lib.hid (HXH_11.out.only ho fun h => by have := h.2; omega)
  clear HXH_11
  have HN_0 := hM2
  clear hM2 hb ho hbl hmk2
  obtain ⟨-, y0, y1, y2, y3, y4, y5, -⟩ := HXG_12.out
  go_wp2_with fail
  clear y0 y1 y2 y3 y4 y5
  refine (HHE.out _ HM2.out).mono ?_
  rintro e w16 ⟨rfl, hb⟩
  have HB21 := Lib.hid (below_step HB20.out HB20.out.size hb)
  clear HB20
  have HT17 := Lib.hid (below_step HT16.out HT16.out.size hb)
  clear HT16
  have HXG_13 := Lib.hid (HXG_12.out.below hb)
  clear HXG_12
  have HXH_13 := Lib.hid (HXH_12.out.below hb HXH_12.out.lt)
  clear HXH_12
  have HM3 := Lib.hid (HM2.out.below hb)
  clear HM2
  have HN_1 := Lib.hid (HN_0.out.below hb)
  clear HN_0
  clear hb
  obtain ⟨-, u0, u1, u2, u3, u4, u5, u6, -⟩ := HXH_13.out
  go_wp2_with fail
  clear u0 u1 u2 u3 u4 u5 u6
  refine (heldWrite_all Y.k Y.c Y.s Y.q Y.v Y.de Y.xs.length gdc gd k1 Y.xs _ rfl (by omega) (by omega) (by omega) HN_1.out).mono ?_
  rintro e w17 ⟨rfl, hb⟩
  have HB22 := Lib.hid (below_step HB21.out HB21.out.size hb)
  clear HB21
  have HT18 := Lib.hid (below_step HT17.out HT17.out.size hb)
  clear HT17
  have HXG_14 := Lib.hid (HXG_13.out.below hb)
  clear HXG_13
  have HXH_14 := Lib.hid (HXH_13.out.below hb HXH_13.out.lt)
  clear HXH_13
  have HM4 := Lib.hid (HM3.out.below hb)
  clear HM3
  have HN_2 := Lib.hid (HN_1.out.below hb)
  clear HN_1
  clear hb
  have HS_0 := Lib.hid (HS3.out.below HT18.out)
  have HXS_0 := Lib.hid (HXS3.out.below HT18.out)
  have HXW_0 := Lib.hid (HXW3.out.below HT18.out HXW3.out.lt)
  have HSA0 := Lib.hid (HSA3.out.below HT18.out)
  have HSD0 := Lib.hid (HSD3.out.below HT18.out)
  obtain ⟨-, x0, x1, x2, x3, x4, x5, -⟩ := HS_0.out
  go_wp2_with fail
  refine (HX0.out _ a cap (HI.out.below HB22.out) hn1 HF.out).mono ?_
  rintro e w18 ⟨a18, cp18, γ18, rfl, ho, hb⟩
  have HB23 := Lib.hid (below_step HB22.out HB22.out.size hb)
  clear HB22
  have HT19 := Lib.hid (below_step HT18.out HT18.out.size hb)
  clear HT18
  have HXG_15 := Lib.hid (HXG_14.out.below hb)
  clear HXG_14
  have HXH_15 := Lib.hid (HXH_14.out.below hb HXH_14.out.lt)
  clear HXH_14
  have HM5 := Lib.hid (HM4.out.below hb)
  clear HM4
  have HN_3 := Lib.hid (HN_2.out.below hb)
  clear HN_2
  have HS_1 := Lib.hid (HS_0.out.below hb)
  clear HS_0
  have HXS_1 := Lib.hid (HXS_0.out.below hb)
  clear HXS_0
  have HXW_1 := Lib.hid (HXW_0.out.below hb HXW_0.out.lt)
  clear HXW_0
  have HSA1 := Lib.hid (HSA0.out.below hb)
  clear HSA0
  have HSD1 := Lib.hid (HSD0.out.below hb)
  clear HSD0
  clear x0 x1 x2 x3 x4 x5
  have HW18 := Lib.hid (ho.isWs HF.out)
  clear hb ho
  go_wp2_with fail
  refine (HIM0.out _ a18 cp18 (HL.out.below HB23.out) HW18.out hn1 HF.out ht1).mono ?_
  rintro e w19 ⟨ha, hc, hd, hdc, mid2, γh, rfl, -, -, hhd, hha, hb⟩
  have HB24 := Lib.hid (below_step HB23.out HB23.out.size hb)
  clear HB23
  have HT20 := Lib.hid (below_step HT19.out HT19.out.size hb)
  clear HT19
  have HXG_16 := Lib.hid (HXG_15.out.below hb)
  clear HXG_15
  have HXH_16 := Lib.hid (HXH_15.out.below hb HXH_15.out.lt)
  clear HXH_15
  have HM6 := Lib.hid (HM5.out.below hb)
  clear HM5
  have HN_4 := Lib.hid (HN_3.out.below hb)
  clear HN_3
  have HS_2 := Lib.hid (HS_1.out.below hb)
  clear HS_1
  have HXS_2 := Lib.hid (HXS_1.out.below hb)
  clear HXS_1
  have HXW_2 := Lib.hid (HXW_1.out.below hb HXW_1.out.lt)
  clear HXW_1
  have HSA2 := Lib.hid (HSA1.out.below hb)
  clear HSA1
  have HSD2 := Lib.hid (HSD1.out.below hb)
  clear HSD1
  clear hb HW18
  have HHA0 := Lib.hid (hha.isWs HXF.out)
  have HHD0 := Lib.hid (hhd.isDeps)
  clear hha hhd
  unfold shV wrOf
  have hA : Below w19.heap.size w19 ((w19.alloc (.cells #[.int .i64 X.si, .int .i64 X.cl, .int .i64 X.sq, .int .i64 X.la, .slice ha X.ws.length hc, .string X.t] 26)).alloc (.cells #[.int .i64 Y.k, .int .i64 Y.c, .int .i64 Y.s, .int .i64 Y.q, .int .i64 Y.v, .bool Y.de, .slice hd Y.xs.length hdc] 33)) := ((Below.refl _ _).alloc (Nat.le_refl _) _).alloc (by simp) _
  have hzV9 : ((w19.alloc (.cells #[.int .i64 X.si, .int .i64 X.cl, .int .i64 X.sq, .int .i64 X.la, .slice ha X.ws.length hc, .string X.t] 26)).alloc (.cells #[.int .i64 Y.k, .int .i64 Y.c, .int .i64 Y.s, .int .i64 Y.q, .int .i64 Y.v, .bool Y.de, .slice hd Y.xs.length hdc] 33)).heap.size = w19.heap.size + 1 + 1 := by simp
  have h1V9 : SBox ((w19.alloc (.cells #[.int .i64 X.si, .int .i64 X.cl, .int .i64 X.sq, .int .i64 X.la, .slice ha X.ws.length hc, .string X.t] 26)).alloc (.cells #[.int .i64 Y.k, .int .i64 Y.c, .int .i64 Y.s, .int .i64 Y.q, .int .i64 Y.v, .bool Y.de, .slice hd Y.xs.length hdc] 33)) w19.heap.size X.si X.cl X.sq X.la ha X.ws.length hc X.t := (SBox.start w19 X.si X.cl X.sq X.la ha X.ws.length hc X.t 26).below ((Below.refl _ _).alloc (Nat.le_refl _) _)
  have h2V9 : RBox ((w19.alloc (.cells #[.int .i64 X.si, .int .i64 X.cl, .int .i64 X.sq, .int .i64 X.la, .slice ha X.ws.length hc, .string X.t] 26)).alloc (.cells #[.int .i64 Y.k, .int .i64 Y.c, .int .i64 Y.s, .int .i64 Y.q, .int .i64 Y.v, .bool Y.de, .slice hd Y.xs.length hdc] 33)) (w19.heap.size + 1) Y.k Y.c Y.s Y.q Y.v Y.de hd Y.xs.length hdc := by have := RBox.start (w19.alloc (.cells #[.int .i64 X.si, .int .i64 X.cl, .int .i64 X.sq, .int .i64 X.la, .slice ha X.ws.length hc, .string X.t] 26)) Y.k Y.c Y.s Y.q Y.v Y.de hd Y.xs.length hdc 33; simpa using this
  have HB25 := Lib.hid (below_step HB24.out HB24.out.size hA)
  clear HB24
  have HT21 := Lib.hid (below_step HT20.out HT20.out.size hA)
  clear HT20
  have HXG_17 := Lib.hid (HXG_16.out.below hA)
  clear HXG_16
  have HXH_17 := Lib.hid (HXH_16.out.below hA HXH_16.out.lt)
  clear HXH_16
  have HM7 := Lib.hid (HM6.out.below hA)
  clear HM6
  have HN_5 := Lib.hid (HN_4.out.below hA)
  clear HN_4
  have HS_3 := Lib.hid (HS_2.out.below hA)
  clear HS_2
  have HXS_3 := Lib.hid (HXS_2.out.below hA)
  clear HXS_2
  have HXW_3 := Lib.hid (HXW_2.out.below hA HXW_2.out.lt)
  clear HXW_2
  have HSA3 := Lib.hid (HSA2.out.below hA)
  clear HSA2
  have HSD3 := Lib.hid (HSD2.out.below hA)
  clear HSD2
  have HHA1 := Lib.hid (HHA0.out.below hA)
  clear HHA0
  have HHD1 := Lib.hid (HHD0.out.below hA)
  clear HHD0
  clear hA
  have HXP_0 := Lib.hid h1V9
  have HXQ_0 := Lib.hid h2V9
  clear h1V9 h2V9
  obtain ⟨-, x0, x1, x2, x3, x4, x5, -⟩ := HXP_0.out
  obtain ⟨-, y0, y1, y2, y3, y4, y5, -⟩ := HXS_3.out
  go_wp2_with fail
  generalize ((w19.alloc (.cells #[.int .i64 X.si, .int .i64 X.cl, .int .i64 X.sq, .int .i64 X.la, .slice ha X.ws.length hc, .string X.t] 26)).alloc (.cells #[.int .i64 Y.k, .int .i64 Y.c, .int .i64 Y.s, .int .i64 Y.q, .int .i64 Y.v, .bool Y.de, .slice hd Y.xs.length hdc] 33)) = V9 at *
  clear x0 x1 x2 x3 x4 x5 y0 y1 y2 y3 y4 y5
  refine (eqShim_same _ _ _ _ ha sa X.ws.length hc sc _ X.ws _ rfl (by omega) HXF.out (HHA1.out) HSA3.out).mono ?_
  rintro e w20 ⟨rfl, hb⟩
  have HB26 := Lib.hid (below_step HB25.out HB25.out.size hb)
  clear HB25
  have HT22 := Lib.hid (below_step HT21.out HT21.out.size hb)
  clear HT21
  have HXG_18 := Lib.hid (HXG_17.out.below hb)
  clear HXG_17
  have HXH_18 := Lib.hid (HXH_17.out.below hb HXH_17.out.lt)
  clear HXH_17
  have HM8 := Lib.hid (HM7.out.below hb)
  clear HM7
  have HN_6 := Lib.hid (HN_5.out.below hb)
  clear HN_5
  have HS_4 := Lib.hid (HS_3.out.below hb)
  clear HS_3
  have HXS_4 := Lib.hid (HXS_3.out.below hb)
  clear HXS_3
  have HXW_4 := Lib.hid (HXW_3.out.below hb HXW_3.out.lt)
  clear HXW_3
  have HSA4 := Lib.hid (HSA3.out.below hb)
  clear HSA3
  have HSD4 := Lib.hid (HSD3.out.below hb)
  clear HSD3
  have HHA2 := Lib.hid (HHA1.out.below hb)
  clear HHA1
  have HHD2 := Lib.hid (HHD1.out.below hb)
  clear HHD1
  have HXP_1 := Lib.hid (HXP_0.out.below hb)
  clear HXP_0
  have HXQ_1 := Lib.hid (HXQ_0.out.below hb HXQ_0.out.lt)
  clear HXQ_0
  clear hb
  obtain ⟨-, u0, u1, u2, u3, u4, u5, u6, -⟩ := HXQ_1.out
  obtain ⟨-, v0, v1, v2, v3, v4, v5, v6, -⟩ := HXW_4.out
  go_wp2_with fail
  clear u0 u1 u2 u3 u4 u5 u6 v0 v1 v2 v3 v4 v5 v6
  refine (eqWrite_gen Y.k Y.c Y.s Y.q Y.v Y.de hd sd Y.xs.length hdc sdc Y.xs _ (by omega) rfl (HHD2.out) HSD4.out).mono ?_
  rintro e w21 ⟨rfl, hb⟩
  have HB27 := Lib.hid (below_step HB26.out HB26.out.size hb)
  clear HB26
  have HT23 := Lib.hid (below_step HT22.out HT22.out.size hb)
  clear HT22
  have HXG_19 := Lib.hid (HXG_18.out.below hb)
  clear HXG_18
  have HXH_19 := Lib.hid (HXH_18.out.below hb HXH_18.out.lt)
  clear HXH_18
  have HM9 := Lib.hid (HM8.out.below hb)
  clear HM8
  have HN_7 := Lib.hid (HN_6.out.below hb)
  clear HN_6
  have HS_5 := Lib.hid (HS_4.out.below hb)
  clear HS_4
  have HXS_5 := Lib.hid (HXS_4.out.below hb)
  clear HXS_4
  have HXW_5 := Lib.hid (HXW_4.out.below hb HXW_4.out.lt)
  clear HXW_4
  have HSA5 := Lib.hid (HSA4.out.below hb)
  clear HSA4
  have HSD5 := Lib.hid (HSD4.out.below hb)
  clear HSD4
  have HHA3 := Lib.hid (HHA2.out.below hb)
  clear HHA2
  have HHD3 := Lib.hid (HHD2.out.below hb)
  clear HHD2
  have HXP_2 := Lib.hid (HXP_1.out.below hb)
  clear HXP_1
  have HXQ_2 := Lib.hid (HXQ_1.out.below hb HXQ_1.out.lt)
  clear HXQ_1
  clear hb
  obtain ⟨-, y0, y1, y2, y3, y4, y5, -⟩ := HXG_19.out
  go_wp2_with fail
  clear y0 y1 y2 y3 y4 y5
  refine (HHE.out _ HM9.out).mono ?_
  rintro e w22 ⟨rfl, hb⟩
  have HB28 := Lib.hid (below_step HB27.out HB27.out.size hb)
  clear HB27
  have HT24 := Lib.hid (below_step HT23.out HT23.out.size hb)
  clear HT23
  have HXG_20 := Lib.hid (HXG_19.out.below hb)
  clear HXG_19
  have HXH_20 := Lib.hid (HXH_19.out.below hb HXH_19.out.lt)
  clear HXH_19
  have HM10 := Lib.hid (HM9.out.below hb)
  clear HM9
  have HN_8 := Lib.hid (HN_7.out.below hb)
  clear HN_7
  have HS_6 := Lib.hid (HS_5.out.below hb)
  clear HS_5
  have HXS_6 := Lib.hid (HXS_5.out.below hb)
  clear HXS_5
  have HXW_6 := Lib.hid (HXW_5.out.below hb HXW_5.out.lt)
  clear HXW_5
  have HSA6 := Lib.hid (HSA5.out.below hb)
  clear HSA5
  have HSD6 := Lib.hid (HSD5.out.below hb)
  clear HSD5
  have HHA4 := Lib.hid (HHA3.out.below hb)
  clear HHA3
  have HHD4 := Lib.hid (HHD3.out.below hb)
  clear HHD3
  have HXP_3 := Lib.hid (HXP_2.out.below hb)
  clear HXP_2
  have HXQ_3 := Lib.hid (HXQ_2.out.below hb HXQ_2.out.lt)
  clear HXQ_2
  clear hb
  obtain ⟨-, u0, u1, u2, u3, u4, u5, u6, -⟩ := HXH_20.out
  go_wp2_with fail
  clear u0 u1 u2 u3 u4 u5 u6
  refine (heldWrite_all Y.k Y.c Y.s Y.q Y.v Y.de Y.xs.length gdc gd k1 Y.xs _ rfl (by omega) (by omega) (by omega) HN_8.out).mono ?_
  rintro e w23 ⟨rfl, hb⟩
  have HB29 := Lib.hid (below_step HB28.out HB28.out.size hb)
  clear HB28
  have HT25 := Lib.hid (below_step HT24.out HT24.out.size hb)
  clear HT24
  have HXG_21 := Lib.hid (HXG_20.out.below hb)
  clear HXG_20
  have HXH_21 := Lib.hid (HXH_20.out.below hb HXH_20.out.lt)
  clear HXH_20
  have HM11 := Lib.hid (HM10.out.below hb)
  clear HM10
  have HN_9 := Lib.hid (HN_8.out.below hb)
  clear HN_8
  have HS_7 := Lib.hid (HS_6.out.below hb)
  clear HS_6
  have HXS_7 := Lib.hid (HXS_6.out.below hb)
  clear HXS_6
  have HXW_7 := Lib.hid (HXW_6.out.below hb HXW_6.out.lt)
  clear HXW_6
  have HSA7 := Lib.hid (HSA6.out.below hb)
  clear HSA6
  have HSD7 := Lib.hid (HSD6.out.below hb)
  clear HSD6
  have HHA5 := Lib.hid (HHA4.out.below hb)
  clear HHA4
  have HHD5 := Lib.hid (HHD4.out.below hb)
  clear HHD4
  have HXP_4 := Lib.hid (HXP_3.out.below hb)
  clear HXP_3
  have HXQ_4 := Lib.hid (HXQ_3.out.below hb HXQ_3.out.lt)
  clear HXQ_3
  clear hb
  go_wp2
  go_ret
  exact ⟨rfl, HB29.out⟩

end Go.Proofs.YtbbmpfkijhhemaaGreatDoor.lawShimPut

namespace Go.Proofs.YtbbmpfkijhhemaaGreatDoor
open Go.ChangeShapes Go.WideShapes

section
variable {H : Type} {enc : TypeId × Value → H} {P : Program} {w : World} {base : Nat} {spare : Nat → Bool} {held : Bool}

theorem trodAll_five {t0 t1 t2 t3 t4 : TypeId} {args : Array Value} {ds : List (DataW H)} {ps : List MemPlace} (h : DataW.TrodAll enc P w base spare held [t0, t1, t2, t3, t4] args.toList ds ps) :
    ∃ v0 v1 v2 v3 v4 d0 d1 d2 d3 d4 p0 p1 p2 p3 p4, args = #[v0, v1, v2, v3, v4] ∧ ds = [d0, d1, d2, d3, d4] ∧ ps = p0 ++ (p1 ++ (p2 ++ (p3 ++ p4))) ∧ DataW.Trod enc P w base spare held t0 v0 d0 p0 ∧ DataW.Trod enc P w base spare held t1 v1 d1 p1 ∧ DataW.Trod enc P w base spare held t2 v2 d2 p2 ∧ DataW.Trod enc P w base spare held t3 v3 d3 p3 ∧ DataW.Trod enc P w base spare held t4 v4 d4 p4 := by
  obtain ⟨v0, vs0, d0, ds0, p0, q0, hargs, rfl, rfl, h0, r0⟩ := trodAll_cons h
  obtain ⟨v1, vs1, d1, ds1, p1, q1, rfl, rfl, rfl, h1, r1⟩ := trodAll_cons r0
  obtain ⟨v2, vs2, d2, ds2, p2, q2, rfl, rfl, rfl, h2, r2⟩ := trodAll_cons r1
  obtain ⟨v3, vs3, d3, ds3, p3, q3, rfl, rfl, rfl, h3, r3⟩ := trodAll_cons r2
  obtain ⟨v4, vs4, d4, ds4, p4, q4, rfl, rfl, rfl, h4, r4⟩ := trodAll_cons r3
  obtain ⟨rfl, rfl, rfl⟩ := trodAll_nil r4
  exact ⟨v0, v1, v2, v3, v4, d0, d1, d2, d3, d4, p0, p1, p2, p3, p4, by cases args; simp_all, rfl, by simp, h0, h1, h2, h3, h4⟩

theorem trodAll_mk5 {t0 t1 t2 t3 t4 : TypeId} {v0 v1 v2 v3 v4 : Value} {d0 d1 d2 d3 d4 : DataW H} {p0 p1 p2 p3 p4 : List MemPlace} (h0 : DataW.Trod enc P w base spare held t0 v0 d0 p0) (h1 : DataW.Trod enc P w base spare held t1 v1 d1 p1) (h2 : DataW.Trod enc P w base spare held t2 v2 d2 p2) (h3 : DataW.Trod enc P w base spare held t3 v3 d3 p3) (h4 : DataW.Trod enc P w base spare held t4 v4 d4 p4) :
    DataW.TrodAll enc P w base spare held [t0, t1, t2, t3, t4] [v0, v1, v2, v3, v4] [d0, d1, d2, d3, d4] (p0 ++ (p1 ++ (p2 ++ (p3 ++ p4)))) := ⟨p0, _, h0, ⟨p1, _, h1, trodAll_mk3 h2 h3 h4, rfl⟩, rfl⟩

theorem open_bool {r : Reach} {b0 : Nat} {t : TypeId} {v : Value} (ht : P.underlying t = some .bool) (hval : Value.okWide P w r b0 t v) : ∃ b, v = .bool b := okWide_bool ht hval

end

end Go.Proofs.YtbbmpfkijhhemaaGreatDoor
