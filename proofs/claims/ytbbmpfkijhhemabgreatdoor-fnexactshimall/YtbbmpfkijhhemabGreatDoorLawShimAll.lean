/- At every shim and every mask the law FnExactShimAll answers true: impl.ShimAll answers as spec.ShimAll, leaves the shim as it was, and its answer owns its memory. The variables of the program and of Go's library that it reads are listed in the row and tied to the program's text by the card. -/
import Derived.Test.YtbbmpfkijhhemabGreatDoorPack19
import Derived.Test.YtbbmpfkijhhemabGreatDoorPack21
import Derived.Test.YtbbmpfkijhhemabGreatDoorTie
import Derived.Test.YtbbmpfkijhhemabGreatDoorCards
import Derived.LaidMore
import Derived.LaidHandle
import Derived.LaidLaws
import Derived.Stop.LaidErr
import Derived.Lib.LaidTab
import Derived.SevenTiedAt
import Derived.HandedShaped
import Derived.Lay
import Derived.OpenVars
import Derived.ChangeMaps5
namespace Go.Proofs.YtbbmpfkijhhemabGreatDoor.lawShimAll
open Go.ChangeShapes Go.WideShapes Go.ChangeAt Go.RowKit Go.Joins
attribute [local go_sem ↓] Go.wp_at_zero Go.wp_at_succ

/-- A copy of the shim. -/
def CopyF (si cl sq la : Int) (ws : List Wr) (t : ByteArray) : Fact := fun v w => ∃ a' cp, v = shV si cl sq la a' ws.length cp t ∧ IsWs w a' ws

set_option maxRecDepth 100000 in
theorem lasts_copy (si cl sq la : Int) (ws : List Wr) (t : ByteArray) : lasts (fun w w' => Below w.heap.size w w') (CopyF si cl sq la ws t) := by
  rintro v w w' ⟨a', cp, h1, h2⟩ hr
  exact ⟨a', cp, h1, h2.below hr⟩

set_option maxRecDepth 100000 in
theorem all_few (x : Sm) (mask : Int) : (allX x mask).length ≤ 6 ∧ bulk (allX x mask) ≤ 36 ∧ Few (allX x mask) := by
  unfold allX
  split
  · rename_i h
    have hm := ok_map h.1
    have h1 := mapOk_len hm
    have h2 : ∀ y ∈ x.ws.filter (fun y => bitB mask y.k), y.xs.length ≤ 6 := fun y hy => okW_len (((mapOk_iff _).1 hm).1 y (List.mem_filter.1 hy).1)
    have h3 := List.length_filter_le (fun y => bitB mask y.k) x.ws
    have h4 := bulk_le (m := 6) h2
    exact ⟨by omega, by omega, few_of_bulk (by omega)⟩
  · exact ⟨by simp, by simp [bulk], fun i hi => by simp at hi⟩

set_option maxRecDepth 100000 in
set_option maxHeartbeats 16000000 in
theorem walk (x : Sm) (a : Option Addr) (cap : Nat) (mask : Int) (w : World) (hl : x.ws.length ≤ maxLen) (ht : x.t.size ≤ maxLen) (hi : IsWs w a x.ws) (hM : -9223372036854775808 ≤ mask ∧ mask ≤ 9223372036854775807) (hL : LV w) :
    Calls Tryz.prog 3 #[smV x a cap, .int .i64 mask] w fun e w' => e = .returned (.bool true) ∧ Below w.heap.size w w' := by
  have hM1 := hM.2
  clear hM
  obtain ⟨si, cl, sq, la, ws, t⟩ := x
  simp only at hl ht hi
  have HL := Lib.hid hL
  have HI := Lib.hid hi
  clear hL hi
  have HX0 : Hid (∀ W a cap, IsWs W a ws → ws.length ≤ 1048576 → Few ws → Calls Tryz.prog 6 #[shV si cl sq la a ws.length cap t] W fun e w' => ∃ a' cp γ, e = .returned (shV si cl sq la a' ws.length cp t) ∧ OwnA w' W.heap.size w'.heap.size a' ws γ ∧ Below W.heap.size W w') := fun W a cap hw h1 h2 => toShim_any ⟨si, cl, sq, la, ws, t⟩ a cap W h1 h2 hw
  have HSP : Hid (∀ W a cap, IsWs W a ws → ws.length ≤ 1048576 → Few ws → t.size ≤ 1048576 → Calls Tryz.prog 5 #[shV si cl sq la a ws.length cap t, .int .i64 mask] W fun e w' => ∃ a' cp, e = .returned (.slice a' (allX ⟨si, cl, sq, la, ws, t⟩ mask).length cp) ∧ IsWs w' a' (allX ⟨si, cl, sq, la, ws, t⟩ mask) ∧ Below W.heap.size W w') := fun W a cap hw h1 h2 h3 => specAll_x ⟨si, cl, sq, la, ws, t⟩ a cap mask W h1 h2 h3 hw hM1
  have HIM : Hid (∀ W a cap, LV W → IsWs W a ws → ws.length ≤ 1048576 → Few ws → t.size ≤ 1048576 → Calls Tryz.prog 7 #[shV si cl sq la a ws.length cap t, .int .i64 mask] W fun e w' => ∃ a' cp γ, e = .returned (.slice a' (allX ⟨si, cl, sq, la, ws, t⟩ mask).length cp) ∧ OwnA w' W.heap.size w'.heap.size a' (allX ⟨si, cl, sq, la, ws, t⟩ mask) γ ∧ Below W.heap.size W w') := fun W a cap hv hw h1 h2 h3 => implAll_x ⟨si, cl, sq, la, ws, t⟩ a cap mask W h1 h2 h3 hw hM1 hv
  have hall := all_few ⟨si, cl, sq, la, ws, t⟩ mask
  obtain ⟨R, hR⟩ : ∃ R, R = allX ⟨si, cl, sq, la, ws, t⟩ mask := ⟨_, rfl⟩
  rw [← hR] at HSP HIM hall
  obtain ⟨hR6, hRb, hRf⟩ := hall
  have HRF := Lib.hid hRf
  clear hR hRf
  obtain ⟨m, hmm⟩ : ∃ m, R.length = m := ⟨_, rfl⟩
  rw [hmm] at HSP HIM hR6
  have HRN := Lib.hid hmm
  clear hmm
  unfold smV
  simp only
  obtain ⟨n, hnn⟩ : ∃ n, ws.length = n := ⟨_, rfl⟩
  rw [hnn] at hl HX0 HSP HIM
  rw [hnn]
  have HN := Lib.hid hnn
  clear hnn
  have HB0 : Hid (Below w.heap.size w (w.alloc (.cells #[.int .i64 si, .int .i64 cl, .int .i64 sq, .int .i64 la, .slice a n cap, .string t] 24))) := (Below.refl _ _).alloc (Nat.le_refl _) _
  have HS0 := Lib.hid (SBox.start w si cl sq la a n cap t 24)
  unfold shV
  go_enter Tryz.func3, Tryz.ntmps3
  go_wp2_with fail
  generalize (w.alloc (.cells #[.int .i64 si, .int .i64 cl, .int .i64 sq, .int .i64 la, .slice a n cap, .string t] 24)) = V0 at *
  refine (szShim_any si cl sq la a n cap t 1048576 ws _ (by omega) (by omega) hl ht HN.out (HI.out.below HB0.out)).mono ?_
  rintro e w1 ⟨r, rfl, hr, hb⟩
  have HB1 := Lib.hid (below_step HB0.out HB0.out.size hb)
  have HS1 := Lib.hid (HS0.out.below hb)
  clear hb HB0 HS0
  rcases hr with rfl | ⟨r0, hr⟩
  · go_wp2
    go_ret
    exact ⟨rfl, HB1.out⟩
  have hn1 : n ≤ 1048576 := by omega
  have ht1 : t.size ≤ 1048576 := by omega
  have hbu : bulk ws ≤ 1048576 := by omega
  have HF : Hid (Few ws) := few_of_bulk hbu
  clear hr
  obtain ⟨-, x0, x1, x2, x3, x4, x5, -⟩ := HS1.out
  go_wp2_with fail
  refine (HX0.out _ a cap (HI.out.below HB1.out) hn1 HF.out).mono ?_
  rintro e w2 ⟨a2, cp2, γ2, rfl, ho, hb⟩
  have HB2 := Lib.hid (below_step HB1.out HB1.out.size hb)
  have HS2 := Lib.hid (HS1.out.below hb)
  have HW2 := Lib.hid (ho.isWs HF.out)
  clear hb ho HB1 HS1 x0 x1 x2 x3 x4 x5
  go_wp2_with fail
  refine (HSP.out _ a2 cp2 HW2.out hn1 HF.out ht1).mono ?_
  rintro e w3 ⟨sa, sc, rfl, hsw, hb⟩
  have HB3 := Lib.hid (below_step HB2.out HB2.out.size hb)
  have HS3 := Lib.hid (HS2.out.below hb)
  have HSA := Lib.hid hsw
  have HT3 : Hid (Below w3.heap.size w3 w3) := Below.refl _ _
  have hw3 : w.heap.size ≤ w3.heap.size := HB3.out.size
  clear hb hsw HB2 HS2 HW2
  obtain ⟨-, x0, x1, x2, x3, x4, x5, -⟩ := HS3.out
  go_wp2_with fail
  refine (HX0.out _ a cap (HI.out.below HB3.out) hn1 HF.out).mono ?_
  rintro e w4 ⟨a4, cp4, γ4, rfl, ho, hb⟩
  have HB4 := Lib.hid (below_step HB3.out HB3.out.size hb)
  have HS4 := Lib.hid (HS3.out.below hb)
  have HT4 := Lib.hid (below_step HT3.out HT3.out.size hb)
  have HO4 := Lib.hid ho
  have h34 : w3.heap.size ≤ w4.heap.size := hb.size
  clear hb ho HB3 HT3 x0 x1 x2 x3 x4 x5
  unfold shV
  have hA : Below w4.heap.size w4 (w4.alloc (.cells #[.int .i64 si, .int .i64 cl, .int .i64 sq, .int .i64 la, .slice a4 n cp4, .string t] 29)) := (Below.refl _ _).alloc (Nat.le_refl _) _
  have hzA : (w4.alloc (.cells #[.int .i64 si, .int .i64 cl, .int .i64 sq, .int .i64 la, .slice a4 n cp4, .string t] 29)).heap.size = w4.heap.size + 1 := by simp
  have HX4 := Lib.hid (SBox.start w4 si cl sq la a4 n cp4 t 29)
  have HB5 := Lib.hid (below_step HB4.out HB4.out.size hA)
  have HT5 := Lib.hid (below_step HT4.out HT4.out.size hA)
  have HO5 := Lib.hid (HO4.out.below hA)
  clear hA HB4 HT4 HO4
  obtain ⟨-, y0, y1, y2, y3, y4, y5, -⟩ := HX4.out
  go_wp2_with fail
  generalize (w4.alloc (.cells #[.int .i64 si, .int .i64 cl, .int .i64 sq, .int .i64 la, .slice a4 n cp4, .string t] 29)) = V4 at *
  have HLV := Lib.hid (HL.out.below HB5.out)
  refine (HIM.out _ a4 cp4 HLV.out (HO5.out.isWs HF.out) hn1 HF.out ht1).mono ?_
  rintro e w6 ⟨ga, gc, γg, rfl, hg, hb⟩
  have HB6 := Lib.hid (below_step HB5.out HB5.out.size hb)
  have HT6 := Lib.hid (below_step HT5.out HT5.out.size hb)
  have HO6 := Lib.hid (HO5.out.below hb)
  have HX6 := Lib.hid (HX4.out.below hb)
  have HG6 := Lib.hid hg
  have h46 : V4.heap.size ≤ w6.heap.size := hb.size
  clear hb hg HB5 HT5 HO5 HX4 HLV y0 y1 y2 y3 y4 y5
  go_wp2_with fail
  refine (eqWriteS_gen _ _ m _ _ R _ HRN.out (by omega) HRF.out (HG6.out.isWs HRF.out) (HSA.out.below HT6.out)).mono ?_
  rintro e w7 ⟨rfl, hb⟩
  have HB7 := Lib.hid (below_step HB6.out HB6.out.size hb)
  have HT7 := Lib.hid (below_step HT6.out HT6.out.size hb)
  have HO7 := Lib.hid (HO6.out.below hb)
  have HX7 := Lib.hid (HX6.out.below hb)
  have HG7 := Lib.hid (HG6.out.below hb)
  have HS7 := Lib.hid (HS3.out.below HT7.out)
  clear hb HB6 HT6 HO6 HX6 HG6
  go_wp2_with fail
  refine wp_region_slots 3 [[(7, false)], [(2, false)], [(32, true)]] (fun w' => Below w7.heap.size w7 w') (fun w w' => Below w.heap.size w w') (by kernel_rfl) (by kernel_rfl) (by rfl) (Below.refl _ _).drew (fun _ _ h hr => below_step h h.size hr) ?_
  apply slot_eq
  · intro ρ w' ⟨p1, p2, p3⟩ hS hn
    obtain ⟨-, y0, y1, y2, y3, y4, y5, -⟩ := HX7.out.below hS
    simp at hn
    go_simp
    exact ⟨Below.refl _ _, rfl⟩
  apply slot_eq
  · intro ρ w' ⟨p1, p2, p3⟩ hS hn
    obtain ⟨-, y0, y1, y2, y3, y4, y5, -⟩ := HS7.out.below hS
    simp at hn
    go_simp
    exact ⟨Below.refl _ _, rfl⟩
  refine slot_fact (CopyF si cl sq la ws t) (lasts_copy _ _ _ _ _ _) ?_ ?_
  · intro ρ w' ⟨p1, p2, p3⟩ hS hn
    simp at hn
    go_simp
    exact got_call (HX0.out w' a cap (HI.out.below (below_step HB7.out HB7.out.size hS)) hn1 HF.out) fun e w'' ⟨a', cp, γ, he, ho, hb⟩ => ⟨_, he, hb, a', cp, by rw [HN.out], ho.isWs HF.out⟩
  refine slot_end ?_
  intro tv w8 hS hF
  simp at hF
  obtain ⟨⟨a8, cp8, f33, hw8⟩, f32, f31⟩ := hF
  simp only [List.take_succ_cons, List.take_zero, List.drop_succ_cons, List.drop_zero, putAll, f33, f32, f31]
  clear f33 f32 f31
  simp only [Act.put, List.setIfInBounds_toArray, List.set_cons_succ, List.set_cons_zero]
  have HB8 := Lib.hid (below_step HB7.out HB7.out.size hS)
  have HT8 := Lib.hid (below_step HT7.out HT7.out.size hS)
  have HO8 := Lib.hid (HO7.out.below hS)
  have HX8 := Lib.hid (HX7.out.below hS)
  have HG8 := Lib.hid (HG7.out.below hS)
  have HC8 := Lib.hid hw8
  rw [HN.out]
  clear hS hw8 HB7 HT7 HO7 HX7 HG7 HS7
  go_wp2_with fail
  refine (eqShim_same si cl sq la a4 a8 n cp4 cp8 t ws _ HN.out hn1 HF.out (HO8.out.isWs HF.out) HC8.out).mono ?_
  rintro e w9 ⟨rfl, hb⟩
  have HB9 := Lib.hid (below_step HB8.out HB8.out.size hb)
  have HT9 := Lib.hid (below_step HT8.out HT8.out.size hb)
  have HO9 := Lib.hid (HO8.out.below hb)
  have HX9 := Lib.hid (HX8.out.below hb)
  have HG9 := Lib.hid (HG8.out.below hb)
  clear hb HB8 HT8 HO8 HX8 HG8 HC8
  obtain ⟨-, y0, y1, y2, y3, y4, y5, -⟩ := HX9.out
  go_wp2_with fail
  refine (markShim_any si cl sq la t w3.heap.size w4.heap.size n cp4 a4 1 ws γ4 _ HN.out hn1 hbu (by omega) (by omega) HO9.out).mono ?_
  rintro e w10 ⟨rfl, -, w10', hb, ho⟩
  have hbl : Below w3.heap.size w10' w10 := ho.below fun x hx => hx.1
  have HB10 : Hid (Below w.heap.size w w10) := (below_step HB9.out HB9.out.size hb).trans (hbl.mono hw3)
  have HT10 : Hid (Below w3.heap.size w3 w10) := (below_step HT9.out HT9.out.size hb).trans hbl
  have HG10 := Lib.hid ((HG9.out.below hb).only ho fun x hx => by have := hx.2; omega)
  have hkk : 0 ≤ markK ws 1 n := by
    have := bulk_take_le ws n
    unfold markK
    omega
  clear hb ho hbl HB9 HT9 HO9 HG9 y0 y1 y2 y3 y4 y5
  generalize markK ws 1 n = k at *
  go_wp2_with fail
  refine (eqWriteS_gen _ _ m _ _ R _ HRN.out (by omega) HRF.out (HG10.out.isWs HRF.out) (HSA.out.below HT10.out)).mono ?_
  rintro e w11 ⟨rfl, hb⟩
  have HB11 := Lib.hid (below_step HB10.out HB10.out.size hb)
  have HT11 := Lib.hid (below_step HT10.out HT10.out.size hb)
  have HG11 := Lib.hid (HG10.out.below hb)
  clear hb HB10 HT10 HG10
  have hk1 : 0 ≤ markK R 1 m ∧ markK R 1 m ≤ 1000000 := by
    have := bulk_take_le R m
    unfold markK
    constructor <;> omega
  go_wp2_with fail
  refine (markWriteS_all V4.heap.size w6.heap.size m gc ga 1 R γg _ HRN.out (by omega) (by omega) (by omega) (by omega) HG11.out).mono ?_
  rintro e w12 ⟨rfl, hmk, ho⟩
  have hbl : Below V4.heap.size w11 w12 := ho.below fun x hx => hx.1
  have HB12 : Hid (Below w.heap.size w w12) := HB11.out.trans (hbl.mono (by omega))
  have HT12 : Hid (Below w3.heap.size w3 w12) := HT11.out.trans (hbl.mono (by omega))
  have HM12 := Lib.hid hmk
  clear hbl ho hmk HB11 HT11 HG11
  obtain ⟨kk, hkd⟩ : ∃ kk, kk = markK R 1 m := ⟨_, rfl⟩
  rw [← hkd] at hk1
  have HKK := Lib.hid hkd
  have HHE : Hid (∀ W, MarkedA W ga R γg 1 → Calls Tryz.prog 12 #[.slice ga m gc, .int .i64 1] W fun e w' => e = .returned (.int .i64 kk) ∧ w' = W) := fun W h => by
    rw [HKK.out]
    exact heldWriteS_all m gc ga 1 R γg W HRN.out (by omega) (by omega) (by omega) (by omega) h
  rw [← hkd]
  clear hkd
  go_wp2_with fail
  refine (HHE.out _ HM12.out).mono ?_
  rintro e w13 ⟨rfl, hw⟩
  subst w13
  have HS12 := Lib.hid (HS3.out.below HT12.out)
  obtain ⟨-, x0, x1, x2, x3, x4, x5, -⟩ := HS12.out
  go_wp2_with fail
  refine (HX0.out _ a cap (HI.out.below HB12.out) hn1 HF.out).mono ?_
  rintro e w14 ⟨a14, cp14, γ14, rfl, ho, hb⟩
  have HB14 := Lib.hid (below_step HB12.out HB12.out.size hb)
  have HT14 := Lib.hid (below_step HT12.out HT12.out.size hb)
  have HM14 := Lib.hid (HM12.out.below hb)
  have HW14 := Lib.hid (ho.isWs HF.out)
  clear hb ho HB12 HT12 HM12 HS12 x0 x1 x2 x3 x4 x5
  have HLV := Lib.hid (HL.out.below HB14.out)
  go_wp2_with fail
  refine (HIM.out _ a14 cp14 HLV.out HW14.out hn1 HF.out ht1).mono ?_
  rintro e w15 ⟨ha, hc, γh, rfl, hg, hb⟩
  have HB15 := Lib.hid (below_step HB14.out HB14.out.size hb)
  have HT15 := Lib.hid (below_step HT14.out HT14.out.size hb)
  have HM15 := Lib.hid (HM14.out.below hb)
  have HH15 := Lib.hid (hg.isWs HRF.out)
  clear hb hg HB14 HT14 HM14 HW14 HLV
  go_wp2_with fail
  refine (eqWriteS_gen _ _ m _ _ R _ HRN.out (by omega) HRF.out HH15.out (HSA.out.below HT15.out)).mono ?_
  rintro e w16 ⟨rfl, hb⟩
  have HB16 := Lib.hid (below_step HB15.out HB15.out.size hb)
  have HM16 := Lib.hid (HM15.out.below hb)
  clear hb
  go_wp2_with fail
  refine (HHE.out _ HM16.out).mono ?_
  rintro e w17 ⟨rfl, hw⟩
  subst w17
  go_wp2
  go_ret
  exact ⟨rfl, HB16.out⟩

/-- A wrap with what the row lays, and the world's shape beside it. -/
theorem lift_laid_shaped {H : Type} {enc : TypeId × Value → H} {a : Assume} {C : Checked} {os : Os} {f : FuncId} {fn : Func} {s : ChangeSpec} {conds : List PathCond} {apart fresh handsOn again : Bool} {X : World → Array Value → Prop}
    (hX : ∀ (w w' : World) (args : Array Value), w.heap = w'.heap → X w args → X w' args)
    (own : ownKnob C.prog.godebug = none) (started : os.Started) (noInit : C.prog.inits.idxOf? f = none) (hfn : C.prog.funcs[f]? = some fn)
    (witness : ∃ (w : World) (tape : Tape) (i : Input), w.os = os ∧ (w.forCall tape i).Shaped C.prog ∧ i.vars = [] ∧ Input.okWide C.prog (w.forCall tape i) .any w.heap.size f i ∧
      ((s.pre enc C.prog fn conds apart (w.forCall tape i).memory i.args ∧ X (w.forCall tape i).memory i.args) ∧ sizedMet enc C.prog fn (OpenSpec.ofChange s) apart (w.forCall tape i).memory i.args) ∧ a.holds C.prog (lone (Frame.enter C.prog f i.args .normal) [] (w.forCall tape i)))
    (contract : ∀ (W : World) (base : Nat) (args : Array Value) (ds gs : List (DataW H)) (before : List MemPlace),
      (∀ (j : Nat) t v, fn.params[j]? = some t → args[j]? = some v → Value.okWide C.prog W .any base t v) →
      DataW.Whole enc C.prog fn.params.toList s.vars apart W args.toList ds gs before → X W args → W.ShapedOpen C.prog →
      Calls C.prog f args W fun e W' => ∃ v, e = .returned v ∧ s.post enc C.prog fn apart fresh handsOn again W args v W') :
    ReturnsInHanded a C os f .any (fun w args => (s.pre enc C.prog fn conds apart w args ∧ X w args) ∧ sizedMet enc C.prog fn (OpenSpec.ofChange s) apart w args) (s.post enc C.prog fn apart fresh handsOn again) := by
  refine returnsInHanded_of_calls own started noInit witness ?_
  intro w tape i _ hsh _ hok hpre _
  obtain ⟨_, _, _, fn', hfn', _, _, _, _, hval⟩ := hok
  obtain rfl : fn' = fn := Option.some.inj (hfn'.symm.trans hfn)
  obtain ⟨⟨⟨ds, gs, before, hw, _⟩, hx⟩, _⟩ := hpre
  refine (contract (w.forCall tape i) w.heap.size i.args ds gs before hval (DataW.Whole.of_heap (w' := w.forCall tape i) (by rfl) hw) (hX _ _ _ (by rfl) hx) hsh).mono fun e W' ⟨v, he, hp⟩ => ?_
  subst he
  exact ChangeSpec.post_blind hp

abbrev laid := Rows.fnExactShimAllRow.laid

abbrev plain : List (String × DataW Unit) := [("math/bits.deBruijn32tab", Rows.laid_math_bits_deBruijn32tab), ("math/bits.deBruijn64tab", Rows.laid_math_bits_deBruijn64tab), ("internal/strconv.uint64pow10", Rows.laid_internal_strconv_uint64pow10), ("unicode/utf8.acceptRanges", Rows.laid_unicode_utf8_acceptRanges), ("strconv.ErrRange", Rows.laid_strconv_ErrRange), ("strconv.ErrSyntax", Rows.laid_strconv_ErrSyntax), ("loop.example/g00579/impl.errCut", Rows.laid_loop_example_g00579_impl_errCut), ("loop.example/g00579/impl.errHead", Rows.laid_loop_example_g00579_impl_errHead), ("loop.example/g00579/impl.errWrite", Rows.laid_loop_example_g00579_impl_errWrite), ("loop.example/g00579/impl.errSum", Rows.laid_loop_example_g00579_impl_errSum), ("unicode/utf8.first", Rows.laid_unicode_utf8_first)]

abbrev handle : String × DataW Unit := ("errors.errorType", Rows.laid_errors_errorType)

set_option maxRecDepth 100000 in
theorem laid_plain : (laid.filter fun x => x.2.handleName?.isNone) = plain := by kernel_rfl

set_option maxRecDepth 100000 in
theorem laid_handle : (laid.filter fun x => x.2.handleName?.isSome) = [handle] := by kernel_rfl

theorem laid_two {W : World} (h : laidMetH Tryz.prog laid W) : laidMet Tryz.prog plain W ∧ handlesMet Tryz.prog [handle] W := by
  unfold laidMetH at h
  rw [laid_handle] at h
  rw [← laid_plain]
  exact h

set_option maxRecDepth 100000 in
theorem pow_same : (Rows.laid_internal_strconv_uint64pow10 : DataW Unit) = Lib.tabData .u64 Lib.pow10Tab := by kernel_rfl

set_option maxRecDepth 100000 in
theorem tab_of {W : World} (h : laidMet Tryz.prog plain W) : Tab W := by
  have h2 := h.tail.tail
  rw [pow_same] at h2
  exact Lib.tabIs_of_head gPow (by kernel_rfl) Tryz.underlying215 Tryz.underlying117 (by kernel_rfl) (by kernel_rfl) h2

theorem gMax : Tryz.prog.globalNamed "internal/bytealg.MaxLen" = some 5 := by kernel_rfl

theorem gSyn : Tryz.prog.globalNamed "strconv.ErrSyntax" = some 6 := by kernel_rfl

theorem gSynT : (Tryz.prog.globals[6]?).map (·.type) = some 90 := by kernel_rfl

theorem gRan : Tryz.prog.globalNamed "strconv.ErrRange" = some 7 := by kernel_rfl

theorem gRanT : (Tryz.prog.globals[7]?).map (·.type) = some 90 := by kernel_rfl

theorem gCut : Tryz.prog.globalNamed "loop.example/g00579/impl.errCut" = some 4 := by kernel_rfl

theorem gCutT : (Tryz.prog.globals[4]?).map (·.type) = some 90 := by kernel_rfl

theorem gHead : Tryz.prog.globalNamed "loop.example/g00579/impl.errHead" = some 1 := by kernel_rfl

theorem gHeadT : (Tryz.prog.globals[1]?).map (·.type) = some 90 := by kernel_rfl

theorem gWrite : Tryz.prog.globalNamed "loop.example/g00579/impl.errWrite" = some 2 := by kernel_rfl

theorem gWriteT : (Tryz.prog.globals[2]?).map (·.type) = some 90 := by kernel_rfl

theorem gSum : Tryz.prog.globalNamed "loop.example/g00579/impl.errSum" = some 3 := by kernel_rfl

theorem gSumT : (Tryz.prog.globals[3]?).map (·.type) = some 90 := by kernel_rfl

theorem gET : Tryz.prog.globalNamed "errors.errorType" = some 0 := by kernel_rfl

theorem cellsE : Tryz.prog.cellsOf 222 = 1 := by kernel_rfl

theorem cellsS : Tryz.prog.cellsOf 9 = 1 := by kernel_rfl

theorem star : "*" ++ "errors.errorString" = "*errors.errorString" := by decide

theorem rowE (u : TypeId) (h : Tryz.prog.typeName? 3 u = some "*errors.errorString") : u = 220 :=
  typeName_ptr_named (nm := "errors.errorString") (by rw [star]; kernel_rfl) (by kernel_rfl) (by decide) u (by rw [star]; exact h)

set_option maxRecDepth 100000 in
theorem errs_of {W : World} (h : laidMet Tryz.prog plain W) (hs : W.ShapedOpen Tryz.prog) : RV W ∧ EV W := by
  have h4 := h.tail.tail.tail.tail
  obtain ⟨aRan, sRan, hvRan, -, -, -⟩ := laid_sentinel (h4) gRan gRanT Tryz.underlying90 rowE Tryz.underlying220 Tryz.underlying222 rfl rfl Tryz.underlying9 cellsE cellsS
  have cRan : W.cell? ⟨7, 0, none⟩ = some (.iface 220 (.pointer (some aRan))) := by have h0 := World.var?_cell gRan hvRan 0; simpa using h0
  obtain ⟨aSyn, sSyn, hvSyn, -, -, -⟩ := laid_sentinel (h4.tail) gSyn gSynT Tryz.underlying90 rowE Tryz.underlying220 Tryz.underlying222 rfl rfl Tryz.underlying9 cellsE cellsS
  have cSyn : W.cell? ⟨6, 0, none⟩ = some (.iface 220 (.pointer (some aSyn))) := by have h0 := World.var?_cell gSyn hvSyn 0; simpa using h0
  obtain ⟨aCut, sCut, hvCut, -, -, -⟩ := laid_sentinel (h4.tail.tail) gCut gCutT Tryz.underlying90 rowE Tryz.underlying220 Tryz.underlying222 rfl rfl Tryz.underlying9 cellsE cellsS
  have cCut : W.cell? ⟨4, 0, none⟩ = some (.iface 220 (.pointer (some aCut))) := by have h0 := World.var?_cell gCut hvCut 0; simpa using h0
  obtain ⟨aHead, sHead, hvHead, -, -, -⟩ := laid_sentinel (h4.tail.tail.tail) gHead gHeadT Tryz.underlying90 rowE Tryz.underlying220 Tryz.underlying222 rfl rfl Tryz.underlying9 cellsE cellsS
  have cHead : W.cell? ⟨1, 0, none⟩ = some (.iface 220 (.pointer (some aHead))) := by have h0 := World.var?_cell gHead hvHead 0; simpa using h0
  obtain ⟨aWrite, sWrite, hvWrite, -, -, -⟩ := laid_sentinel (h4.tail.tail.tail.tail) gWrite gWriteT Tryz.underlying90 rowE Tryz.underlying220 Tryz.underlying222 rfl rfl Tryz.underlying9 cellsE cellsS
  have cWrite : W.cell? ⟨2, 0, none⟩ = some (.iface 220 (.pointer (some aWrite))) := by have h0 := World.var?_cell gWrite hvWrite 0; simpa using h0
  obtain ⟨aSum, sSum, hvSum, -, -, -⟩ := laid_sentinel (h4.tail.tail.tail.tail.tail) gSum gSumT Tryz.underlying90 rowE Tryz.underlying220 Tryz.underlying222 rfl rfl Tryz.underlying9 cellsE cellsS
  have cSum : W.cell? ⟨3, 0, none⟩ = some (.iface 220 (.pointer (some aSum))) := by have h0 := World.var?_cell gSum hvSum 0; simpa using h0
  obtain ⟨m, hm⟩ := Tryz.laysM147.s1_3 W hs
  have cm : W.cell? ⟨5, 0, none⟩ = some (.int .i64 m) := hm
  exact ⟨⟨⟨World.block_lt_of_cell? W _ cm, m, cm⟩, ⟨World.block_lt_of_cell? W _ cSyn, _, _, cSyn⟩, World.block_lt_of_cell? W _ cRan, _, _, cRan⟩, ⟨World.block_lt_of_cell? W _ cCut, _, _, cCut⟩, ⟨World.block_lt_of_cell? W _ cHead, _, _, cHead⟩, ⟨World.block_lt_of_cell? W _ cWrite, _, _, cWrite⟩, World.block_lt_of_cell? W _ cSum, _, _, cSum⟩

theorem rt : (Tryz.prog.cutTypes.find? (·.1 == "internal/reflectlite.rtype")).map (·.2) = some 151 := by kernel_rfl

set_option maxRecDepth 100000 in
theorem oneRow : ((List.range 257).filter fun t => Tryz.prog.rowNamed t [101, 114, 114, 111, 114]) = [90] := by kernel_rfl

theorem tsize : Tryz.prog.types.size = 257 := by kernel_rfl

theorem et_of {W : World} (h : handlesMet Tryz.prog [handle] W) : ET W := by
  obtain ⟨name, u, ty, e1, e2, e3, e4, e5⟩ := h _ (List.mem_singleton.2 rfl)
  have en : name = [101, 114, 114, 111, 114] := (Option.some.inj e1).symm
  subst en
  obtain rfl := Option.some.inj (rt.symm.trans e2)
  have hm : ty ∈ (List.range 257).filter fun t => Tryz.prog.rowNamed t [101, 114, 114, 111, 114] := List.mem_filter.2 ⟨List.mem_range.2 (by rw [← tsize]; exact e3), e4⟩
  rw [oneRow] at hm
  obtain rfl := List.mem_singleton.1 hm
  have hh : typeHandle Tryz.prog 90 = .pointer (some ⟨13, 90, none⟩) := by kernel_rfl
  rw [hh] at e5
  have h0 := World.var?_cell gET e5 0
  unfold ET
  simpa using h0

theorem lv_of {W : World} (h : laidMetH Tryz.prog laid W) (hs : W.ShapedOpen Tryz.prog) : LV W :=
  ⟨(errs_of (laid_two h).1 hs).2, (errs_of (laid_two h).1 hs).1, tab_of (laid_two h).1, et_of (laid_two h).2⟩

/-- The settled world, errors.errorType laid. -/
noncomputable def baseW (os : Os) : World :=
  let w0 := World.holding Tryz.prog os ⟨#[], #[], []⟩
  { w0 with heap := w0.heap.modify 0 fun
      | .cells _ t frozen => .cells #[.iface 151 (.agg #[.pointer (some ⟨13, 90, none⟩)])] t frozen
      | o => o }

/-- .. and the other listed variables. -/
noncomputable def laidW (os : Os) : World := (baseW os).layVars Tryz.prog plain

theorem laidW_os (os : Os) : (laidW os).os = os := World.layVars_os _ _ _

set_option maxRecDepth 100000 in
theorem laidW_fits (os : Os) : (baseW os).layFits Tryz.prog plain [] = true := by kernel_rfl

set_option maxRecDepth 100000 in
theorem laidW_ifaces (os : Os) : (baseW os).layIfaces Tryz.prog plain (laidW os) = true := by kernel_rfl

set_option maxRecDepth 100000 in
theorem laidW_met (os : Os) (args : Array Value) : laidMetH Tryz.prog laid ((laidW os).forCall (fun _ _ => 0) ⟨#[], args, []⟩).memory := by
  refine laidMetH_of_parts ?_ (by kernel_rfl)
  rw [laid_plain]
  have e1 : (plain.filter fun x => (plain.map (·.1)).contains x.1) = plain := List.filter_eq_self.2 fun x hx => List.contains_iff_mem.2 (List.mem_map.2 ⟨x, hx, rfl⟩)
  have e2 : (plain.filter fun x => !(plain.map (·.1)).contains x.1) = [] := List.filter_eq_nil_iff.2 fun x hx => by rw [List.contains_iff_mem.2 (List.mem_map.2 ⟨x, hx, rfl⟩)]; simp
  have h : laidMet Tryz.prog plain (laidW os) := laidMet_layVars (w0 := baseW os) (plain.map (·.1)) [] (by rw [e1]; rfl) (by rw [e1]; exact laidW_fits os) (by rw [e1]; exact laidW_ifaces os) (by rw [e2]; exact LaidIn.none)
  exact h.of_heap (by simp [World.memory, World.forCall, Input.heap])

theorem vars_four {H : Type} {enc : TypeId × Value → H} {W : World} {a b c d : String} {gs : List (DataW H)} {ps : List MemPlace} (h : DataW.TrodVars enc Tryz.prog W (fun _ => true) [a, b, c, d] gs ps) : ∃ g1 g2 g3 g4, gs = [g1, g2, g3, g4] := by
  match gs, h with
  | [], h => exact h.elim
  | [_], h => obtain ⟨_, _, _, _, _, _, _, _, _, _, h, _⟩ := h; exact h.elim
  | [_, _], h => obtain ⟨_, _, _, _, _, _, _, _, _, _, h, _⟩ := h; obtain ⟨_, _, _, _, _, _, _, _, _, _, h, _⟩ := h; exact h.elim
  | [_, _, _], h => obtain ⟨_, _, _, _, _, _, _, _, _, _, h, _⟩ := h; obtain ⟨_, _, _, _, _, _, _, _, _, _, h, _⟩ := h; obtain ⟨_, _, _, _, _, _, _, _, _, _, h, _⟩ := h; exact h.elim
  | [g1, g2, g3, g4], _ => exact ⟨g1, g2, g3, g4, rfl⟩
  | _ :: _ :: _ :: _ :: _ :: _, h => obtain ⟨_, _, _, _, _, _, _, _, _, _, h, _⟩ := h; obtain ⟨_, _, _, _, _, _, _, _, _, _, h, _⟩ := h; obtain ⟨_, _, _, _, _, _, _, _, _, _, h, _⟩ := h; obtain ⟨_, _, _, _, _, _, _, _, _, _, h, _⟩ := h; exact h.elim

set_option maxRecDepth 100000 in
theorem lifted (os : Os) (started : os.Started) (H : Type) (enc : TypeId × Value → H) :
    ReturnsInHanded {} Tryz.checked os 3 .any (fun w args => (Rows.fnExactShimAllSpec.pre enc Tryz.prog Tryz.f3 [] false w args ∧ laidMetH Tryz.prog laid w) ∧ sizedMet enc Tryz.prog Tryz.f3 (OpenSpec.ofChange Rows.fnExactShimAllSpec) false w args)
      (Rows.fnExactShimAllSpec.post enc Tryz.prog Tryz.f3 false true false false) := by
  refine lift_laid_shaped (C := Tryz.checked) (X := fun w _ => laidMetH Tryz.prog laid w) (fun _ _ _ hh h => h.of_heap hh) own started (by kernel_rfl) Tryz.func3
    (ChangeSpec.witness_shaped (enc := enc) (C := Tryz.checked) (os := os) (X := fun w _ => laidMetH Tryz.prog laid w) false (laidW os) #[.agg #[.int .i64 0, .int .i64 0, .int .i64 0, .int .i64 0, .slice none 0 0, .string ⟨#[]⟩], .int .i64 0] 8 (laidW_os os) (World.shaped_of_ZipB (by kernel_rfl) (by kernel_rfl)) (by kernel_rfl) (by kernel_rfl) (by kernel_rfl) (laidW_met os _)) ?_
  intro W base args ds gs before hval0 hW hL hSh
  have hval : ∀ (j : Nat) t v, Tryz.f3.params[j]? = some t → args[j]? = some v → Value.okWide Tryz.prog W .any base t v := hval0
  have hW' := hW
  obtain ⟨p, q, hA0, hV0, rfl, hfz, hnd⟩ := hW
  have hA : DataW.TrodAll enc Tryz.prog W 0 (fun _ => true) true Tryz.f3.params.toList args.toList ds p := hA0
  have hV : DataW.TrodVars enc Tryz.prog W (fun _ => true) ["loop.example/g00579/impl.errHead", "loop.example/g00579/impl.errCut", "loop.example/g00579/impl.errWrite", "loop.example/g00579/impl.errSum"] gs q := hV0
  rw [Tryz.params3] at hA hval
  obtain ⟨v0, v1, d0, d1, p0, p1, rfl, rfl, rfl, h0, h1⟩ := trodAll_two hA
  have k0 := h0
  have lt0 : ∀ x ∈ p0, x.block < W.heap.size := by obtain ⟨m, hm⟩ := k0; exact DataW.trod_lt m _ _ _ hm
  have k1 := h1
  have lt1 : ∀ x ∈ p1, x.block < W.heap.size := by obtain ⟨m, hm⟩ := k1; exact DataW.trod_lt m _ _ _ hm
  obtain ⟨g1, g2, g3, g4, rfl⟩ := vars_four hV
  obtain ⟨x0, a0, cap0, hv0, hl0, ht0, hw0⟩ := open_shim (hval 0 24 v0 rfl rfl) h0
  subst hv0
  obtain ⟨a1, hv1, _, _, wf1⟩ := open_int Tryz.underlying3 (hval 1 3 v1 rfl rfl) h1
  subst hv1
  have wa1 : -9223372036854775808 ≤ a1 ∧ a1 ≤ 9223372036854775807 := by
    simp only [Lit.wf, Bool.and_eq_true, decide_eq_true_eq] at wf1
    exact wf1
  clear hA0 hval0 hV0
  refine (walk x0 a0 cap0 a1 W hl0 ht0 hw0 wa1 (lv_of hL hSh)).mono fun e W' ⟨he, bel⟩ => ?_
  subst he
  exact ⟨_, rfl, _, _, _, [], _, _, hW', trodAll_mk1 (shut_bool Tryz.underlying4 _), (trodAll_mk2 (Below.trod laidOut (by kernel_rfl) (of_decide_eq_true (by kernel_rfl)) k0 bel lt0) (Below.trod laidOut (by kernel_rfl) (of_decide_eq_true (by kernel_rfl)) k1 bel lt1)), Below.trodVars laidOut bel (by kernel_rfl) hV, bel.frame _, fun h => by cases h⟩

set_option maxRecDepth 100000 in
theorem over : Rows.fnExactShimAllRow.holds Tryz.pinned (OpenSpec.ofChange Rows.fnExactShimAllSpec) :=
  OpenClaim.holds_of_wide 3 Tryz.f3 rfl rfl rfl rfl rfl rfl rfl ⟨rfl, rfl, rfl, rfl, rfl⟩ rfl rfl rfl rfl rfl (by kernel_rfl) Tryz.func3 (by kernel_rfl)
    (of_decide_eq_true (by kernel_rfl)) (by unfold Func.isWrapper; rw [if_neg (by decide +kernel)]; exact ⟨rfl, rfl⟩)
    (fun os started H enc _ => lifted os started H enc)

set_option maxRecDepth 100000 in
theorem card : Rows.FnExactShimAllCardSaid :=
  Claim7.holds_tied_plain_at .later [] [.data, .data, .data, .data, .handle, .sentinel, .sentinel, .sentinel, .sentinel, .sentinel, .sentinel, .pinned] true Rows.fnExactShimAllCard.stood.harness Rows.fnExactShimAllCard.stood.looks
    over (fun _ h => by cases h) (by kernel_rfl) (fun _ h => by cases h) fnExactShimAll_row_tie rfl ⟨rfl, rfl⟩ (by kernel_rfl) rfl
    (fun f fn hf hfn => by
      obtain rfl : f = 3 := Option.some.inj ((show Tryz.prog.funcNamed Rows.fnExactShimAllRow.func = some 3 by kernel_rfl).symm.trans hf) |>.symm
      obtain rfl : fn = Tryz.f3 := (Option.some.inj (Tryz.func3.symm.trans hfn)).symm
      exact ⟨by kernel_rfl, fun j t ht => by
        rw [Tryz.params3] at ht
        have hm : t ∈ [24, 3] := by simpa using Array.mem_of_getElem? ht
        have hall : ([24, 3].all fun u => !Tryz.prog.wantsStandIn u) = true := by kernel_rfl
        exact (show Tryz.prog.wantsStandIn t = false by simpa using List.all_eq_true.1 hall t hm)⟩)
    (by kernel_rfl)

end Go.Proofs.YtbbmpfkijhhemabGreatDoor.lawShimAll
namespace Go.Proofs.YtbbmpfkijhhemabGreatDoor
theorem fnExactShimAll_holds : Rows.FnExactShimAllCardSaid := lawShimAll.card
#print axioms fnExactShimAll_holds
end Go.Proofs.YtbbmpfkijhhemabGreatDoor
