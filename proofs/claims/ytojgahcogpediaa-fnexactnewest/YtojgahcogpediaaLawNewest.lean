/- At every list of writes the law FnExactNewest answers true: impl.Newest answers as spec.Newest, leaves the list as it was, and its answer owns its memory. No conditions. -/
import Derived.Test.YtojgahcogpediaaPack6
import Derived.Test.YtojgahcogpediaaPack9
namespace Go.Proofs.Ytojgahcogpediaa.lawNewest
open Go.ChangeShapes Go.WideShapes Go.ChangeAt Go.RowKit Go.Joins
attribute [local go_sem ↓] Go.wp_at_zero Go.wp_at_succ

theorem box_of_block {b : Nat} {w w1 : World} {k c s q v : Int} {de : Bool} {a : Option Addr} {len cap : Nat} (h : BoxAt b w k c s q v de a len cap) (hs : w.heap.size ≤ w1.heap.size) (hb : w1.heap[b]? = w.heap[b]?) : BoxAt b w1 k c s q v de a len cap where
  lt := Nat.lt_of_lt_of_le h.lt hs
  c0 := (World.cell?_of_block (a := ⟨b, 0, none⟩) hb).trans h.c0
  c1 := (World.cell?_of_block (a := ⟨b, 1, none⟩) hb).trans h.c1
  c2 := (World.cell?_of_block (a := ⟨b, 2, none⟩) hb).trans h.c2
  c3 := (World.cell?_of_block (a := ⟨b, 3, none⟩) hb).trans h.c3
  c4 := (World.cell?_of_block (a := ⟨b, 4, none⟩) hb).trans h.c4
  c5 := (World.cell?_of_block (a := ⟨b, 5, none⟩) hb).trans h.c5
  c6 := (World.cell?_of_block (a := ⟨b, 6, none⟩) hb).trans h.c6

set_option maxRecDepth 100000 in
set_option maxHeartbeats 16000000 in
theorem walk (a : Option Addr) (n cap : Nat) (us : List Wr) (w : World) (hr : us.length = n ∧ n ≤ maxLen ∧ IsWs w a us) :
    Calls Try.prog 4 #[.slice a n cap] w fun e w' => e = .returned (.bool true) ∧ Below w.heap.size w w' := by
  obtain ⟨hl, hm, hi⟩ := hr
  have HI := Lib.hid hi
  have HN := Lib.hid hl
  clear hi hl
  go_enter Try.func4, Try.ntmps4
  go_wp2_with fail
  refine (szWriteS_any a n cap 1048576 us _ (by omega) (by omega) hm HN.out HI.out).mono ?_
  rintro e w1 ⟨r, rfl, hr, hb⟩
  have HB1 := Lib.hid hb
  clear hb hm
  rcases hr with rfl | ⟨r0, hr⟩
  · go_wp2
    go_ret
    exact ⟨rfl, HB1.out⟩
  have hn : n ≤ 1048576 := by omega
  have hbu : bulk us ≤ 1048576 := by omega
  have HF : Hid (Few us) := few_of_bulk hbu
  have HX : Hid (∀ i, i < n → (us.getD i wz).xs.length ≤ 1048576) := fun i h => HF.out i (by rw [HN.out]; exact h)
  clear hr
  go_wp2_with fail
  refine (toWriteS_any a n cap us _ hn HN.out HX.out (HI.out.below HB1.out)).mono ?_
  rintro e w2 ⟨γ2, rfl, hO2, hb⟩
  have HB2 : Hid (Below w.heap.size w w2) := below_step HB1.out HB1.out.size hb
  have HO2 := Lib.hid hO2
  clear hb hO2 HB1
  go_wp2_with fail
  refine (specNewest_any _ n n us _ HN.out hn HF.out (HO2.out.holds.isWs HF.out)).mono ?_
  rintro e w3 ⟨x, ok, as_, cs, rfl, hs, htell, hb⟩
  have HTL := Lib.hid htell
  have HSD := Lib.hid hs
  have HB3 : Hid (Below w.heap.size w w3) := below_step HB2.out HB2.out.size hb
  have hxl := new_len HF.out htell
  clear hb hs htell HB2 HO2
  obtain ⟨xk, xc, xs', xq, xv, xd, xx⟩ := x
  have HBA : Hid (Below w3.heap.size w3 (w3.alloc (.cells #[.int .i64 xk, .int .i64 xc, .int .i64 xs', .int .i64 xq, .int .i64 xv, .bool xd, .slice as_ xx.length cs] 41))) := (Below.refl _ _).alloc (Nat.le_refl _) _
  have HB4 : Hid (Below w.heap.size w (w3.alloc (.cells #[.int .i64 xk, .int .i64 xc, .int .i64 xs', .int .i64 xq, .int .i64 xv, .bool xd, .slice as_ xx.length cs] 41))) := below_step HB3.out HB3.out.size HBA.out
  simp only at hxl HSD
  go_wp2_with fail
  refine (toWriteS_any a n cap us _ hn HN.out HX.out (HI.out.below HB4.out)).mono ?_
  rintro e w5 ⟨γ5, rfl, hO5, hb⟩
  have HB5 : Hid (Below w.heap.size w w5) := below_step HB4.out HB4.out.size hb
  have HS5 : Hid (BoxAt w3.heap.size w5 xk xc xs' xq xv xd as_ xx.length cs) := BoxAt.start hb
  have HD5 : Hid (Below w3.heap.size w3 w5) := below_step HBA.out HBA.out.size hb
  have HO5 : Hid (OwnA w5 (w3.heap.size + 1) w5.heap.size (some ⟨w3.heap.size + 1, 0, none⟩) us γ5) := Lib.hid (by simpa using hO5.gen.ownA)
  have hs35 : w3.heap.size + 1 ≤ w5.heap.size := by have := hb.size; simpa using this
  have hw3 : w.heap.size ≤ w3.heap.size := HB3.out.size
  clear hb hO5 HB4 HB3 HBA
  go_wp2_with fail
  refine (implNewest_any _ n n us _ HN.out hn HF.out (HO5.out.isWs HF.out)).mono ?_
  rintro e w6 ⟨y, ok', ag, gg, cg, rfl, hg, htell, hb⟩
  obtain ⟨rfl, rfl⟩ := new_same HTL.out htell
  have HB6 : Hid (Below w.heap.size w w6) := below_step HB5.out HB5.out.size hb
  have HS6 := Lib.hid (HS5.out.step hb)
  have HD6 : Hid (Below w3.heap.size w3 w6) := below_step HD5.out HD5.out.size hb
  have HO6 := Lib.hid (HO5.out.below hb)
  have HG6 : Hid (FreshDeps w5.heap.size w6 ag gg xx) := hg
  have hs56 : w5.heap.size ≤ w6.heap.size := hb.size
  have HGG : Hid (0 < xx.length → gg < w6.heap.size) := fun hp => (hg hp).2.2.1
  clear hb hg htell HB5 HS5 HD5 HO5
  have HBA : Hid (Below w6.heap.size w6 (w6.alloc (.cells #[.int .i64 xk, .int .i64 xc, .int .i64 xs', .int .i64 xq, .int .i64 xv, .bool xd, .slice ag xx.length cg] 41))) := (Below.refl _ _).alloc (Nat.le_refl _) _
  have HB7 : Hid (Below w.heap.size w (w6.alloc (.cells #[.int .i64 xk, .int .i64 xc, .int .i64 xs', .int .i64 xq, .int .i64 xv, .bool xd, .slice ag xx.length cg] 41))) := below_step HB6.out HB6.out.size HBA.out
  have HD7 : Hid (Below w3.heap.size w3 (w6.alloc (.cells #[.int .i64 xk, .int .i64 xc, .int .i64 xs', .int .i64 xq, .int .i64 xv, .bool xd, .slice ag xx.length cg] 41))) := below_step HD6.out HD6.out.size HBA.out
  have HS7 := Lib.hid (HS6.out.step HBA.out)
  have HO7 := Lib.hid (HO6.out.below HBA.out)
  have HG7 := Lib.hid (HG6.out.below HBA.out)
  have s0 := HS6.out.c0
  have s1 := HS6.out.c1
  have s2 := HS6.out.c2
  have s3 := HS6.out.c3
  have s4 := HS6.out.c4
  have s5 := HS6.out.c5
  have s6 := HS6.out.c6
  have hlt6 := HS6.out.lt
  go_wp2_with fail
  refine (eqWrite_gen xk xc xs' xq xv xd ag as_ _ cg cs xx _ hxl rfl HG7.out.isDeps (HSD.out.below HD7.out)).mono ?_
  rintro e w8 ⟨rfl, hb⟩
  have HB8 : Hid (Below w.heap.size w w8) := below_step HB7.out HB7.out.size hb
  have HS8 := Lib.hid (HS7.out.step hb)
  have HY8 : Hid (BoxAt w6.heap.size w8 xk xc xs' xq xv xd ag xx.length cg) := BoxAt.start hb
  have HD8 : Hid (Below w3.heap.size w3 w8) := below_step HD7.out HD7.out.size hb
  have HO8 := Lib.hid (HO7.out.below hb)
  have HG8 := Lib.hid (HG7.out.below hb)
  clear hb HB6 HB7 HD6 HD7 HS6 HS7 HO6 HO7 HG6 HG7 HBA s0 s1 s2 s3 s4 s5 s6 hlt6
  cases ok
  all_goals
    go_wp2_with fail
    refine (toWriteS_any a n cap us _ hn HN.out HX.out (HI.out.below HB8.out)).mono ?_
    rintro e w9 ⟨γ9, rfl, hO9, hb⟩
    have HB9 : Hid (Below w.heap.size w w9) := below_step HB8.out HB8.out.size hb
    have HS9 := Lib.hid (HS8.out.step hb)
    have HY9 := Lib.hid (HY8.out.step hb)
    have HD9 : Hid (Below w3.heap.size w3 w9) := below_step HD8.out HD8.out.size hb
    have HO9 := Lib.hid (HO8.out.below hb)
    have HG9 := Lib.hid (HG8.out.below hb)
    have HW9 : Hid (IsWs w9 (some ⟨w8.heap.size, 0, none⟩) us) := hO9.holds.isWs HF.out
    clear hb hO9 HB8 HS8 HY8 HD8 HO8 HG8
    go_wp2_with fail
    refine (eqWriteS_gen _ _ n n n us _ HN.out hn HF.out (HO9.out.isWs HF.out) HW9.out).mono ?_
    rintro e w10 ⟨rfl, hb⟩
    have HB10 : Hid (Below w.heap.size w w10) := below_step HB9.out HB9.out.size hb
    have HS10 := Lib.hid (HS9.out.step hb)
    have HY10 := Lib.hid (HY9.out.step hb)
    have HD10 : Hid (Below w3.heap.size w3 w10) := below_step HD9.out HD9.out.size hb
    have HO10 := Lib.hid (HO9.out.below hb)
    have HG10 := Lib.hid (HG9.out.below hb)
    clear hb HB9 HS9 HY9 HD9 HO9 HG9 HW9
    have HK1 : Hid (0 ≤ markK us 1 n) := by
      unfold markK
      show (0 : Int) ≤ _
      omega
    go_wp2_with fail
    refine (markWriteS_all _ _ n n _ 1 us γ5 _ HN.out hn hbu (by omega) (by omega) HO10.out).mono ?_
    rintro e w11 ⟨rfl, -, ho⟩
    have hbl : Below (w3.heap.size + 1) w10 w11 := ho.below fun x hx => hx.1
    have HB11 : Hid (Below w.heap.size w w11) := HB10.out.trans (hbl.mono (by omega))
    have HD11 : Hid (Below w3.heap.size w3 w11) := HD10.out.trans (hbl.mono (by omega))
    have HS11 := Lib.hid (box_of_block HS10.out hbl.size (hbl.block _ (Nat.lt_succ_self _)))
    have HY11 := Lib.hid (box_of_block HY10.out hbl.size (ho.block _ fun e => by have := e.2; omega))
    have HG11 : Hid (FreshDeps w5.heap.size w11 ag gg xx) := HG10.out.of_block hbl.size fun hp => ho.block _ fun e => by have := e.2; have := (HG10.out hp).2.1; omega
    have k0 := HK1.out
    clear hbl ho HB10 HD10 HS10 HY10 HO10 HG10 HK1
    generalize markK us 1 n = k at *
    have s0 := HS11.out.c0
    have s1 := HS11.out.c1
    have s2 := HS11.out.c2
    have s3 := HS11.out.c3
    have s4 := HS11.out.c4
    have s5 := HS11.out.c5
    have s6 := HS11.out.c6
    have y0 := HY11.out.c0
    have y1 := HY11.out.c1
    have y2 := HY11.out.c2
    have y3 := HY11.out.c3
    have y4 := HY11.out.c4
    have y5 := HY11.out.c5
    have y6 := HY11.out.c6
    go_wp2_with fail
    refine (eqWrite_gen xk xc xs' xq xv xd ag as_ _ cg cs xx _ hxl rfl HG11.out.isDeps (HSD.out.below HD11.out)).mono ?_
    rintro e w12 ⟨rfl, hb⟩
    have HB12 : Hid (Below w.heap.size w w12) := below_step HB11.out HB11.out.size hb
    have HS12 := Lib.hid (HS11.out.step hb)
    have HY12 := Lib.hid (HY11.out.step hb)
    have HD12 : Hid (Below w3.heap.size w3 w12) := below_step HD11.out HD11.out.size hb
    have HG12 := Lib.hid (HG11.out.below hb)
    clear hb HB11 HS11 HY11 HD11 HG11 s0 s1 s2 s3 s4 s5 s6 y0 y1 y2 y3 y4 y5 y6
    have y0 := HY12.out.c0
    have y1 := HY12.out.c1
    have y2 := HY12.out.c2
    have y3 := HY12.out.c3
    have y4 := HY12.out.c4
    have y5 := HY12.out.c5
    have y6 := HY12.out.c6
    go_wp2_with fail
    refine (markWrite_any xk xc xs' xq xv xd ag gg xx.length cg 1 (fun o => .int .i64 (depCell xx o)) _ hxl (by omega) (by omega) (fun hp => (HG12.out hp).2.2.1) (fun hp => (HG12.out hp).1) (fun o ho => by
      have hp : 0 < xx.length := by omega
      have := holds_cells (HG12.out hp).2.2.2.1 ho
      rwa [Nat.zero_add] at this) (fun hp => (HG12.out hp).2.2.2.2)).mono ?_
    rintro e w13 ⟨wm, rfl, hmk, hbm, ho⟩
    have hsz : wm.heap.size ≤ w13.heap.size := by rw [ho.size]; exact Nat.le_refl _
    have hgw : 0 < xx.length → gg < w13.heap.size := fun hp => Nat.lt_of_lt_of_le (HG12.out hp).2.2.1 (Nat.le_trans hbm.size hsz)
    have hga : 0 < xx.length → ag = some ⟨gg, 0, none⟩ := fun hp => (HG12.out hp).1
    have hgl : 0 < xx.length → w5.heap.size ≤ gg := fun hp => (HG12.out hp).2.1
    have hb3 : Below (w3.heap.size + 1) w12 w13 := (hbm.mono (Nat.le_trans HS12.out.lt (Nat.le_refl _))).trans (ho.below fun x hx => by have := hx.2; have := hgl hx.1; omega)
    have HB13 : Hid (Below w.heap.size w w13) := HB12.out.trans (hb3.mono (by omega))
    have HD13 : Hid (Below w3.heap.size w3 w13) := HD12.out.trans (hb3.mono (by omega))
    have HS13 := Lib.hid (box_of_block HS12.out hb3.size (hb3.block _ (Nat.lt_succ_self _)))
    have HY13 : Hid (BoxAt w6.heap.size w13 xk xc xs' xq xv xd ag xx.length cg) := box_of_block (HY12.out.step hbm) hsz (ho.block _ fun e => by have h1 := HGG.out e.1; have h2 := e.2; omega)
    have HM13 : Hid (CellsAre w13 gg (xx.length * 4) (markFn 1)) := hmk
    have HGA := Lib.hid hga
    have HGW := Lib.hid hgw
    clear hsz hgw hga hgl hb3 hmk hbm ho HB12 HD12 HS12 HY12 HG12 y0 y1 y2 y3 y4 y5 y6
    have y0 := HY13.out.c0
    have y1 := HY13.out.c1
    have y2 := HY13.out.c2
    have y3 := HY13.out.c3
    have y4 := HY13.out.c4
    have y5 := HY13.out.c5
    have y6 := HY13.out.c6
    go_wp2_with fail
    refine (heldWrite_any xk xc xs' xq xv xd ag gg xx.length cg 1 _ hxl (by omega) (by omega) HGW.out HGA.out HM13.out).mono ?_
    rintro e w14 ⟨rfl, hb⟩
    have HB14 : Hid (Below w.heap.size w w14) := below_step HB13.out HB13.out.size hb
    have HS14 := Lib.hid (HS13.out.step hb)
    have HY14 := Lib.hid (HY13.out.step hb)
    have HD14 : Hid (Below w3.heap.size w3 w14) := below_step HD13.out HD13.out.size hb
    have HM14 : Hid (CellsAre w14 gg (xx.length * 4) (markFn 1)) := by
      by_cases hp : 0 < xx.length
      · exact HM13.out.of_block (hb.block _ (HGW.out hp))
      · exact fun o ho => by omega
    have HGW14 : Hid (0 < xx.length → gg < w14.heap.size) := fun hp => Nat.lt_of_lt_of_le (HGW.out hp) hb.size
    clear hb HB13 HS13 HY13 HD13 HM13 HGW y0 y1 y2 y3 y4 y5 y6
    have k4 : 0 ≤ 1 + 4 * (xx.length : Int) := by omega
    go_wp2_with fail
    refine (toWriteS_any a n cap us _ hn HN.out HX.out (HI.out.below HB14.out)).mono ?_
    rintro e w15 ⟨γ15, rfl, hO15, hb⟩
    have HB15 : Hid (Below w.heap.size w w15) := below_step HB14.out HB14.out.size hb
    have HS15 := Lib.hid (HS14.out.step hb)
    have HY15 := Lib.hid (HY14.out.step hb)
    have HD15 : Hid (Below w3.heap.size w3 w15) := below_step HD14.out HD14.out.size hb
    have HM15 : Hid (CellsAre w15 gg (xx.length * 4) (markFn 1)) := by
      by_cases hp : 0 < xx.length
      · exact HM14.out.of_block (hb.block _ (HGW14.out hp))
      · exact fun o ho => by omega
    have HGW15 : Hid (0 < xx.length → gg < w15.heap.size) := fun hp => Nat.lt_of_lt_of_le (HGW14.out hp) hb.size
    have HW15 : Hid (IsWs w15 (some ⟨w14.heap.size, 0, none⟩) us) := hO15.holds.isWs HF.out
    clear hb hO15 HB14 HS14 HY14 HD14 HM14 HGW14
    go_wp2_with fail
    refine (implNewest_any _ n n us _ HN.out hn HF.out HW15.out).mono ?_
    rintro e w16 ⟨y, ok', ah, gh, ch, rfl, hg, htell, hb⟩
    obtain ⟨rfl, rfl⟩ := new_same HTL.out htell
    have HB16 : Hid (Below w.heap.size w w16) := below_step HB15.out HB15.out.size hb
    have HS16 := Lib.hid (HS15.out.step hb)
    have HY16 := Lib.hid (HY15.out.step hb)
    have HD16 : Hid (Below w3.heap.size w3 w16) := below_step HD15.out HD15.out.size hb
    have HM16 : Hid (CellsAre w16 gg (xx.length * 4) (markFn 1)) := by
      by_cases hp : 0 < xx.length
      · exact HM15.out.of_block (hb.block _ (HGW15.out hp))
      · exact fun o ho => by omega
    have HGW16 : Hid (0 < xx.length → gg < w16.heap.size) := fun hp => Nat.lt_of_lt_of_le (HGW15.out hp) hb.size
    have HG16 : Hid (FreshDeps w15.heap.size w16 ah gh xx) := hg
    clear hb hg htell HB15 HS15 HY15 HD15 HM15 HGW15 HW15
    have HBA : Hid (Below w16.heap.size w16 (w16.alloc (.cells #[.int .i64 xk, .int .i64 xc, .int .i64 xs', .int .i64 xq, .int .i64 xv, .bool xd, .slice ah xx.length ch] 41))) := (Below.refl _ _).alloc (Nat.le_refl _) _
    have HD17 : Hid (Below w3.heap.size w3 (w16.alloc (.cells #[.int .i64 xk, .int .i64 xc, .int .i64 xs', .int .i64 xq, .int .i64 xv, .bool xd, .slice ah xx.length ch] 41))) := below_step HD16.out HD16.out.size HBA.out
    have HG17 := Lib.hid (HG16.out.below HBA.out)
    have s0 := HS16.out.c0
    have s1 := HS16.out.c1
    have s2 := HS16.out.c2
    have s3 := HS16.out.c3
    have s4 := HS16.out.c4
    have s5 := HS16.out.c5
    have s6 := HS16.out.c6
    have hlt6 := HS16.out.lt
    go_wp2_with fail
    refine (eqWrite_gen xk xc xs' xq xv xd ah as_ _ ch cs xx _ hxl rfl HG17.out.isDeps (HSD.out.below HD17.out)).mono ?_
    rintro e w18 ⟨rfl, hb⟩
    have hbb := Lib.hid (below_step HBA.out HBA.out.size hb)
    have HB18 : Hid (Below w.heap.size w w18) := below_step HB16.out HB16.out.size hbb.out
    have HY18 := Lib.hid (HY16.out.step hbb.out)
    have HM18 : Hid (CellsAre w18 gg (xx.length * 4) (markFn 1)) := by
      by_cases hp : 0 < xx.length
      · exact HM16.out.of_block (hbb.out.block _ (HGW16.out hp))
      · exact fun o ho => by omega
    have HGW18 : Hid (0 < xx.length → gg < w18.heap.size) := fun hp => Nat.lt_of_lt_of_le (HGW16.out hp) hbb.out.size
    clear hb hbb HB16 HS16 HY16 HD16 HD17 HM16 HGW16 HG16 HG17 HBA s0 s1 s2 s3 s4 s5 s6 hlt6
    have y0 := HY18.out.c0
    have y1 := HY18.out.c1
    have y2 := HY18.out.c2
    have y3 := HY18.out.c3
    have y4 := HY18.out.c4
    have y5 := HY18.out.c5
    have y6 := HY18.out.c6
    go_wp2_with fail
    refine (heldWrite_any xk xc xs' xq xv xd ag gg xx.length cg 1 _ hxl (by omega) (by omega) HGW18.out HGA.out HM18.out).mono ?_
    rintro e w19 ⟨rfl, hb⟩
    have HB19 : Hid (Below w.heap.size w w19) := below_step HB18.out HB18.out.size hb
    clear hb
    go_wp2
    go_ret
    exact ⟨rfl, HB19.out⟩


set_option maxRecDepth 100000 in
theorem lifted (os : Os) (started : os.Started) (H : Type) (enc : TypeId × Value → H) :
    ReturnsInHanded {} Try.checked os 4 .any (Rows.fnExactNewestSpec.pre6 enc Try.prog Try.f4 Rows.fnExactNewestRow.domain false) (Rows.fnExactNewestSpec.post enc Try.prog Try.f4 false true false false) := by
  refine returnsInHanded_of_change (C := Try.checked) own started (by kernel_rfl) Try.func4
    (ChangeSpec.witness6 (enc := enc) (C := Try.checked) false ⟨#[], #[.slice none 0 0], []⟩ 8 (by kernel_rfl) (by kernel_rfl) (by kernel_rfl) (by kernel_rfl)) ?_
  intro W base args ds gs before hval0 hW hcnd _
  have hval : ∀ (j : Nat) t v, Try.f4.params[j]? = some t → args[j]? = some v → Value.okWide Try.prog W .any base t v := hval0
  have hW' := hW
  obtain ⟨p, q, hA0, hV, rfl, hfz, hnd⟩ := hW
  have hA : DataW.TrodAll enc Try.prog W 0 (fun _ => true) true Try.f4.params.toList args.toList ds p := hA0
  rw [Try.params4] at hA hval
  obtain ⟨v0, d0, rfl, rfl, h0⟩ := trodAll_one hA
  have k0 := h0
  have lt0 : ∀ x ∈ p, x.block < W.heap.size := by obtain ⟨m, hm⟩ := k0; exact DataW.trod_lt m _ _ _ hm
  obtain ⟨rfl, rfl⟩ := trodVars_none hV
  obtain ⟨a0, len0, cap0, xs0, hv0, hr0⟩ := open_ws (hval 0 35 v0 rfl rfl) h0
  subst hv0
  clear hA0 hval0
  refine (walk a0 len0 cap0 xs0 W hr0).mono fun e W' ⟨he, bel⟩ => ?_
  subst he
  exact ⟨_, rfl, _, _, _, [], _, [], hW', trodAll_mk1 (shut_bool Try.underlying4 _), (trodAll_mk1 (Below.trod laidOut (by kernel_rfl) (of_decide_eq_true (by kernel_rfl)) k0 bel lt0)), rfl, bel.frame _, fun h => by cases h⟩

theorem over : Rows.fnExactNewestRow.holds Try.pinned (OpenSpec.ofChange Rows.fnExactNewestSpec) :=
  OpenClaim.holds_of_wide 4 Try.f4 rfl rfl rfl rfl rfl rfl rfl ⟨rfl, rfl, rfl, rfl, rfl⟩ rfl rfl rfl rfl rfl (by kernel_rfl) Try.func4 (by kernel_rfl)
    (of_decide_eq_true (by kernel_rfl)) (by unfold Func.isWrapper; rw [if_neg (by decide +kernel)]; exact ⟨rfl, rfl⟩)
    (fun os started H enc _ => lifted os started H enc)

end Go.Proofs.Ytojgahcogpediaa.lawNewest
namespace Go.Proofs.Ytojgahcogpediaa
theorem fnExactNewest_holds : Rows.FnExactNewestSaid := lawNewest.over
#print axioms fnExactNewest_holds
end Go.Proofs.Ytojgahcogpediaa
