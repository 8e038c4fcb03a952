import Derived.Test.YtpejdhbajejmoaaPack8
import Derived.Deep.DeepCutAuto
import Derived.Test.YtpejdhbajejmoaaPack1
import Derived.Maps.OwnSet
import Derived.DeepKeys4
import Derived.WideKeyEntry
import Derived.Laws.Append
/- InOrder, the specification's side: the contract of spec.InOrder. -/
namespace Go.Proofs.Ytpejdhbajejmoaa
open Go.ChangeShapes Go.WideShapes Go.ChangeAt Go.RowKit Go.Joins
attribute [local go_sem ↓] Go.wp_at_zero Go.wp_at_succ

theorem run_make_z4 (w : World) :
    (Instr.makeSlice 26 (.int .i64 4) (.int .i64 4)).run Try.prog w = .ok (.slice (some ⟨w.heap.size, 0, none⟩) 4 4) (w.alloc (.cells (madeCells #[.int .i64 0] 4) 3)) := by
  obtain ⟨i, hi, hzz⟩ := Option.map_eq_some_iff.1 infoInt
  simp only [Prod.mk.injEq] at hzz
  obtain ⟨hz, hs, hb⟩ := hzz
  have hr := run_make (P := Try.prog) w 26 3 i _ Try.underlying26 hi hz .i64 .i64 4 4 (by omega) (Int.le_refl _) (by rw [hb]; omega) (by omega)
  simp only [hs] at hr
  exact hr

/-- The worlds ahead of the first round. -/
abbrev ordA (w : World) : World := (((w.alloc (.cells #[.slice none 0 0] 28)).alloc (.cells #[] 33)).alloc (.cells (madeCells #[.int .i64 0] 4) 3)).alloc (.cells #[.slice (some ⟨w.heap.size + 2, 0, none⟩) 4 4] 28)

theorem ordA_size (w : World) : (ordA w).heap.size = w.heap.size + 4 := by simp [ordA]

theorem ordA_low (w : World) : Below w.heap.size w (ordA w) :=
  ((((Below.refl _ _).alloc (Nat.le_refl _) _).alloc (by simp) _).alloc (by simp; omega) _).alloc (by simp; omega) _

theorem ordW_start (w : World) (ps : List Pst) : OrdW w ((ordA w).alloc (.cells (madeCells #[.bool false] ps.length) 4)) ps 0 (.slice (some ⟨w.heap.size + 1, 0, none⟩) 0 0) [] (w.heap.size + 2) 4 := by
  have hs := ordA_size w
  have hbl : Below (ordA w).heap.size (ordA w) ((ordA w).alloc (.cells (madeCells #[.bool false] ps.length) 4)) := (Below.refl _ _).alloc (Nat.le_refl _) _
  obtain ⟨q0, q1, q2, q3⟩ := heap_four w (.cells #[.slice none 0 0] 28) (.cells #[] 33) (.cells (madeCells #[.int .i64 0] 4) 3) (.cells #[.slice (some ⟨w.heap.size + 2, 0, none⟩) 4 4] 28)
  refine ⟨⟨(ordA_low w).alloc (by rw [hs]; omega) _, (hbl.block _ (by omega)).trans q0, (hbl.block _ (by omega)).trans q3, ?_, ?_, rfl, fun g hg => ?_, by simp, ?_, by omega, by omega, by omega, ?_, by simp⟩, goC_zero ps⟩
  · have := madeBools (ordA w) ps.length
    rw [hs] at this
    simpa [runC] using this
  · have h1 := rowP_start (w.alloc (.cells #[.slice none 0 0] 28)) (w.heap.size + 1) (by simp)
    have h2 : (w.alloc (.cells #[.slice none 0 0] 28)).heap.size = w.heap.size + 1 := by simp
    rw [h2] at h1
    refine h1.below ?_
    exact (((Below.refl _ _).alloc (Nat.le_refl _) _).alloc (by simp) _).alloc (by simp) _
  · simp only [Value.ownBlock, Option.some.injEq] at hg
    omega
  · refine NumsAt.of_block (w := ordA w) ⟨by rw [hs]; omega, fun i hi => ?_, fun o => ?_⟩ (hbl.block _ (by omega)) (by simp)
    · have hi4 : i < 4 := hi
      rw [cell_of_row _ _ i _ _ _ q2]
      have : i = 0 ∨ i = 1 ∨ i = 2 ∨ i = 3 := by omega
      rcases this with rfl | rfl | rfl | rfl <;> simp [madeCells, runC, z4]
    · exact frozen_of_row _ _ o _ _ q2
  · simp [Value.ownBlock]

def lenV : Value → Nat
  | .slice _ n _ => n
  | _ => 0

set_option maxRecDepth 100000 in
set_option maxHeartbeats 8000000 in
theorem specInOrder_any (a : Option Addr) (len cap : Nat) (ps : List Pst) (w : World) (hl : ps.length = len) (hn : len ≤ 1048576) (hx : ∀ i, i < len → (ps.getD i pz).xs.length ≤ 1048576) (hi : IsPs w a ps) :
    Calls Try.prog 7 #[.slice a len cap] w fun e w' => OrdAns w ps e w' := by
  have HI : Hid (IsPs w a ps) := hi
  have HL : Hid (ps.length = len) := hl
  have HX : Hid (∀ i, i < len → (ps.getD i pz).xs.length ≤ 1048576) := hx
  have HW0 : Hid (OrdW w ((ordA w).alloc (.cells (madeCells #[.bool false] len) 4)) ps 0 (.slice (some ⟨w.heap.size + 1, 0, none⟩) 0 0) [] (w.heap.size + 1 + 1) 4) := by
    rw [← hl]
    exact ordW_start w ps
  unfold ordA at HW0
  rw [show w.heap.size + 2 = w.heap.size + 1 + 1 from rfl] at HW0
  clear hi hl hx
  have hm4 := run_make_z4
  have hmb := run_make_bools len hn
  have hres : Try.f7.results = #[.tmp 2, .cell 3 28] := by kernel_rfl
  go_enter Try.func7, Try.ntmps7
  go_wp2
  clear hm4 hmb
  generalize ((((w.alloc (.cells #[.slice none 0 0] 28)).alloc (.cells #[] 33)).alloc (.cells (madeCells #[.int .i64 0] 4) 3)).alloc (.cells #[.slice (some ⟨w.heap.size + 1 + 1, 0, none⟩) 4 4] 28)).alloc (.cells (madeCells #[.bool false] len) 4) = W0 at *
  obtain ⟨B3, hB3⟩ : ∃ B3, w.heap.size + 3 = B3 := ⟨_, rfl⟩
  obtain ⟨B4, hB4⟩ : ∃ B4, w.heap.size + 4 = B4 := ⟨_, rfl⟩
  rw [show w.heap.size + 1 + 1 + 1 = B3 from hB3, show B3 + 1 = B4 by omega]
  have HB3 := Lib.hid hB3
  have HB4 := Lib.hid hB4
  clear hB3 hB4
  go_loopw [4] (fun t4 wr => ∃ (n : Nat) (v4 : Value) (es : List EnP) (gv cpv : Nat), v4 = t4 ∧ Hid (OrdW w wr ps n v4 es gv cpv)) (fun t4 _ => 4000001 - lenV t4)
  case atStart => exact ⟨0, _, [], _, _, rfl, HW0⟩
  case round =>
    clear HW0
    obtain ⟨n, v4, es, gv, cpv, rfl, HW⟩ := hrel
    obtain ⟨a4, cp4, rfl, -⟩ := HW.out.row.form
    have hel := HW.out.len
    obtain ⟨L, hL⟩ : ∃ L, es.length = L := ⟨_, rfl⟩
    have hLn : L = n := by omega
    subst hLn
    rw [hL] at HW ⊢
    have HLE := Lib.hid hL
    clear hL hel
    go_wp2
    go_loopw [7, 8] (fun t7 t8 wr => ∃ (j : Nat) (k : Int), j ≤ len ∧ t7 = .int .i64 k ∧ t8 = .int .i64 ((j : Int) - 1) ∧ Hid (FromC (runC ps L).2 ps j k) ∧ Hid (OrdW w wr ps L (.slice a4 L cp4) es gv cpv)) (fun _ t8 _ => (intOf t8 + 1).toNat)
    case atStart =>
      refine ⟨len, -1, Nat.le_refl _, rfl, by go_num, ?_, HW⟩
      have := fromC_start (runC ps L).2 ps
      rw [HL.out] at this
      exact this
    case round =>
      clear HW
      obtain ⟨j, k, hj, rfl, rfl, HF, HW⟩ := hrel
      cases j with
      | succ i =>
        rw [show (((i + 1 : Nat) : Int) - 1) = (i : Int) by omega]
        obtain ⟨b, o, ad, cq, hA, hz, ⟨e0, e1, e2⟩, hmx, hd⟩ := ps_at HI.out HW.out.low HL.out (show i < len by omega)
        subst hA
        have c4 := HW.out.bc.cell (i := i) (by rw [HL.out]; omega)
        rw [HB4.out] at c4
        have z4' : B4 < wr.heap.size := by rw [← HB4.out]; exact HW.out.lt
        have z3' : B3 < wr.heap.size := by have := HB3.out; have := HB4.out; omega
        have c3 := (cells_one HW.out.bv).1
        rw [HB3.out] at c3
        have i1 : (0 : Int) ≤ (i : Int) := by omega
        have i2 : (i : Int) < (len : Int) := by omega
        have HN := Lib.hid HW.out.nums
        have hR4 := runC_four HW.out.go
        have hxl := HX.out i (by omega)
        have HC : Hid (∀ W, Below wr.heap.size wr W → Calls Try.prog 18 #[vecV (some ⟨gv, 0, none⟩) 4 cpv, postV (ps.getD i pz).f ad (ps.getD i pz).xs.length cq (ps.getD i pz).y] W fun e w' => e = .returned (.bool (comesB (runC ps L).2 (ps.getD i pz))) ∧ Below W.heap.size W w') := fun W hW =>
          specMayCome_any _ _ _ _ _ _ _ _ _ _ W hR4 (by unfold maxLen; omega) (.inr ⟨gv, 0, rfl, (HN.out.below hW).1, fun q hq => by rw [Nat.zero_add]; exact (HN.out.below hW).2.1 q hq⟩) rfl (by unfold maxLen; omega) (hd.below hW)
        have HNO : Hid (decide (i ∈ (runC ps L).1) = true → comesB (runC ps L).2 (ps.getD i pz) = false) := fun h => came_not HW.out.go (by simpa using h)
        have HFY : Hid (comesB (runC ps L).2 (ps.getD i pz) = true → FromC (runC ps L).2 ps i (i : Int)) := fun h => FromC.yes (by rw [HL.out]; omega) h
        have HFN : Hid (comesB (runC ps L).2 (ps.getD i pz) = false → FromC (runC ps L).2 ps i k) := fun h => HF.out.no h
        clear hd hR4 HN HF
        generalize ps.getD i pz = x at *
        obtain ⟨xf, xx, xy⟩ := x
        simp only at e0 e1 e2 hxl HC
        generalize xx.length = xl at *
        generalize comesB (runC ps L).2 ⟨xf, xx, xy⟩ = cb at *
        cases hdc : decide (i ∈ (runC ps L).1)
        · rw [hdc] at c4
          go_wp2_with fail
          have g0 := aft_cell z4' c4
          have g1 := aft_cell z3' c3
          have g2 := aft_cell hz e0
          have g3 := aft_cell hz e1
          have g4 := aft_cell hz e2
          have ne := aft_some wr
          refine wp_region_aft (by kernel_rfl) (by kernel_rfl) ?_
          repeat (first | go_big_quiet_step (first | (go_at_call 18; exact aft_of (HC.out _ (Aft.below _)))))
          refine wpQuiet_nil ?_
          intro wa hqwa
          clear g0 g1 g2 g3 g4 ne
          have HWA := Lib.hid (HW.out.below hqwa)
          clear hqwa c4 c3 e0 e1 e2 HW
          cases cb
          · have HF2 := Lib.hid (HFN.out rfl)
            go_wp2
            exact ⟨⟨i, k, by omega, rfl, by go_num, HF2, HWA⟩, by simp [intOf]⟩
          · have HF2 := Lib.hid (HFY.out rfl)
            go_wp2
            exact ⟨⟨i, _, by omega, rfl, by go_num, HF2, HWA⟩, by simp [intOf]⟩
        · rw [hdc] at c4
          have HF2 := Lib.hid (HFN.out (HNO.out hdc))
          go_wp2_with fail
          have g0 := aft_cell z4' c4
          have ne := aft_some wr
          refine wp_region_aft (by kernel_rfl) (by kernel_rfl) ?_
          repeat (first | go_big_quiet_step (fail))
          refine wpQuiet_nil ?_
          intro wa hqwa
          clear g0 ne
          have HWA := Lib.hid (HW.out.below hqwa)
          clear hqwa c4 c3 e0 e1 e2 HW
          go_wp2
          exact ⟨⟨i, k, by omega, rfl, by go_num, HF2, HWA⟩, by simp [intOf]⟩
      | zero =>
        have z4' : B4 < wr.heap.size := by rw [← HB4.out]; exact HW.out.lt
        have z3' : B3 < wr.heap.size := by have := HB3.out; have := HB4.out; omega
        have z0' : w.heap.size < wr.heap.size := by have := HB3.out; omega
        have c3 := (cells_one HW.out.bv).1
        have f3 := (cells_one HW.out.bv).2.1
        rw [HB3.out] at c3 f3
        have c0 := (cells_one HW.out.b0).1
        have f0 := (cells_one HW.out.b0).2.1
        rcases HF.out.end_ with ⟨rfl, hend⟩ | ⟨rfl, hlt⟩
        · have HE := Lib.hid hend
          clear hend HF
          go_wp2_with fail
          go_region
          have HWD : Hid (OrdW w wr.drew ps L (.slice a4 L cp4) es gv cpv) := HW.out.below ((Below.refl _ _).drew)
          clear HW c3 f3 c0 f0
          rw [show (wr.setCell ⟨w.heap.size, 0, none⟩ (.slice (some ⟨gv, 0, none⟩) 4 cpv)).drew = wr.drew.setCell ⟨w.heap.size, 0, none⟩ (.slice (some ⟨gv, 0, none⟩) 4 cpv) from rfl]
          generalize wr.drew = wd at *
          have c0 := (cells_one HWD.out.b0).1
          go_wp2
          exact bodyPost_ret (v := .tuple #[.slice a4 L cp4, vecV (some ⟨gv, 0, none⟩) 4 cpv]) (by simp only [results, hres]; go_simp) rfl (HWD.out.ends HE.out _)
        · have HE := Lib.hid hlt
          obtain ⟨q, hq⟩ : ∃ q, firstC (runC ps L).2 ps = q := ⟨_, rfl⟩
          have HQ := Lib.hid hq
          rw [hq] at hlt ⊢
          clear hq HF
          rw [HL.out] at hlt
          obtain ⟨b, o, ad, cq, hA, hz, hpw, hmx, hd⟩ := ps_at HI.out (Below.refl _ _) HL.out hlt
          subst hA
          have HPW := Lib.hid hpw
          have HDW : Hid (∀ W, Below w.heap.size w W → IsIs W ad (ps.getD q pz).xs) := fun W hW => hd.below hW
          have HBW := Lib.hid hz
          clear hd hmx hpw
          have c4 := HW.out.bc.cell (i := q) (by rw [HL.out]; omega)
          have f4 := HW.out.bc.frozen
          rw [HB4.out] at c4 f4
          have i1 : (0 : Int) ≤ (q : Int) := by omega
          have i2 : (q : Int) < (len : Int) := by omega
          clear c3 f3 c0 f0
          go_upto_region 13 with fail
          have HXA : Hid (OrdX w (wr.setCell ⟨B4, q, none⟩ (.bool true)) ps.length ((runC ps L).1 ++ [q]) (runC ps L).2 (outC ps L) (.slice a4 L cp4) es gv cpv) := by
            rw [← HB4.out]
            exact HW.out.toOrdX.mark q
          have HGO := Lib.hid HW.out.go
          clear HW c4 f4
          generalize wr.setCell ⟨B4, q, none⟩ (.bool true) = wa at *
          obtain ⟨e0, e1, e2⟩ := HPW.out.of_block (HXA.out.low.block _ HBW.out)
          have hz' : b < wa.heap.size := Nat.lt_of_lt_of_le HBW.out HXA.out.low.size
          have HC := Lib.hid (firstC_comes HE.out)
          rw [HQ.out] at HC
          have HJ := Lib.hid (comes_join HC.out)
          have hxl := HX.out q hlt
          have hON := outC_next ps L
          rw [HQ.out] at hON
          have HON := Lib.hid hON
          have HRN : Hid ((runC ps (L + 1)).2 = joinV (runC ps L).2 (ps.getD q pz).xs ∧ (runC ps (L + 1)).1 = (runC ps L).1 ++ [q]) := by
            show joinV (runC ps L).2 (ps.getD (firstC (runC ps L).2 ps) pz).xs = _ ∧ (runC ps L).1 ++ [firstC (runC ps L).2 ps] = _
            rw [HQ.out]
            exact ⟨rfl, rfl⟩
          clear hON HPW
          have HR4 := Lib.hid (runC_four HGO.out)
          have HX4 : Hid ((ps.getD q pz).xs.length = 4) := by
            obtain ⟨x0, x1, x2, x3, e, -⟩ := vecB_four HJ.out.2.1
            rw [e]
            exact Lib.hid rfl
          generalize ps.getD q pz = x at *
          obtain ⟨xf, xx, xy⟩ := x
          simp only at e0 e1 e2 hxl HC HJ HDW HRN HX4
          have hx4 := HX4.out
          rw [hx4] at e1
          clear hx4 hxl
          have HXB : Hid (OrdX w (wa.alloc (.cells #[.int .i64 xf, .slice ad 4 cq, .int .i64 xy] 33)) ps.length ((runC ps L).1 ++ [q]) (runC ps L).2 (outC ps L) (.slice a4 L cp4) es gv cpv) := HXA.out.below ((Below.refl _ _).alloc (Nat.le_refl _) _)
          have HTB : Hid ((wa.alloc (.cells #[.int .i64 xf, .slice ad 4 cq, .int .i64 xy] 33)).heap[wa.heap.size]? = some (.cells #[.int .i64 xf, .slice ad 4 cq, .int .i64 xy] 33 (0, 0))) := heap_alloc_new wa _
          have HSB : Hid ((wa.alloc (.cells #[.int .i64 xf, .slice ad 4 cq, .int .i64 xy] 33)).heap.size = wa.heap.size + 1) := by show _ = _; simp
          have HT5 : Hid (w.heap.size + 5 ≤ wa.heap.size ∧ (Value.slice a4 L cp4).ownBlock ≠ some wa.heap.size ∧ (∀ e ∈ es, e.g ≠ wa.heap.size) ∧ gv ≠ wa.heap.size) := by
            obtain ⟨o1, o2⟩ := HXA.out.row.old (Nat.le_refl _)
            have := HXA.out.nums.1
            exact ⟨HXA.out.lt, o1, o2, by omega⟩
          go_upto_region 14 with fail
          clear HXA e0 e1 e2 hz' hz z4' z3' z0'
          generalize hTT : wa.heap.size = T at *
          generalize wa.alloc (.cells #[.int .i64 xf, .slice ad 4 cq, .int .i64 xy] 33) = wb at *
          clear hTT
          have t0 := cell_of_row wb T 0 _ _ _ HTB.out
          have t1 := cell_of_row wb T 1 _ _ _ HTB.out
          have t2 := cell_of_row wb T 2 _ _ _ HTB.out
          simp at t0 t1 t2
          have c3 := (cells_one HXB.out.bv).1
          rw [HB3.out] at c3
          have hjl := HJ.out.2.2.2.1
          have HVJ : Hid (Calls Try.prog 19 #[vecV (some ⟨gv, 0, none⟩) 4 cpv, vecV ad 4 cq] wb fun e w' => ∃ g cp, e = .returned (vecV g 4 cp) ∧ OwnI w' wb.heap.size w'.heap.size g (joinV (runC ps L).2 xx) ∧ Below wb.heap.size wb w') := by
            have := specVecJoin_any (some ⟨gv, 0, none⟩) ad 4 4 cpv cq (runC ps L).2 xx wb HR4.out (by unfold maxLen; omega) (.inr ⟨gv, 0, rfl, HXB.out.nums.1, fun i hi => by rw [Nat.zero_add]; exact HXB.out.nums.2.1 i hi⟩) HX4.out (by unfold maxLen; omega) (HDW.out _ HXB.out.low)
            rw [hjl] at this
            exact this
          have HJL := Lib.hid hjl
          clear hjl
          go_wp2_with fail
          refine HVJ.out.mono ?_
          rintro e w1 ⟨gj, cpj, rfl, hown, hb⟩
          obtain ⟨hgj, rfl⟩ : ∃ g, gj = some ⟨g, 0, none⟩ := by
            rcases hown with h | ⟨g, h, -⟩
            · have := HJL.out
              rw [h] at this
              cases this
            · exact ⟨g, h⟩
          have HNJ : Hid (NumsAt w1 hgj (joinV (runC ps L).2 xx) ∧ wb.heap.size ≤ hgj) := by
            rcases hown with h | ⟨g, h, h1, h2, h3, h4, h5⟩
            · have := HJL.out
              rw [h] at this
              cases this
            · injection h with h
              injection h with h
              subst h
              exact ⟨⟨h3, h4, h5⟩, h1⟩
          clear hown
          have HXC : Hid (OrdX w (w1.setCell ⟨B3, 0, none⟩ (.slice (some ⟨hgj, 0, none⟩) 4 cpj)) ps.length ((runC ps L).1 ++ [q]) (joinV (runC ps L).2 xx) (outC ps L) (.slice a4 L cp4) es hgj cpj) := by
            rw [← HB3.out]
            exact HXB.out.turn hb HNJ.out.1 HNJ.out.2 cpj
          have HX1 := Lib.hid (HXB.out.below hb)
          have c3 := (cells_one HX1.out.bv).1
          have f3 := (cells_one HX1.out.bv).2.1
          rw [HB3.out] at c3 f3
          have HSC : Hid ((w1.setCell ⟨B3, 0, none⟩ (.slice (some ⟨hgj, 0, none⟩) 4 cpj)).heap.size = w1.heap.size) := by show _ = _; simp
          have hTB : T < wb.heap.size := (Array.getElem?_eq_some_iff.1 HTB.out).1
          have HTC : Hid ((w1.setCell ⟨B3, 0, none⟩ (.slice (some ⟨hgj, 0, none⟩) 4 cpj)).heap[T]? = some (.cells #[.int .i64 xf, .slice ad 4 cq, .int .i64 xy] 33 (0, 0))) := by
            refine (Below.heap_setCell _ _ _ _ ?_).trans ((hb.block _ hTB).trans HTB.out)
            have := HT5.out.1
            have := HB3.out
            show T ≠ B3
            omega
          have HTJ : Hid (T < hgj ∧ T < w1.heap.size) := by
            have := HNJ.out.2
            have := hb.size
            exact ⟨by omega, by omega⟩
          clear hb HX1 HNJ HVJ HXB HTB HSB t0 t1 t2 hTB
          go_upto_region 15 with fail
          clear c3 f3
          generalize w1.setCell ⟨B3, 0, none⟩ (.slice (some ⟨hgj, 0, none⟩) 4 cpj) = wc at *
          rw [← HSC.out] at HTJ
          clear HSC
          have HXE : Hid (OrdX w (wc.alloc (.cells #[] 3)) ps.length ((runC ps L).1 ++ [q]) (joinV (runC ps L).2 xx) (outC ps L) (.slice a4 L cp4) es hgj cpj) := HXC.out.below ((Below.refl _ _).alloc (Nat.le_refl _) _)
          have HTE : Hid ((wc.alloc (.cells #[] 3)).heap[T]? = some (.cells #[.int .i64 xf, .slice ad 4 cq, .int .i64 xy] 33 (0, 0))) := (Below.heap_alloc _ _ _ HTJ.out.2).trans HTC.out
          have HRE : Hid ((wc.alloc (.cells #[] 3)).ownsRow wc.heap.size 3 1 (.slice (some ⟨wc.heap.size, 0, none⟩) 0 0) 0 []) := World.ownsRow_made wc #[] 0 (Nat.le_refl _) (by simp [maxLen]) (by simp)
          obtain ⟨b2, o2, rfl, h2, hh2⟩ : ∃ b2 o2, ad = some ⟨b2, o2, none⟩ ∧ b2 < (wc.alloc (.cells #[] 3)).heap.size ∧ ∀ i, i < xx.length → (wc.alloc (.cells #[] 3)).cell? ⟨b2, o2 + i, none⟩ = some (.int .i64 (xx.getD i 0)) := by
            rcases HDW.out _ HXE.out.low with h | ⟨b2, o2, h, h3, h4⟩
            · have := HX4.out
              rw [h] at this
              cases this
            · exact ⟨b2, o2, h, h3, h4⟩
          have HNW : Hid (∀ j u, (xx.map intV)[j]? = some u → (wc.alloc (.cells #[] 3)).cell? ((⟨b2, o2, none⟩ : Addr).add j) = some u) := by
            intro j u hu
            have hj : j < xx.length := by have := (List.getElem?_eq_some_iff.1 hu).1; simpa using this
            have e1 : (⟨b2, o2, none⟩ : Addr).add j = ⟨b2, o2 + j, none⟩ := by
              unfold Addr.add
              split
              · rename_i h
                rw [h]
                rfl
              · rfl
            rw [e1, hh2 j hj, ← hu]
            simp [intV, List.getD, hj]
          have HNL : Hid ((xx.map intV).length = 4 * 1) := by rw [List.length_map, HX4.out]; exact Lib.hid rfl
          have t1 := cell_of_row _ T 1 _ _ _ HTE.out
          simp at t1
          have t1' := cell_of_row _ T 1 _ _ _ HTC.out
          simp at t1'
          obtain ⟨ii, hii, hxi⟩ := Option.map_eq_some_iff.1 infoInt
          simp only [Prod.mk.injEq] at hxi
          have HII := Lib.hid hii
          have HXI := Lib.hid hxi
          clear hii hxi h2 hh2
          go_wp2_with (at_builtin; refine wpList_append_lies _ (by rfl) _ _ _ (by rfl) wc.heap.size 3 ii (.int .i64 0) 1 8 Try.underlying26 HII.out HXI.out.1 HXI.out.2.1 HXI.out.2.2 (by rfl) (by omega) (.slice (some ⟨wc.heap.size, 0, none⟩) 0 0) 0 [] (by rfl) HRE.out ⟨b2, o2, none⟩ 4 cq (xx.map intV) (by rfl) HNL.out HNW.out (intV_one xx) (by omega) (by unfold maxLen; omega) (by omega) (by simp) _ rfl ?_; intro g5 cp5 w5 hown5 hgrow5 hg5 hlt5; refine Hid.out ?_)
          refine Lib.hid ?_
          have hb5 : Below wc.heap.size wc w5 := ((Below.refl _ _).alloc (Nat.le_refl _) _).grown hgrow5 (by simp) fun j hj => by
            simp only [Value.ownBlock, Option.some.injEq] at hj
            omega
          have HN5 : Hid (NumsAt w5 g5 xx ∧ wc.heap.size ≤ g5) := by
            refine ⟨⟨hlt5, fun i hi => ?_, fun o => World.ownsRow.frozenAt hown5 o⟩, (World.ownsRow.lt hown5 g5 rfl).1⟩
            have h4 := HX4.out
            rw [World.ownsRow.cellAt hown5 i (by omega)]
            simp [intV, List.getD, hi]
          have HX5 := Lib.hid (HXC.out.below hb5)
          have HT5' : Hid (w5.heap[T]? = some (.cells #[.int .i64 xf, .slice (some ⟨b2, o2, none⟩) 4 cq, .int .i64 xy] 33 (0, 0))) := (hb5.block _ HTJ.out.2).trans HTC.out
          obtain ⟨p1, p2⟩ := HXC.out.row.old HN5.out.2
          have HG5 : Hid ((Value.slice a4 L cp4).ownBlock ≠ some g5 ∧ (∀ e ∈ es, e.g ≠ g5) ∧ g5 ≠ hgj ∧ g5 ≠ T ∧ w.heap.size + 5 ≤ g5) := by
            have h1 := HXC.out.nums.1
            have h2 := HN5.out.2
            have h3 := HXC.out.lt
            have h4 := HTJ.out
            exact ⟨p1, p2, by omega, by omega, by omega⟩
          have HX6 : Hid (OrdX w (w5.setCell ⟨T, 1, none⟩ (.slice (some ⟨g5, 0, none⟩) 4 cp5)) ps.length ((runC ps L).1 ++ [q]) (joinV (runC ps L).2 xx) (outC ps L) (.slice a4 L cp4) es hgj cpj) :=
            HX5.out.setT (p := ⟨T, 1, none⟩) HT5.out.1 HT5.out.2.1 HT5.out.2.2.1 (by have := HTJ.out.1; show hgj ≠ T; omega) _
          have HT6 : Hid ((w5.setCell ⟨T, 1, none⟩ (.slice (some ⟨g5, 0, none⟩) 4 cp5)).heap[T]? = some (.cells #[.int .i64 xf, .slice (some ⟨g5, 0, none⟩) 4 cp5, .int .i64 xy] 33 (0, 0))) := by
            have h := HT5'.out
            have hlt : T < w5.heap.size := (Array.getElem?_eq_some_iff.1 h).1
            simp [World.setCell, Array.getElem?_modify, h, Hid]
          have HN6 : Hid (NumsAt (w5.setCell ⟨T, 1, none⟩ (.slice (some ⟨g5, 0, none⟩) 4 cp5)) g5 xx) := HN5.out.1.of_block (Below.heap_setCell _ _ _ _ HG5.out.2.2.2.1) (by simpa using HN5.out.1.1)
          clear t1 t1'
          have t1 := cell_of_row _ T 1 _ _ _ HT5'.out
          simp at t1
          have f1 := frozen_of_row w5 T 1 _ _ HT5'.out
          clear hb5 HN5 HX5 p1 p2 hown5 hgrow5 hg5 hlt5 HXC HXE HTE HRE HNW HNL HII HXI HTC HT5
          go_upto_region 16 with fail
          clear t1 f1 HT5'
          generalize w5.setCell ⟨T, 1, none⟩ (.slice (some ⟨g5, 0, none⟩) 4 cp5) = w6 at *
          have t0 := cell_of_row _ T 0 _ _ _ HT6.out
          have t1 := cell_of_row _ T 1 _ _ _ HT6.out
          have t2 := cell_of_row _ T 2 _ _ _ HT6.out
          simp at t0 t1 t2
          have HX7 : Hid (OrdX w (w6.alloc (.cells #[.int .i64 xf, .slice (some ⟨g5, 0, none⟩) 4 cp5, .int .i64 xy] 33)) ps.length ((runC ps L).1 ++ [q]) (joinV (runC ps L).2 xx) (outC ps L) (.slice a4 L cp4) es hgj cpj) := HX6.out.below ((Below.refl _ _).alloc (Nat.le_refl _) _)
          have HN7 : Hid (NumsAt (w6.alloc (.cells #[.int .i64 xf, .slice (some ⟨g5, 0, none⟩) 4 cp5, .int .i64 xy] 33)) g5 xx) := HN6.out.below ((Below.refl _ _).alloc (Nat.le_refl _) _)
          have HCL : Hid (∀ j u, (psVals ⟨⟨xf, xx, xy⟩, g5, cp5⟩)[j]? = some u → (w6.alloc (.cells #[.int .i64 xf, .slice (some ⟨g5, 0, none⟩) 4 cp5, .int .i64 xy] 33)).cell? ((⟨w6.heap.size, 0, none⟩ : Addr).add j) = some u) := by
            have h := oneP_cells w6 33 ⟨⟨xf, xx, xy⟩, g5, cp5⟩
            simp only [HX4.out] at h
            exact h
          have HOW : Hid ((w6.alloc (.cells #[.int .i64 xf, .slice (some ⟨g5, 0, none⟩) 4 cp5, .int .i64 xy] 33)).ownsRow (w.heap.size + 1) 33 3 (.slice a4 L cp4) L (es.flatMap psVals)) := by
            have h := HX7.out.row.own
            rw [HLE.out] at h
            exact h
          have hgm := HGO.out.more (by rw [HQ.out, HL.out]; exact hlt)
          have hLb := hgm.bound
          have HGM := Lib.hid hgm
          clear hgm
          obtain ⟨ii, hii, hxi⟩ := Option.map_eq_some_iff.1 infoPst
          simp only [Prod.mk.injEq] at hxi
          have HII := Lib.hid hii
          have HXI := Lib.hid hxi
          have hsz7 : w.heap.size + 1 ≤ w6.heap.size + 1 := by have := HX6.out.lt; omega
          clear hii hxi
          go_wp2_with (at_builtin; refine wpList_append_lies _ (by rfl) _ _ _ (by rfl) (w.heap.size + 1) 33 ii (postV 0 none 0 0 0) 3 40 Try.underlying24 HII.out HXI.out.1 HXI.out.2.1 HXI.out.2.2 (by rfl) (by omega) (.slice a4 L cp4) L (es.flatMap psVals) (by rfl) HOW.out ⟨w6.heap.size, 0, none⟩ 1 1 (psVals ⟨⟨xf, xx, xy⟩, g5, cp5⟩) (by rfl) (by rfl) HCL.out (by simpa using psVals_one [⟨⟨xf, xx, xy⟩, g5, cp5⟩]) (by omega) (by unfold maxLen; omega) (by omega) (by simpa using hsz7) _ rfl ?_; intro g8 cp8 w8 hown8 hgrow8 hg8 _; refine Hid.out ?_)
          refine Lib.hid ?_
          have HX8 : Hid (OrdX w w8 ps.length ((runC ps L).1 ++ [q]) (joinV (runC ps L).2 xx) (outC ps L ++ [⟨xf, xx, xy⟩]) (.slice (some ⟨g8, 0, none⟩) (L + 1) cp8) (es ++ [⟨⟨xf, xx, xy⟩, g5, cp5⟩]) hgj cpj) := by
            have h := HX7.out.more (e := ⟨⟨xf, xx, xy⟩, g5, cp5⟩) (g5 := g8) (cap5 := cp8) (w5 := w8) ⟨HG5.out.2.2.2.2, HG5.out.1, HN7.out⟩ HG5.out.2.1 HG5.out.2.2.1 (by rw [HLE.out]; exact hown8) hgrow8 hg8
            rw [HLE.out] at h
            exact h
          have HW8 : Hid (OrdW w w8 ps (L + 1) (.slice (some ⟨g8, 0, none⟩) (L + 1) cp8) (es ++ [⟨⟨xf, xx, xy⟩, g5, cp5⟩]) hgj cpj) := by
            refine ⟨?_, HGM.out⟩
            rw [HON.out, HRN.out.1, HRN.out.2]
            exact HX8.out
          clear HX8 hown8 hgrow8 hg8 HOW HCL HN7 HX7 HX6 HN6 HT6 t0 t1 t2
          go_wp2
          exact ⟨⟨L + 1, _, _, _, _, rfl, HW8⟩, by simp [lenV]; omega⟩

end Go.Proofs.Ytpejdhbajejmoaa

/- Maps whose keys are structs of numbers, told as functions from keys to values. -/
namespace Go.Proofs.Ytpejdhbajejmoaa
open Go.ChangeShapes Go.WideShapes Go.ChangeAt Go.RowKit Go.Joins Go.Maps

/-- An element is told by itself. -/
def asItself (v : Value) : Option (DataW Value × List MemPlace) := some (.held v, [])

/-- How the keys of a type are told: their values, the literals that they are held by, which of them there can be. -/
structure KeyG (κ : Type) (kt : TypeId) where
  v : κ → Value
  l : κ → Lit
  ok : κ → Prop
  law : Keyed Try.prog kt
  key : ∀ k, ok k → keyOf Try.prog kt (v k) = some (l k)
  inj : ∀ k k', v k = v k' → k = k'

set_option maxRecDepth 100000 in
theorem KeyG.lit {κ : Type} {kt : TypeId} (K : KeyG κ kt) {k : κ} (h : K.ok k) : WideAt.IsKeyLit (K.l k) := K.law.key (K.key k h)

set_option maxRecDepth 100000 in
theorem KeyG.linj {κ : Type} {kt : TypeId} (K : KeyG κ kt) {k k' : κ} (h : K.ok k) (h' : K.ok k') (e : K.l k = K.l k') : k = k' := by
  have h1 := K.key k h
  rw [e] at h1
  exact K.inj _ _ (K.law.inj h1 (K.key k' h'))

/-- Block b is a map that holds f. -/
def MapIs {κ : Type} {kt : TypeId} (K : KeyG κ kt) (w : World) (b n : Nat) (f : κ → Option Value) : Prop :=
  ∃ D : DataW Value, w.ownsMap Try.prog kt asItself b n D ∧ ∀ k, K.ok k → (f k = none → Maps.has D (K.l k) = false) ∧ ∀ v, f k = some v → Maps.has D (K.l k) = true ∧ ∀ z, D.atKey (K.l k) z = .held v

set_option maxRecDepth 100000 in
theorem mapIs_made {κ : Type} {kt : TypeId} (K : KeyG κ kt) (w : World) : MapIs K (w.alloc (.map #[] 0)) w.heap.size 0 (fun _ => none) :=
  ⟨.map [], World.ownsMap_made w _ _ _, fun _ _ => ⟨fun _ => rfl, fun v h => by cases h⟩⟩

set_option maxRecDepth 100000 in
theorem MapIs.lt {κ : Type} {kt : TypeId} {K : KeyG κ kt} {w : World} {b n : Nat} {f : κ → Option Value} (h : MapIs K w b n f) : b < w.heap.size := by
  obtain ⟨D, h1, _⟩ := h
  exact h1.lt

set_option maxRecDepth 100000 in
theorem MapIs.of_block {κ : Type} {kt : TypeId} {K : KeyG κ kt} {w w' : World} {b n : Nat} {f : κ → Option Value} (h : MapIs K w b n f) (hb : w'.heap[b]? = w.heap[b]?) : MapIs K w' b n f := by
  obtain ⟨D, ⟨es, clock, h1, h2⟩, h3⟩ := h
  exact ⟨D, ⟨es, clock, hb.trans h1, h2⟩, h3⟩

set_option maxRecDepth 100000 in
theorem MapIs.below {κ : Type} {kt : TypeId} {K : KeyG κ kt} {w w' : World} {b n : Nat} {f : κ → Option Value} (h : MapIs K w b n f) (hb : Below w.heap.size w w') : MapIs K w' b n f := h.of_block (hb.block b h.lt)

set_option maxRecDepth 100000 in
theorem MapIs.congr {κ : Type} {kt : TypeId} {K : KeyG κ kt} {w : World} {b n : Nat} {f g : κ → Option Value} (h : MapIs K w b n f) (e : ∀ k, K.ok k → g k = f k) : MapIs K w b n g := by
  obtain ⟨D, h1, h2⟩ := h
  exact ⟨D, h1, fun k hk => by rw [e k hk]; exact h2 k hk⟩

/-- What a look-up with two answers gives. -/
def lookAns (z : Value) : Option Value → Value
  | none => .tuple #[z, .bool false]
  | some v => .tuple #[v, .bool true]

set_option maxRecDepth 100000 in
theorem MapIs.look {κ : Type} {kt : TypeId} {K : KeyG κ kt} {w : World} {b n : Nat} {f : κ → Option Value} (h : MapIs K w b n f) {t e : TypeId} (ht : Try.prog.underlying t = some (.map kt e)) {z : Value} (hz : (zeroValue e).run Try.prog w = .ok z w) {k : κ} (hk : K.ok k) :
    (Instr.lookup t (.map (some b)) (K.v k) true).run Try.prog w = .ok (lookAns z (f k)) w := by
  obtain ⟨D, h1, h2⟩ := h
  obtain ⟨v, ps, hrun, hv⟩ := h1.look_ok K.law ht hz (zd := .held z) (zp := []) rfl (K.key k hk)
  rw [hrun]
  have e : (DataW.held v : DataW Value) = D.atKey (K.l k) (.held z) := by
    simp only [asItself, Option.some.injEq, Prod.mk.injEq] at hv
    exact hv.1
  cases hf : f k with
  | none =>
    rw [(h2 k hk).1 hf]
    rw [atKey_of_not_has ((h2 k hk).1 hf)] at e
    injection e with e
    rw [e]
    rfl
  | some u =>
    obtain ⟨h3, h4⟩ := (h2 k hk).2 u hf
    rw [h3]
    rw [h4] at e
    injection e with e
    rw [e]
    rfl

set_option maxRecDepth 100000 in
/-- A look-up with one answer. -/
theorem MapIs.look1 {κ : Type} {kt : TypeId} {K : KeyG κ kt} {w : World} {b n : Nat} {f : κ → Option Value} (h : MapIs K w b n f) {t e : TypeId} (ht : Try.prog.underlying t = some (.map kt e)) {z : Value} (hz : (zeroValue e).run Try.prog w = .ok z w) {k : κ} (hk : K.ok k) :
    (Instr.lookup t (.map (some b)) (K.v k) false).run Try.prog w = .ok ((f k).getD z) w := by
  obtain ⟨D, h1, h2⟩ := h
  obtain ⟨v, ps, hrun, hv⟩ := h1.lookup K.law ht hz (zd := .held z) (zp := []) rfl (K.key k hk)
  rw [hrun]
  have e : (DataW.held v : DataW Value) = D.atKey (K.l k) (.held z) := by
    simp only [asItself, Option.some.injEq, Prod.mk.injEq] at hv
    exact hv.1
  cases hf : f k with
  | none =>
    rw [atKey_of_not_has ((h2 k hk).1 hf)] at e
    injection e with e
    rw [e]
    rfl
  | some u =>
    obtain ⟨h3, h4⟩ := (h2 k hk).2 u hf
    rw [h4] at e
    injection e with e
    rw [e]
    rfl

set_option maxRecDepth 100000 in
theorem wpList_lookG {κ : Type} {kt : TypeId} {K : KeyG κ kt} {w : World} {ops : Array Oper} {rest : List Oper} {o : Oper} {a : Act} {Q : Exit → Act → World → Prop} (hg : o.guard = none) (m x : Operand) (t e : TypeId) (hop : o.op = Op.lookup t m x true) (ht : Try.prog.underlying t = some (.map kt e)) {z : Value} (hz : (zeroValue e).run Try.prog w = .ok z w)
    {b n : Nat} {f : κ → Option Value} (h : MapIs K w b n f) (k : κ) (hk : K.ok k) (hm : a.eval m = .map (some b)) (hx : a.eval x = K.v k)
    (hK : wpList Try.prog ops Q rest (a.put o.dst (lookAns z (f k))) w) : wpList Try.prog ops Q (o :: rest) a w := by
  refine wpList_plain hg fun K' hK' => ?_
  unfold Oper.wp
  simp [execOp, hop, hm, hx, h.look ht hz hk, Result.andThen]
  exact hK' _ _ hK

set_option maxRecDepth 100000 in
theorem wpList_lookG1 {κ : Type} {kt : TypeId} {K : KeyG κ kt} {w : World} {ops : Array Oper} {rest : List Oper} {o : Oper} {a : Act} {Q : Exit → Act → World → Prop} (hg : o.guard = none) (m x : Operand) (t e : TypeId) (hop : o.op = Op.lookup t m x false) (ht : Try.prog.underlying t = some (.map kt e)) {z : Value} (hz : (zeroValue e).run Try.prog w = .ok z w)
    {b n : Nat} {f : κ → Option Value} (h : MapIs K w b n f) (k : κ) (hk : K.ok k) (hm : a.eval m = .map (some b)) (hx : a.eval x = K.v k)
    (hK : wpList Try.prog ops Q rest (a.put o.dst ((f k).getD z)) w) : wpList Try.prog ops Q (o :: rest) a w := by
  refine wpList_plain hg fun K' hK' => ?_
  unfold Oper.wp
  simp [execOp, hop, hm, hx, h.look1 ht hz hk, Result.andThen]
  exact hK' _ _ hK

theorem MapIs.mono {κ : Type} {kt : TypeId} {K : KeyG κ kt} {w : World} {b n n' : Nat} {f : κ → Option Value} (h : MapIs K w b n f) (hn : n ≤ n') : MapIs K w b n' f := by
  obtain ⟨E, h3, h4⟩ := h
  exact ⟨E, h3.mono hn, h4⟩

set_option maxRecDepth 100000 in
/-- A store: the map then holds whatever is v at the key and as it was elsewhere. -/
theorem wpList_putG {κ : Type} {kt : TypeId} {K : KeyG κ kt} {w : World} {ops : Array Oper} {rest : List Oper} {o : Oper} {a : Act} {Q : Exit → Act → World → Prop} (hg : o.guard = none) (m x u : Operand) (t e : TypeId) (hop : o.op = Op.mapUpdate t m x u) (ht : Try.prog.underlying t = some (.map kt e))
    {b n : Nat} {f : κ → Option Value} (h : MapIs K w b n f) (hn : n < maxLen) (k : κ) (hk : K.ok k) (v : Value) (hm : a.eval m = .map (some b)) (hx : a.eval x = K.v k) (hu : a.eval u = v)
    (hK : ∀ w', (∀ g : κ → Option Value, g k = some v → (∀ j, j ≠ k → g j = f j) → MapIs K w' b (n + 1) g) → w.mapTurned w' b → wpList Try.prog ops Q rest (a.put o.dst undef) w') : wpList Try.prog ops Q (o :: rest) a w := by
  obtain ⟨D, h1, h2⟩ := h
  refine wpList_mapUpdate_in w hg m x u _ hop _ _ K.law ht asItself b n D hm h1 hn _ v (K.l k) hx hu (K.key k hk) (.held v) [] rfl fun w' h3 h4 => hK w' (fun g g1 g2 => ⟨_, h3, fun j hj => ?_⟩) h4
  by_cases e : j = k
  · subst e
    refine ⟨fun h => (by rw [g1] at h; cases h), fun v' h => ?_⟩
    · rw [g1] at h
      have : v = v' := by simpa using h
      subst this
      exact ⟨has_put_same h1.isMap (K.lit hj) _, fun z => atKey_put_same h1.isMap (K.lit hj) _ _⟩
  · have hne : K.l j ≠ K.l k := fun e' => e (K.linj hj hk e')
    rw [g2 j e]
    exact ⟨fun h => by rw [has_put_other hne]; exact (h2 j hj).1 h, fun v' h => by
      rw [has_put_other hne]
      exact ⟨((h2 j hj).2 v' h).1, fun z => by rw [atKey_put_other hne]; exact ((h2 j hj).2 v' h).2 z⟩⟩

set_option maxRecDepth 100000 in
/-- A key struck out. -/
theorem wpList_delG {κ : Type} {kt : TypeId} {K : KeyG κ kt} {w : World} {ops : Array Oper} {rest : List Oper} {o : Oper} {a : Act} {Q : Exit → Act → World → Prop} (hg : o.guard = none) (m x : Operand) (t e : TypeId) (hop : o.op = Op.call { callee := Callee.builtin Builtin.delete, args := #[m, x], argTypes := #[t, kt] }) (ht : Try.prog.underlying t = some (.map kt e))
    {b n : Nat} {f : κ → Option Value} (h : MapIs K w b n f) (k : κ) (hk : K.ok k) (hm : a.eval m = .map (some b)) (hx : a.eval x = K.v k)
    (hK : ∀ w', (∀ g : κ → Option Value, g k = none → (∀ j, j ≠ k → g j = f j) → MapIs K w' b n g) → w.mapTurned w' b → wpList Try.prog ops Q rest (a.put o.dst (.tuple #[])) w') : wpList Try.prog ops Q (o :: rest) a w := by
  obtain ⟨D, h1, h2⟩ := h
  refine wpList_delete_own w hg m x t kt hop e K.law ht asItself b n D hm h1 _ (K.l k) hx (K.key k hk) fun w' h3 h4 => hK w' (fun g g1 g2 => ⟨_, h3, fun j hj => ?_⟩) h4
  by_cases e : j = k
  · subst e
    exact ⟨fun _ => has_del_same, fun v' h => (by rw [g1] at h; cases h)⟩
  · have hne : K.l j ≠ K.l k := fun e' => e (K.linj hj hk e')
    rw [g2 j e]
    exact ⟨fun h => by rw [has_del_other hne]; exact (h2 j hj).1 h, fun v' h => by
      rw [has_del_other hne]
      exact ⟨((h2 j hj).2 v' h).1, fun z => by rw [atKey_del_other hne]; exact ((h2 j hj).2 v' h).2 z⟩⟩

end Go.Proofs.Ytpejdhbajejmoaa

/- The bounds of numbers, of dependencies and of writes. -/
namespace Go.Proofs.Ytpejdhbajejmoaa
open Go.ChangeShapes Go.WideShapes Go.ChangeAt Go.RowKit Go.Joins

/-- A number that an int can be. -/
def R64 (n : Int) : Prop := -9223372036854775808 ≤ n ∧ n ≤ 9223372036854775807

theorem r64_wf {n : Int} (h : R64 n) : (Lit.int .i64 n).wf = true := by
  simp only [Lit.wf, Bool.and_eq_true, decide_eq_true_eq]
  exact h

theorem wf_r64 {n : Int} (h : (Lit.int .i64 n).wf = true) : R64 n := by
  simp only [Lit.wf, Bool.and_eq_true, decide_eq_true_eq] at h
  exact h

def DpR (d : Dp) : Prop := R64 d.k ∧ R64 d.c ∧ R64 d.s ∧ R64 d.q

def WrR (x : Wr) : Prop := R64 x.k ∧ R64 x.c ∧ R64 x.s ∧ R64 x.q ∧ R64 x.v ∧ ∀ j, j < x.xs.length → DpR (x.xs.getD j dz)

def WsR (ws : List Wr) : Prop := ∀ j, j < ws.length → WrR (ws.getD j wz)

end Go.Proofs.Ytpejdhbajejmoaa

/- Maps with struct keys: an entry read and stored ('m[k] = append(m[k], ..)'). -/
namespace Go.Proofs.Ytpejdhbajejmoaa
open Go.ChangeShapes Go.WideShapes Go.ChangeAt Go.RowKit Go.Joins Go.Maps
open Go.ChangeMaps (setBlock heap_setBlock_same heap_setBlock_other)
open Go.WideElems (rg rg_of rd_mk rd_key rd_val)

set_option maxRecDepth 100000 in
/-- The entry that mapEntry finds or makes, and what a store by its stamp then does. -/
theorem MapIs.entry {κ : Type} {kt : TypeId} {K : KeyG κ kt} (KL : WideMaps.KeyLaw Try.prog kt) {w : World} {b n : Nat} {f : κ → Option Value} (h : MapIs K w b n f) (hn : n < maxLen) {t e : TypeId} (ht : Try.prog.underlying t = some (.map kt e)) {z : Value} (hz : ∀ u : World, (zeroValue e).run Try.prog u = .ok z u) {k : κ} (hk : K.ok k) :
    ∃ (st : Nat) (w1 : World), (Instr.mapEntry t (.map (some b)) (K.v k)).run Try.prog w = .ok (.tuple #[(f k).getD z, goInt st]) w1 ∧ w.grownBy w1 (some b) ∧
      ∀ (w2 : World) (val : Value), w2.heap[b]? = w1.heap[b]? → ∃ w3, (Instr.entryStore t (.map (some b)) (goInt st) val).run Try.prog w2 = .ok () w3 ∧ w2.grownBy w3 (some b) ∧
        ∀ g : κ → Option Value, g k = some val → (∀ j, j ≠ k → g j = f j) → MapIs K w3 b (n + 1) g := by
  have hl := h.look1 ht (hz w) hk
  obtain ⟨D, hD, h2⟩ := h
  obtain ⟨es, clock, hb, F, hs, rfl⟩ := hD
  obtain ⟨v0, st, es1, c1, hrun, hdis, hst⟩ := WideElems.entry_then_store KL ht hz hb F (K.key k hk)
  have hblt : b < w.heap.size := (Array.getElem?_eq_some_iff.1 hb).1
  have hv0 : v0 = (f k).getD z := by
    have hat := atKey_sorted (es.toList.map (rg Try.prog kt asItself)) (fit_rising K.law F) (K.l k) (K.lit hk)
    rcases hdis with ⟨e0, m1, m2, rfl⟩ | ⟨m1, rfl⟩
    · have hr : rg Try.prog kt asItself e0 = (K.l k, .held e0.val) := by
        have hd : WideElems.rd Try.prog kt asItself ⟨e0.key, e0.val, e0.born⟩ = some (K.l k, .held e0.val) := rd_mk (yv := (.held e0.val, [])) (by rw [m2]; exact K.key k hk) rfl
        exact rg_of hd
      have h3 := hat.2 _ (List.mem_map.2 ⟨e0, m1, hr⟩) rfl
      cases hf : f k with
      | none =>
        have h4 := atKey_of_not_has ((h2 k hk).1 hf) (z := (.map [] : DataW Value))
        rw [h3] at h4
        cases h4
      | some u =>
        have h4 := ((h2 k hk).2 u hf).2 (.map [])
        rw [h3] at h4
        injection h4
    · cases hf : f k with
      | none => rfl
      | some u =>
        have h4 := ((h2 k hk).2 u hf).2 (.map [])
        rw [hat.1 fun p hp e1 => ?_] at h4
        · cases h4
        · obtain ⟨x, hx, rfl⟩ := List.mem_map.1 hp
          obtain ⟨y, hy⟩ := F.reads x hx
          have m2 := rd_key hy
          rw [rg_of hy] at e1
          rw [e1] at m2
          exact m1 x hx (K.law.inj m2 (K.key k hk))
  refine ⟨st, setBlock w b (.map es1 c1), by rw [← hv0]; exact hrun, ⟨rfl, rfl, rfl, by simp [setBlock], fun i _ hi => heap_setBlock_other hb _ (fun e => hi (by rw [e]))⟩, fun w2 val hw2 => ?_⟩
  have hb1 : (setBlock w b (.map es1 c1)).heap[b]? = some (.map es1 c1) := heap_setBlock_same hb _
  rw [hb1] at hw2
  obtain ⟨es', c', hrun2, hup⟩ := hst w2 val hw2
  refine ⟨_, hrun2, ⟨rfl, rfl, rfl, by simp [setBlock], fun i _ hi => heap_setBlock_other hw2 _ (fun e => hi (by rw [e]))⟩, fun g g1 g2 => ?_⟩
  have hDD : w.ownsMap Try.prog kt asItself b n (.map ((es.toList.map (WideElems.rg Try.prog kt asItself)).foldr DataW.insert [])) := ⟨es, clock, hb, F, hs, rfl⟩
  obtain ⟨w', hrun3, ⟨es3, c3, hb3, F3, hs3, hD3⟩, -⟩ := hDD.store K.law ht hn (K.key k hk) (hv := (rfl : asItself val = some (.held val, [])))
  rw [hup] at hrun3
  have e3 : setBlock w b (.map es' c') = w' := by injection hrun3
  subst e3
  rw [heap_setBlock_same hb _] at hb3
  injection hb3 with hb3
  injection hb3 with e1 e2
  subst e1 e2
  refine ⟨_, ⟨es', c', heap_setBlock_same hw2 _, F3, hs3, rfl⟩, fun j hj => ?_⟩
  rw [← hD3]
  have hm := hDD.isMap
  by_cases e : j = k
  · subst e
    refine ⟨fun h => (by rw [g1] at h; cases h), fun v' h => ?_⟩
    · rw [g1] at h
      have : val = v' := by simpa using h
      subst this
      exact ⟨has_put_same hm (K.lit hj) _, fun z => atKey_put_same hm (K.lit hj) _ _⟩
  · have hne : K.l j ≠ K.l k := fun e' => e (K.linj hj hk e')
    rw [g2 j e]
    exact ⟨fun h => by rw [has_put_other hne]; exact (h2 j hj).1 h, fun v' h => by
      rw [has_put_other hne]
      exact ⟨((h2 j hj).2 v' h).1, fun z => by rw [atKey_put_other hne]; exact ((h2 j hj).2 v' h).2 z⟩⟩

end Go.Proofs.Ytpejdhbajejmoaa

/- The keys of a map: a turn (a site and a tick). -/
namespace Go.Proofs.Ytpejdhbajejmoaa
open Go.ChangeShapes Go.WideShapes Go.ChangeAt Go.RowKit Go.Joins Go.Maps

structure TK where
  s : Int
  k : Int

abbrev tvV (x : TK) : Value := .agg #[.int .i64 x.s, .int .i64 x.k]

def tvL (x : TK) : Lit := .string (keyBytes [.int .i64 x.s, .int .i64 x.k])

set_option maxRecDepth 100000 in
theorem tv_row : (63 : TypeId) < Try.prog.types.size := of_decide_eq_true (by kernel_rfl)

set_option maxRecDepth 100000 in
theorem tv_cells : Try.prog.cellsOf 63 = 2 := by kernel_rfl

set_option maxRecDepth 100000 in
theorem int_cellsT : Try.prog.cellsOf 3 = 1 := by kernel_rfl

set_option maxRecDepth 100000 in
theorem tv_wide : (match Try.prog.underlying 63 with | some (.array _ _) | some (.struct _) => true | _ => false) = true := by rw [Try.underlying63]

set_option maxRecDepth 100000 in
theorem tv_klaw : WideMaps.KeyLaw Try.prog 63 := (deep_law_laid laidOut (m := 2) (by omega) tv_row (by kernel_rfl) tv_wide)

theorem tv_law : Keyed Try.prog 63 := Keyed.of_law tv_klaw

set_option maxRecDepth 100000 in
theorem tv_type : Try.prog.keyType 63 = true := by kernel_rfl

set_option maxRecDepth 100000 in
theorem tv_key (x : TK) (h : R64 x.s ∧ R64 x.k) : keyOf Try.prog 63 (tvV x) = some (tvL x) := by
  have hf : (tvV x).formed Try.prog 63 = true := by simp [Value.formed, Try.underlying63, tv_cells]
  obtain ⟨m, hm⟩ : ∃ m, Try.prog.types.size = m + 1 := ⟨Try.prog.types.size - 1, (Nat.sub_add_cancel (Nat.lt_of_le_of_lt (Nat.zero_le _) tv_row)).symm⟩
  unfold keyOf
  rw [Try.underlying63]
  simp only [tv_type, hf, Bool.and_self, if_true]
  rw [hm]
  simp [Program.keyLits, Try.underlying63, Try.underlying3, tv_cells, int_cellsT, Value.cells, r64_wf h.1, r64_wf h.2, tvL, List.range]

def keyT : KeyG TK 63 where
  v := fun x => tvV x
  l := tvL
  ok := fun x => R64 x.s ∧ R64 x.k
  law := tv_law
  key := tv_key
  inj := fun x y h => by
    cases x
    cases y
    simp at h
    simp [h]

theorem tv_ne {d d' : TK} : d = d' ∨ d ≠ d' := by
  obtain ⟨a, b⟩ := d
  obtain ⟨a', b'⟩ := d'
  by_cases h : a = a' ∧ b = b'
  · left
    rw [h.1, h.2]
  · right
    intro e
    injection e with e1 e2
    exact h ⟨e1, e2⟩

def updT {α : Type} (f : TK → α) (d : TK) (u : α) : TK → α := fun d' => if d'.s = d.s ∧ d'.k = d.k then u else f d'

theorem updT_at {α : Type} (f : TK → α) (d : TK) (u : α) : updT f d u d = u := if_pos ⟨rfl, rfl⟩

theorem updT_off {α : Type} (f : TK → α) (d : TK) (u : α) {d' : TK} (h : d' ≠ d) : updT f d u d' = f d' := if_neg fun e => h (by
  cases d
  cases d'
  simp only at e
  rw [e.1, e.2])

def rowT (V : TK → Option Value) (d : TK) : Value := (V d).getD (.slice none 0 0)

/-- Block b is a map from turns to rows of numbers, each row in a block of its own. -/
structure NumsM (w : World) (b n base : Nat) (V : TK → Option Value) (E : TK → List Int) : Prop where
  map : MapIs keyT w b n V
  nil : ∀ d, V d = none → E d = []
  row : ∀ d v, V d = some v → RowI w base v (E d)
  pos : ∀ d v, V d = some v → ∃ g, v.ownBlock = some g
  off : ∀ d v, V d = some v → v.ownBlock ≠ some b
  apart : ∀ d d' v v', V d = some v → V d' = some v' → d ≠ d' → v.ownBlock ≠ v'.ownBlock

theorem RowI.keepI {w w' : World} {base : Nat} {v : Value} {zs : List Int} (h : RowI w base v zs) (hb : ∀ g, v.ownBlock = some g → w'.heap[g]? = w.heap[g]?) : RowI w' base v zs := by
  refine ⟨h.1, ?_⟩
  rcases h.2 with h1 | ⟨g, cap, cur, h1, h2, h3, h4⟩
  · exact .inl h1
  · exact .inr ⟨g, cap, cur, h1, h2, (hb g (by rw [h1]; rfl)).trans h3, h4⟩

theorem NumsM.below {w w' : World} {b n base : Nat} {V : TK → Option Value} {E : TK → List Int} (h : NumsM w b n base V E) (hb : Below w.heap.size w w') : NumsM w' b n base V E :=
  ⟨h.map.below hb, h.nil, fun d v hv => (h.row d v hv).keepI fun g hg => hb.block g (World.ownsRow.lt (h.row d v hv) g hg).2, h.pos, h.off, h.apart⟩

theorem numsM_made (w : World) (base : Nat) : NumsM (w.alloc (.map #[] 0)) w.heap.size 0 base (fun _ => none) (fun _ => []) where
  map := mapIs_made keyT w
  nil := fun _ _ => rfl
  row := fun _ _ h => by cases h
  pos := fun _ _ h => by cases h
  off := fun _ _ h => by cases h
  apart := fun _ _ _ _ h => by cases h

theorem NumsM.theRow {w : World} {b n base : Nat} {V : TK → Option Value} {E : TK → List Int} (h : NumsM w b n base V E) (d : TK) : RowI w base (rowT V d) (E d) := by
  unfold rowT
  cases hv : V d with
  | none =>
    rw [h.nil d hv]
    exact World.ownsRow_nil w base _ _
  | some v => exact h.row d v hv

theorem rowT_own {V : TK → Option Value} {d : TK} {g : Nat} (hg : (rowT V d).ownBlock = some g) : ∃ v, V d = some v ∧ v.ownBlock = some g := by
  unfold rowT at hg
  cases hv : V d with
  | none => rw [hv] at hg; simp [Value.ownBlock] at hg
  | some v => rw [hv] at hg; exact ⟨v, rfl, hg⟩

theorem NumsM.rowOff {w : World} {b n base : Nat} {V : TK → Option Value} {E : TK → List Int} (h : NumsM w b n base V E) (d : TK) : (rowT V d).ownBlock ≠ some b := fun e => by
  obtain ⟨v, h1, h2⟩ := rowT_own e
  exact h.off d v h1 h2

/-- One row turned: the entry found (w1), the row grown (w4), the entry stored (w5). -/
theorem NumsM.put {w w1 w4 w5 : World} {b n base g' cap' : Nat} {V : TK → Option Value} {E : TK → List Int} (h : NumsM w b n base V E) {d0 : TK} {zs : List Int} (h1 : w.grownBy w1 (some b))
    (hrow : RowI w4 base (.slice (some ⟨g', 0, none⟩) zs.length cap') zs) (hg : w1.grownBy w4 (rowT V d0).ownBlock) (hnew : (rowT V d0).ownBlock = some g' ∨ g' = w1.heap.size) (hmap : ∀ g : TK → Option Value, g d0 = some (.slice (some ⟨g', 0, none⟩) zs.length cap') → (∀ j, j ≠ d0 → g j = V j) → MapIs keyT w5 b (n + 1) g) (ht : w4.grownBy w5 (some b)) :
    NumsM w5 b (n + 1) base (updT V d0 (some (.slice (some ⟨g', 0, none⟩) zs.length cap'))) (updT E d0 zs) := by
  have hbl : b < w.heap.size := h.map.lt
  have hs1 := h1.size
  have hgb : g' ≠ b := fun e => by
    rcases hnew with h2 | h2
    · exact h.rowOff d0 (by rw [h2, e])
    · omega
  have hkeep : ∀ d v, V d = some v → d ≠ d0 → ∀ g, v.ownBlock = some g → w5.heap[g]? = w.heap[g]? := fun d v hv hne g hgv => by
    have hlt : g < w.heap.size := (World.ownsRow.lt (h.row d v hv) g hgv).2
    have q1 : some g ≠ (rowT V d0).ownBlock := fun e => by
      obtain ⟨u, u1, u2⟩ := rowT_own e.symm
      exact h.apart d d0 v u hv u1 hne (by rw [hgv, u2])
    have q2 : some g ≠ some b := fun e => h.off d v hv (by rw [hgv]; exact e)
    exact (ht.block g (Nat.lt_of_lt_of_le (Nat.lt_of_lt_of_le hlt hs1) hg.size) q2).trans ((hg.block g (Nat.lt_of_lt_of_le hlt hs1) q1).trans (h1.block g hlt q2))
  have hrow5 : RowI w5 base (.slice (some ⟨g', 0, none⟩) zs.length cap') zs := hrow.keepI fun g hgv => by
    have e5 : g' = g := by simpa [Value.ownBlock] using hgv
    exact ht.block g (World.ownsRow.lt hrow g hgv).2 fun e => hgb (by rw [e5]; injection e)
  have hap : ∀ d v, V d = some v → d ≠ d0 → v.ownBlock ≠ some g' := fun d v hv hne e => by
    rcases hnew with h2 | h2
    · obtain ⟨u, u1, u2⟩ := rowT_own h2
      exact h.apart d d0 v u hv u1 hne (by rw [e, u2])
    · have := (World.ownsRow.lt (h.row d v hv) g' e).2
      omega
  refine ⟨hmap _ (updT_at _ _ _) fun j hj => updT_off _ _ _ hj, ?_, ?_, ?_, ?_, ?_⟩
  · intro d hv
    rcases tv_ne (d := d) (d' := d0) with rfl | hne
    · rw [updT_at] at hv
      cases hv
    · rw [updT_off _ _ _ hne] at hv ⊢
      exact h.nil d hv
  · intro d v hv
    rcases tv_ne (d := d) (d' := d0) with rfl | hne
    · rw [updT_at] at hv ⊢
      injection hv with hv
      rw [← hv]
      exact hrow5
    · rw [updT_off _ _ _ hne] at hv ⊢
      exact (h.row d v hv).keepI (hkeep d v hv hne)
  · intro d v hv
    rcases tv_ne (d := d) (d' := d0) with rfl | hne
    · rw [updT_at] at hv
      injection hv with hv
      rw [← hv]
      exact ⟨g', rfl⟩
    · rw [updT_off _ _ _ hne] at hv
      exact h.pos d v hv
  · intro d v hv
    rcases tv_ne (d := d) (d' := d0) with rfl | hne
    · rw [updT_at] at hv
      injection hv with hv
      rw [← hv]
      simpa [Value.ownBlock] using hgb
    · rw [updT_off _ _ _ hne] at hv
      exact h.off d v hv
  · intro d d' v u hv hu hne
    rcases tv_ne (d := d) (d' := d0) with rfl | q1
    · rw [updT_at] at hv
      injection hv with hv
      rw [updT_off _ _ _ hne.symm] at hu
      rw [← hv]
      exact fun e => hap d' u hu hne.symm e.symm
    · rw [updT_off _ _ _ q1] at hv
      rcases tv_ne (d := d') (d' := d0) with rfl | q2
      · rw [updT_at] at hu
        injection hu with hu
        rw [← hu]
        exact hap d v hv q1
      · rw [updT_off _ _ _ q2] at hu
        exact h.apart d d' v u hv hu hne

end Go.Proofs.Ytpejdhbajejmoaa

/- InOrder, the program's side: placesByTurn. -/
namespace Go.Proofs.Ytpejdhbajejmoaa
open Go.ChangeShapes Go.WideShapes Go.ChangeAt Go.RowKit Go.Joins
attribute [local go_sem ↓] Go.wp_at_zero Go.wp_at_succ

/-- The turn of a post that may ever come. -/
def turnB (p : Pst) : Option TK := if vecB p.xs && btw p.f 0 3 then some ⟨p.f, p.xs.getD p.f.toNat 0⟩ else none

def isT (t : TK) (p : Pst) : Bool := match turnB p with
  | some u => decide (u.s = t.s) && decide (u.k = t.k)
  | none => false

/-- The places below m of the posts of a turn. -/
def placesE (ps : List Pst) (m : Nat) (t : TK) : List Int := (((List.range m).filter fun (i : Nat) => isT t (ps.getD i pz)).map fun (i : Nat) => (i : Int))

theorem placesE_next (ps : List Pst) (m : Nat) (t : TK) : placesE ps (m + 1) t = if isT t (ps.getD m pz) then placesE ps m t ++ [(m : Int)] else placesE ps m t := by
  unfold placesE
  rw [List.range_succ, List.filter_append, List.map_append]
  cases h : isT t (ps.getD m pz)
  · rw [show [m].filter (fun (i : Nat) => isT t (ps.getD i pz)) = [] by simp only [List.filter, h]]
    simp
  · rw [show [m].filter (fun (i : Nat) => isT t (ps.getD i pz)) = [m] by simp only [List.filter, h]]
    simp

theorem placesE_none {ps : List Pst} {m : Nat} (h : turnB (ps.getD m pz) = none) : placesE ps (m + 1) = placesE ps m := by
  funext t
  have : isT t (ps.getD m pz) = false := by unfold isT; rw [h]
  rw [placesE_next, this]
  rfl

theorem placesE_some {ps : List Pst} {m : Nat} {u : TK} (h : turnB (ps.getD m pz) = some u) : placesE ps (m + 1) = updT (placesE ps m) u (placesE ps m u ++ [(m : Int)]) := by
  funext t
  rw [placesE_next]
  rcases tv_ne (d := t) (d' := u) with rfl | hne
  · have : isT t (ps.getD m pz) = true := by unfold isT; rw [h]; simp
    rw [updT_at, this]
    rfl
  · rw [updT_off _ _ _ hne]
    have : isT t (ps.getD m pz) = false := by
      unfold isT
      rw [h]
      obtain ⟨u1, u2⟩ := u
      obtain ⟨t1, t2⟩ := t
      simp only [Bool.and_eq_false_iff, decide_eq_false_iff_not]
      by_cases e : u1 = t1
      · exact .inr fun e' => hne (by rw [e, e'])
      · exact .inl e
    rw [this]
    rfl

theorem placesE_len (ps : List Pst) (m : Nat) (t : TK) : (placesE ps m t).length ≤ m := by
  unfold placesE
  rw [List.length_map]
  have := List.length_filter_le (fun i => isT t (ps.getD i pz)) (List.range m)
  simpa using this

theorem zero_ints (u : World) : (zeroValue 26).run Try.prog u = .ok (.slice none 0 0) u := by kernel_rfl

theorem turnMap : Try.prog.underlying 41 = some (.map 63 26) := Try.underlying41

theorem NumsM.mono {w : World} {b n n' base : Nat} {V : TK → Option Value} {E : TK → List Int} (h : NumsM w b n base V E) (hn : n ≤ n') : NumsM w b n' base V E := ⟨h.map.mono hn, h.nil, h.row, h.pos, h.off, h.apart⟩

set_option maxRecDepth 100000 in
set_option maxHeartbeats 4000000 in
theorem placesOfTurn_any (a : Option Addr) (len cap : Nat) (ps : List Pst) (w : World) (hl : ps.length = len) (hn : len ≤ 1048576) (hx : ∀ i, i < len → (ps.getD i pz).xs.length ≤ 1048576) (hi : IsPs w a ps) :
    Calls Try.prog 14 #[.slice a len cap] w fun e w' => ∃ b n V, e = .returned (.map (some b)) ∧ NumsM w' b n w.heap.size V (placesE ps len) ∧ w.heap.size ≤ b ∧ Below w.heap.size w w' := by
  have HI : Hid (IsPs w a ps) := hi
  have HL : Hid (ps.length = len) := hl
  have HX : Hid (∀ i, i < len → (ps.getD i pz).xs.length ≤ 1048576) := hx
  have HW0 : Hid (NumsM (w.alloc (.map #[] 0)) w.heap.size 0 w.heap.size (fun _ => none) (placesE ps 0) ∧ Below w.heap.size w (w.alloc (.map #[] 0))) := ⟨numsM_made w _, (Below.refl _ _).alloc (Nat.le_refl _) _⟩
  clear hi hl hx
  have hmm := @run_makeMap Try.prog
  go_enter Try.func14, Try.ntmps14
  go_wp2
  clear hmm
  generalize w.alloc (.map #[] 0) = W0 at *
  go_loopw [12] (fun i wr => ∃ (m : Nat) (V : TK → Option Value), m ≤ len ∧ i = .int .i64 m ∧ Hid (NumsM wr w.heap.size m w.heap.size V (placesE ps m)) ∧ Hid (Below w.heap.size w wr)) (fun i _ => len - (intOf i).toNat)
  case atStart => exact ⟨0, _, Nat.zero_le _, rfl, HW0.out.1, HW0.out.2⟩
  case round =>
    clear HW0
    obtain ⟨m, V, hm, rfl, HM, HB⟩ := hrel
    by_cases hm' : m < len
    · obtain ⟨b, o, ad, cq, rfl, hz, ⟨e0, e1, e2⟩, hmx, hd⟩ := ps_at HI.out HB.out HL.out hm'
      have HD : Hid (IsIs wr ad (ps.getD m pz).xs) := hd
      have i1 : (0 : Int) ≤ (m : Int) := by omega
      have i2 : (m : Int) < (len : Int) := by omega
      have hxl := HX.out m hm'
      have HNO : Hid (turnB (ps.getD m pz) = none → placesE ps (m + 1) = placesE ps m) := placesE_none
      have HYE : Hid (∀ u, turnB (ps.getD m pz) = some u → placesE ps (m + 1) = updT (placesE ps m) u (placesE ps m u ++ [(m : Int)])) := fun u => placesE_some
      clear hd
      generalize ps.getD m pz = x at *
      obtain ⟨xf, xx, xy⟩ := x
      simp only at e0 e1 e2 hxl HD hmx
      have HTU : Hid (turnB ⟨xf, xx, xy⟩ = if vecB xx && btw xf 0 3 then some ⟨xf, xx.getD xf.toNat 0⟩ else none) := Lib.hid rfl
      have HBA : Hid (Below wr.heap.size wr (wr.alloc (.cells #[.int .i64 xf, .slice ad xx.length cq, .int .i64 xy] 33))) := (Below.refl _ _).alloc (Nat.le_refl _) _
      go_wp2_with fail
      refine (ticksOf_any ad xx.length cq xx _ rfl hmx (HD.out.below HBA.out)).mono ?_
      rintro e w2 ⟨⟨x0, x1, x2, x3, rfl, hxx⟩, hb⟩
      have HB2 := Lib.hid (below_step HBA.out HBA.out.size hb)
      have hz2 : wr.heap.size < w2.heap.size := by have := hb.size; simp at this; omega
      have HTC : Hid (w2.heap[wr.heap.size]? = some (.cells #[.int .i64 xf, .slice ad xx.length cq, .int .i64 xy] 33 (0, 0))) := (hb.block _ (by simp)).trans (heap_alloc_new wr _)
      have t0 := cell_of_row w2 wr.heap.size 0 _ _ _ HTC.out
      simp at t0
      have HB12 : Hid (Below wr.heap.size wr w2) := below_step HBA.out HBA.out.size hb
      have HB22 : Hid (Below w.heap.size w w2) := below_step HB.out HB.out.size HB12.out
      clear hb e0 e1 e2
      cases hv : vecB xx
      · have HNO2 := Lib.hid (HNO.out (by rw [HTU.out, hv]; rfl))
        have hb5 : Below wr.heap.size wr w2 := HB12.out
        have HM5 : Hid (NumsM (w2.alloc (.cells #[.int .i64 x0, .int .i64 x1, .int .i64 x2, .int .i64 x3] 44)) w.heap.size (m + 1) w.heap.size V (placesE ps (m + 1))) := by
          rw [HNO2.out]
          exact ((HM.out.below hb5).below ((Below.refl _ _).alloc (Nat.le_refl _) _)).mono (Nat.le_succ _)
        have HB5 : Hid (Below w.heap.size w (w2.alloc (.cells #[.int .i64 x0, .int .i64 x1, .int .i64 x2, .int .i64 x3] 44))) := HB22.out.alloc HB22.out.size _
        clear hb5
        go_wp2
        exact ⟨⟨m + 1, V, by omega, by go_num, HM5, HB5⟩, by simp [intOf]; omega⟩
      · have hxx4 := hxx hv
        have hxl4 : xx.length = 4 := by rw [hxx4]; rfl
        have HBB : Hid (Below wr.heap.size wr (w2.alloc (.cells #[.int .i64 x0, .int .i64 x1, .int .i64 x2, .int .i64 x3] 44))) := HB12.out.alloc HB12.out.size _
        have HTD : Hid ((w2.alloc (.cells #[.int .i64 x0, .int .i64 x1, .int .i64 x2, .int .i64 x3] 44)).heap[wr.heap.size]? = some (.cells #[.int .i64 xf, .slice ad xx.length cq, .int .i64 xy] 33 (0, 0))) := (Below.heap_alloc _ _ _ hz2).trans HTC.out
        have HTX : Hid ((w2.alloc (.cells #[.int .i64 x0, .int .i64 x1, .int .i64 x2, .int .i64 x3] 44)).heap[w2.heap.size]? = some (.cells #[.int .i64 x0, .int .i64 x1, .int .i64 x2, .int .i64 x3] 44 (0, 0))) := heap_alloc_new w2 _
        have HXX := Lib.hid hxx4
        clear hxx hxx4
        go_upto_region 6 with fail
        clear t0
        generalize hTX : w2.heap.size = TX at *
        generalize w2.alloc (.cells #[.int .i64 x0, .int .i64 x1, .int .i64 x2, .int .i64 x3] 44) = w3 at *
        clear hTX HTC HB2 hxl4 HB12 HB22
        have t0 := cell_of_row w3 wr.heap.size 0 _ _ _ HTD.out
        simp at t0
        go_wp2_with fail
        refine (isSite_any xf w3).mono ?_
        rintro e w4 ⟨rfl, hw⟩
        subst w4
        cases hs : btw xf 0 3
        · have HNO2 := Lib.hid (HNO.out (by rw [HTU.out, hv, hs]; rfl))
          have HM5 : Hid (NumsM w3 w.heap.size (m + 1) w.heap.size V (placesE ps (m + 1))) := by
            rw [HNO2.out]
            exact (HM.out.below HBB.out).mono (Nat.le_succ _)
          have HB5 : Hid (Below w.heap.size w w3) := below_step HB.out HB.out.size HBB.out
          go_wp2
          exact ⟨⟨m + 1, V, by omega, by go_num, HM5, HB5⟩, by simp [intOf]; omega⟩
        · obtain ⟨q, hq, rfl⟩ : ∃ q : Nat, q < 4 ∧ xf = (q : Int) := ⟨xf.toNat, by have := btw_site hs; omega, by have := btw_site hs; omega⟩
          have tq : w3.cell? ⟨TX, q, none⟩ = some (.int .i64 (xx.getD q 0)) := by
            rw [cell_of_row w3 TX q _ _ _ HTX.out, HXX.out]
            have hq4 : q = 0 ∨ q = 1 ∨ q = 2 ∨ q = 3 := by omega
            rcases hq4 with rfl | rfl | rfl | rfl <;> simp
          have HU : Hid (turnB ⟨(q : Int), xx, xy⟩ = some ⟨(q : Int), xx.getD q 0⟩) := by
            have h := HTU.out
            rw [hv, hs] at h
            exact Lib.hid (by simpa using h)
          have HTK : Hid (R64 (xx.getD q 0)) := by
            have := vecB_rng hv (k := q) hq
            unfold R64
            exact Lib.hid (by omega)
          have HQR : Hid (R64 (q : Int)) := by
            unfold R64
            exact Lib.hid (by omega)
          generalize xx.getD q 0 = tk at *
          have j1 : (0 : Int) ≤ (q : Int) := by omega
          have j2 : (q : Int) < 4 := by omega
          have zT : wr.heap.size < w3.heap.size := (Array.getElem?_eq_some_iff.1 HTD.out).1
          have zX : TX < w3.heap.size := (Array.getElem?_eq_some_iff.1 HTX.out).1
          go_wp2_with fail
          go_region
          have HMD := Lib.hid ((HM.out.below HBB.out).below (((Below.refl _ _).alloc (Nat.le_refl _) (.cells #[.int .i64 (q : Int), .int .i64 tk] 63)).drew))
          have HBD := Lib.hid (((below_step HB.out HB.out.size HBB.out).alloc (Nat.le_trans HB.out.size HBB.out.size) (.cells #[.int .i64 (q : Int), .int .i64 tk] 63)).drew)
          have HKC : Hid ((w3.alloc (.cells #[.int .i64 (q : Int), .int .i64 tk] 63)).drew.heap[w3.heap.size]? = some (.cells #[.int .i64 (q : Int), .int .i64 tk] 63 (0, 0))) := heap_alloc_new w3 _
          generalize (w3.alloc (.cells #[.int .i64 (q : Int), .int .i64 tk] 63)).drew = w4 at *
          generalize hT8 : w3.heap.size = T8 at *
          clear hT8 t0 tq zT zX HTD HTX HBB
          have k0 := cell_of_row w4 T8 0 _ _ _ HKC.out
          have k1 := cell_of_row w4 T8 1 _ _ _ HKC.out
          simp at k0 k1
          have zT8 : T8 < w4.heap.size := (Array.getElem?_eq_some_iff.1 HKC.out).1
          have hB5 : Below w4.heap.size w4 (w4.alloc (.cells #[.int .i64 (m : Int)] 3)) := (Below.refl _ _).alloc (Nat.le_refl _) _
          have HM5 := Lib.hid (HMD.out.below hB5)
          obtain ⟨st, w6, hme, hg6, hst⟩ := HM5.out.map.entry tv_klaw (by unfold maxLen; omega) turnMap zero_ints (k := ⟨(q : Int), tk⟩) ⟨HQR.out, HTK.out⟩
          rw [show keyT.v ⟨(q : Int), tk⟩ = .agg #[.int .i64 (q : Int), .int .i64 tk] from rfl, show (V ⟨(q : Int), tk⟩).getD (.slice none 0 0) = rowT V ⟨(q : Int), tk⟩ from rfl] at hme
          have HR6 : Hid (RowI w6 w.heap.size (rowT V ⟨(q : Int), tk⟩) (placesE ps m ⟨(q : Int), tk⟩)) := by
            refine (HM5.out.theRow _).keepI fun g hg => hg6.block g (World.ownsRow.lt (HM5.out.theRow _) g hg).2 fun e => HM5.out.rowOff _ (by rw [hg]; exact e)
          have HC6 : Hid (∀ j u, ([intV (m : Int)] : List Value)[j]? = some u → w6.cell? ((⟨w4.heap.size, 0, none⟩ : Addr).add j) = some u) := fun j u hu => by
            have hne : w4.heap.size ≠ w.heap.size := by
              have := HMD.out.map.lt
              omega
            refine (World.cell?_of_block (a := (⟨w4.heap.size, 0, none⟩ : Addr).add j) ?_).trans (oneI_cells w4 3 (m : Int) j u hu)
            rw [add_block]
            exact hg6.block _ (by simp) fun e => hne (by injection e)
          have HPL := Lib.hid (placesE_len ps m ⟨(q : Int), tk⟩)
          have hplm : (placesE ps m ⟨(q : Int), tk⟩).length ≤ m := HPL.out
          have HG6 := Lib.hid hg6
          have HST := Lib.hid hst
          have HBL : Hid (w.heap.size ≤ w6.heap.size) := by
            have := HBD.out.size
            have := hB5.size
            have := hg6.size
            exact Lib.hid (by omega)
          have HZ5 : Hid ((w4.alloc (.cells #[.int .i64 (m : Int)] 3)).heap.size ≤ w6.heap.size) := hg6.size
          clear hg6 hst hB5
          obtain ⟨ii, hii, hxi⟩ := Option.map_eq_some_iff.1 infoInt
          simp only [Prod.mk.injEq] at hxi
          have HII := Lib.hid hii
          have HXI := Lib.hid hxi
          clear hii hxi
          generalize hrv : rowT V ⟨(q : Int), tk⟩ = rv at *
          have HRV := Lib.hid hrv
          clear hrv
          have hbl := HBL.out
          go_wp2_with (at_builtin; refine wpList_append_lies _ (by rfl) _ _ _ (by rfl) w.heap.size 3 ii (.int .i64 0) 1 8 Try.underlying26 HII.out HXI.out.1 HXI.out.2.1 HXI.out.2.2 (by rfl) (by omega) rv (placesE ps m ⟨(q : Int), tk⟩).length ((placesE ps m ⟨(q : Int), tk⟩).map intV) (by rfl) HR6.out ⟨w4.heap.size, 0, none⟩ 1 1 [intV (m : Int)] (by rfl) (by rfl) HC6.out (intV_one [(m : Int)]) (by omega) (by unfold maxLen; omega) (by omega) hbl _ rfl ?_; intro g7 cp7 w7 hown7 hgrow7 hg7 _; refine Hid.out ?_)
          refine Lib.hid ?_
          have hro : rv.ownBlock ≠ some w.heap.size := by
            rw [← HRV.out]
            exact HM5.out.rowOff _
          have hb7 : w7.heap[w.heap.size]? = w6.heap[w.heap.size]? := hgrow7.block _ (Nat.lt_of_lt_of_le HM5.out.map.lt HZ5.out) fun e => hro e.symm
          obtain ⟨w8, hes, hg8, hmap8⟩ := HST.out w7 (.slice (some ⟨g7, 0, none⟩) ((placesE ps m ⟨(q : Int), tk⟩).length + 1) cp7) hb7
          have HB8 : Hid (Below w.heap.size w w8) := by
            have q1 := (HBD.out.alloc HBD.out.size (.cells #[.int .i64 (m : Int)] 3)).grown HG6.out (by have := HBD.out.size; simp; omega) fun j hj => by
              injection hj with hj
              exact Nat.le_of_eq hj
            have q2 := q1.grown hgrow7 q1.size fun j hj => (World.ownsRow.lt HR6.out j hj).1
            exact q2.grown hg8 q2.size fun j hj => by
              injection hj with hj
              exact Nat.le_of_eq hj
          have HM8 : Hid (NumsM w8 w.heap.size (m + 1) w.heap.size (updT V ⟨(q : Int), tk⟩ (some (.slice (some ⟨g7, 0, none⟩) ((placesE ps m ⟨(q : Int), tk⟩).length + 1) cp7))) (placesE ps (m + 1))) := by
            rw [HYE.out _ HU.out]
            have hle : (placesE ps m ⟨(q : Int), tk⟩).length + 1 = (placesE ps m ⟨(q : Int), tk⟩ ++ [(m : Int)]).length := by simp
            rw [hle] at hmap8 ⊢
            refine HM5.out.put HG6.out ?_ (by rw [HRV.out]; exact hgrow7) (by rw [HRV.out]; exact hg7) hmap8 hg8
            unfold RowI
            rw [List.map_append]
            rw [hle] at hown7
            exact hown7
          have hes' : (Instr.entryStore 41 (.map (some w.heap.size)) (.int .i64 (st : Int)) (.slice (some ⟨g7, 0, none⟩) ((placesE ps m ⟨(q : Int), tk⟩).length + 1) cp7)).run Try.prog w7 = .ok () w8 := hes
          clear hes hown7 hgrow7 hg7 hb7 hg8 hmap8 hro hme hbl hplm k0 k1 zT8
          go_wp2
          exact ⟨⟨m + 1, _, by omega, by go_num, HM8, HB8⟩, by simp [intOf]; omega⟩
    · have hmm : m = len := by omega
      subst hmm
      go_wp2
      go_ret
      exact ⟨_, _, V, rfl, HM.out, Nat.le_refl _, HB.out⟩

end Go.Proofs.Ytpejdhbajejmoaa
