import Derived.Test.YtolmlcbgdihcbaaPack8
import Derived.Deep.DeepCutAuto
import Derived.Test.YtolmlcbgdihcbaaPack4
import Derived.Test.YtolmlcbgdihcbaaPack5
import Derived.Test.YtolmlcbgdihcbaaPack7
import Derived.Test.YtolmlcbgdihcbaaPack2
/- InOrder, the specification's side: the contract of spec.InOrder. -/
namespace Go.Proofs.Ytolmlcbgdihcbaa
open Go.ChangeShapes Go.WideShapes Go.ChangeAt Go.RowKit Go.Joins
attribute [local go_sem ↓] Go.wp_at_zero Go.wp_at_succ

theorem run_make_z4 (w : World) :
    (Instr.makeSlice 22 (.int .i64 4) (.int .i64 4)).run Try.prog w = .ok (.slice (some ⟨w.heap.size, 0, none⟩) 4 4) (w.alloc (.cells (madeCells #[.int .i64 0] 4) 3)) := by
  obtain ⟨i, hi, hzz⟩ := Option.map_eq_some_iff.1 infoInt
  simp only [Prod.mk.injEq] at hzz
  obtain ⟨hz, hs, hb⟩ := hzz
  have hr := run_make (P := Try.prog) w 22 3 i _ Try.underlying22 hi hz .i64 .i64 4 4 (by omega) (Int.le_refl _) (by rw [hb]; omega) (by omega)
  simp only [hs] at hr
  exact hr

/-- The worlds ahead of the first round. -/
abbrev ordA (w : World) : World := (((w.alloc (.cells #[.slice none 0 0] 27)).alloc (.cells #[] 42)).alloc (.cells (madeCells #[.int .i64 0] 4) 3)).alloc (.cells #[.slice (some ⟨w.heap.size + 2, 0, none⟩) 4 4] 27)

theorem ordA_size (w : World) : (ordA w).heap.size = w.heap.size + 4 := by simp [ordA]

theorem ordA_low (w : World) : Below w.heap.size w (ordA w) :=
  ((((Below.refl _ _).alloc (Nat.le_refl _) _).alloc (by simp) _).alloc (by simp; omega) _).alloc (by simp; omega) _

theorem ordW_start (w : World) (ps : List Pst) : OrdW w ((ordA w).alloc (.cells (madeCells #[.bool false] ps.length) 4)) ps 0 (.slice (some ⟨w.heap.size + 1, 0, none⟩) 0 0) [] (w.heap.size + 2) 4 := by
  have hs := ordA_size w
  have hbl : Below (ordA w).heap.size (ordA w) ((ordA w).alloc (.cells (madeCells #[.bool false] ps.length) 4)) := (Below.refl _ _).alloc (Nat.le_refl _) _
  obtain ⟨q0, q1, q2, q3⟩ := heap_four w (.cells #[.slice none 0 0] 27) (.cells #[] 42) (.cells (madeCells #[.int .i64 0] 4) 3) (.cells #[.slice (some ⟨w.heap.size + 2, 0, none⟩) 4 4] 27)
  refine ⟨⟨(ordA_low w).alloc (by rw [hs]; omega) _, (hbl.block _ (by omega)).trans q0, (hbl.block _ (by omega)).trans q3, ?_, ?_, rfl, fun g hg => ?_, by simp, ?_, by omega, by omega, by omega, ?_, by simp⟩, goC_zero ps⟩
  · have := madeBools (ordA w) ps.length
    rw [hs] at this
    simpa [runC] using this
  · have h1 := rowP_start (w.alloc (.cells #[.slice none 0 0] 27)) (w.heap.size + 1) (by simp)
    have h2 : (w.alloc (.cells #[.slice none 0 0] 27)).heap.size = w.heap.size + 1 := by simp
    rw [h2] at h1
    refine h1.below ?_
    exact (((Below.refl _ _).alloc (Nat.le_refl _) _).alloc (by simp) _).alloc (by simp) _
  · simp only [Value.ownBlock, Option.some.injEq] at hg
    omega
  · refine NumsAt.of_block (w := ordA w) ⟨by rw [hs]; omega, fun i hi => ?_, fun o => ?_⟩ (hbl.block _ (by omega)) (by simp)
    · have hi4 : i < 4 := hi
      rw [cell_of_row _ _ i _ _ _ q2]
      have : i = 0 ∨ i = 1 ∨ i = 2 ∨ i = 3 := by omega
      rcases this with rfl | rfl | rfl | rfl <;> simp [madeCells, runC, z4]
    · exact frozen_of_row _ _ o _ _ q2
  · simp [Value.ownBlock]

def lenV : Value → Nat
  | .slice _ n _ => n
  | _ => 0

set_option maxRecDepth 100000 in
set_option maxHeartbeats 8000000 in
theorem specInOrder_any (a : Option Addr) (len cap : Nat) (ps : List Pst) (w : World) (hl : ps.length = len) (hn : len ≤ 1048576) (hx : ∀ i, i < len → (ps.getD i pz).xs.length ≤ 1048576) (hi : IsPs w a ps) :
    Calls Try.prog 28 #[.slice a len cap] w fun e w' => OrdAns w ps e w' := by
  have HI : Hid (IsPs w a ps) := hi
  have HL : Hid (ps.length = len) := hl
  have HX : Hid (∀ i, i < len → (ps.getD i pz).xs.length ≤ 1048576) := hx
  have HW0 : Hid (OrdW w ((ordA w).alloc (.cells (madeCells #[.bool false] len) 4)) ps 0 (.slice (some ⟨w.heap.size + 1, 0, none⟩) 0 0) [] (w.heap.size + 1 + 1) 4) := by
    rw [← hl]
    exact ordW_start w ps
  unfold ordA at HW0
  rw [show w.heap.size + 2 = w.heap.size + 1 + 1 from rfl] at HW0
  clear hi hl hx
  have hm4 := run_make_z4
  have hmb := run_make_bools len hn
  have hres : Try.f28.results = #[.tmp 2, .cell 3 27] := by kernel_rfl
  go_enter Try.func28, Try.ntmps28
  go_wp2
  clear hm4 hmb
  generalize ((((w.alloc (.cells #[.slice none 0 0] 27)).alloc (.cells #[] 42)).alloc (.cells (madeCells #[.int .i64 0] 4) 3)).alloc (.cells #[.slice (some ⟨w.heap.size + 1 + 1, 0, none⟩) 4 4] 27)).alloc (.cells (madeCells #[.bool false] len) 4) = W0 at *
  obtain ⟨B3, hB3⟩ : ∃ B3, w.heap.size + 3 = B3 := ⟨_, rfl⟩
  obtain ⟨B4, hB4⟩ : ∃ B4, w.heap.size + 4 = B4 := ⟨_, rfl⟩
  rw [show w.heap.size + 1 + 1 + 1 = B3 from hB3, show B3 + 1 = B4 by omega]
  have HB3 := Lib.hid hB3
  have HB4 := Lib.hid hB4
  clear hB3 hB4
  go_loopw [4] (fun t4 wr => ∃ (n : Nat) (v4 : Value) (es : List EnP) (gv cpv : Nat), v4 = t4 ∧ Hid (OrdW w wr ps n v4 es gv cpv)) (fun t4 _ => 4000001 - lenV t4)
  case atStart => exact ⟨0, _, [], _, _, rfl, HW0⟩
  case round =>
    clear HW0
    obtain ⟨n, v4, es, gv, cpv, rfl, HW⟩ := hrel
    obtain ⟨a4, cp4, rfl, -⟩ := HW.out.row.form
    have hel := HW.out.len
    obtain ⟨L, hL⟩ : ∃ L, es.length = L := ⟨_, rfl⟩
    have hLn : L = n := by omega
    subst hLn
    rw [hL] at HW ⊢
    have HLE := Lib.hid hL
    clear hL hel
    go_wp2
    go_loopw [7, 8] (fun t7 t8 wr => ∃ (j : Nat) (k : Int), j ≤ len ∧ t7 = .int .i64 k ∧ t8 = .int .i64 ((j : Int) - 1) ∧ Hid (FromC (runC ps L).2 ps j k) ∧ Hid (OrdW w wr ps L (.slice a4 L cp4) es gv cpv)) (fun _ t8 _ => (intOf t8 + 1).toNat)
    case atStart =>
      refine ⟨len, -1, Nat.le_refl _, rfl, by go_num, ?_, HW⟩
      have := fromC_start (runC ps L).2 ps
      rw [HL.out] at this
      exact this
    case round =>
      clear HW
      obtain ⟨j, k, hj, rfl, rfl, HF, HW⟩ := hrel
      cases j with
      | succ i =>
        rw [show (((i + 1 : Nat) : Int) - 1) = (i : Int) by omega]
        obtain ⟨b, o, ad, cq, hA, hz, ⟨e0, e1, e2⟩, hmx, hd⟩ := ps_at HI.out HW.out.low HL.out (show i < len by omega)
        subst hA
        have c4 := HW.out.bc.cell (i := i) (by rw [HL.out]; omega)
        rw [HB4.out] at c4
        have z4' : B4 < wr.heap.size := by rw [← HB4.out]; exact HW.out.lt
        have z3' : B3 < wr.heap.size := by have := HB3.out; have := HB4.out; omega
        have c3 := (cells_one HW.out.bv).1
        rw [HB3.out] at c3
        have i1 : (0 : Int) ≤ (i : Int) := by omega
        have i2 : (i : Int) < (len : Int) := by omega
        have HN := Lib.hid HW.out.nums
        have hR4 := runC_four HW.out.go
        have hxl := HX.out i (by omega)
        have HC : Hid (∀ W, Below wr.heap.size wr W → Calls Try.prog 23 #[vecV (some ⟨gv, 0, none⟩) 4 cpv, postV (ps.getD i pz).f ad (ps.getD i pz).xs.length cq (ps.getD i pz).y] W fun e w' => e = .returned (.bool (comesB (runC ps L).2 (ps.getD i pz))) ∧ Below W.heap.size W w') := fun W hW =>
          specMayCome_any _ _ _ _ _ _ _ _ _ _ W hR4 (by unfold maxLen; omega) (.inr ⟨gv, 0, rfl, (HN.out.below hW).1, fun q hq => by rw [Nat.zero_add]; exact (HN.out.below hW).2.1 q hq⟩) rfl (by unfold maxLen; omega) (hd.below hW)
        have HNO : Hid (decide (i ∈ (runC ps L).1) = true → comesB (runC ps L).2 (ps.getD i pz) = false) := fun h => came_not HW.out.go (by simpa using h)
        have HFY : Hid (comesB (runC ps L).2 (ps.getD i pz) = true → FromC (runC ps L).2 ps i (i : Int)) := fun h => FromC.yes (by rw [HL.out]; omega) h
        have HFN : Hid (comesB (runC ps L).2 (ps.getD i pz) = false → FromC (runC ps L).2 ps i k) := fun h => HF.out.no h
        clear hd hR4 HN HF
        generalize ps.getD i pz = x at *
        obtain ⟨xf, xx, xy⟩ := x
        simp only at e0 e1 e2 hxl HC
        generalize xx.length = xl at *
        generalize comesB (runC ps L).2 ⟨xf, xx, xy⟩ = cb at *
        cases hdc : decide (i ∈ (runC ps L).1)
        · rw [hdc] at c4
          go_wp2_with fail
          have g0 := aft_cell z4' c4
          have g1 := aft_cell z3' c3
          have g2 := aft_cell hz e0
          have g3 := aft_cell hz e1
          have g4 := aft_cell hz e2
          have ne := aft_some wr
          refine wp_region_aft (by kernel_rfl) (by kernel_rfl) ?_
          repeat (first | go_big_quiet_step (first | (go_at_call 23; exact aft_of (HC.out _ (Aft.below _)))))
          refine wpQuiet_nil ?_
          intro wa hqwa
          clear g0 g1 g2 g3 g4 ne
          have HWA := Lib.hid (HW.out.below hqwa)
          clear hqwa c4 c3 e0 e1 e2 HW
          cases cb
          · have HF2 := Lib.hid (HFN.out rfl)
            go_wp2
            exact ⟨⟨i, k, by omega, rfl, by go_num, HF2, HWA⟩, by simp [intOf]⟩
          · have HF2 := Lib.hid (HFY.out rfl)
            go_wp2
            exact ⟨⟨i, _, by omega, rfl, by go_num, HF2, HWA⟩, by simp [intOf]⟩
        · rw [hdc] at c4
          have HF2 := Lib.hid (HFN.out (HNO.out hdc))
          go_wp2_with fail
          have g0 := aft_cell z4' c4
          have ne := aft_some wr
          refine wp_region_aft (by kernel_rfl) (by kernel_rfl) ?_
          repeat (first | go_big_quiet_step (fail))
          refine wpQuiet_nil ?_
          intro wa hqwa
          clear g0 ne
          have HWA := Lib.hid (HW.out.below hqwa)
          clear hqwa c4 c3 e0 e1 e2 HW
          go_wp2
          exact ⟨⟨i, k, by omega, rfl, by go_num, HF2, HWA⟩, by simp [intOf]⟩
      | zero =>
        have z4' : B4 < wr.heap.size := by rw [← HB4.out]; exact HW.out.lt
        have z3' : B3 < wr.heap.size := by have := HB3.out; have := HB4.out; omega
        have z0' : w.heap.size < wr.heap.size := by have := HB3.out; omega
        have c3 := (cells_one HW.out.bv).1
        have f3 := (cells_one HW.out.bv).2.1
        rw [HB3.out] at c3 f3
        have c0 := (cells_one HW.out.b0).1
        have f0 := (cells_one HW.out.b0).2.1
        rcases HF.out.end_ with ⟨rfl, hend⟩ | ⟨rfl, hlt⟩
        · have HE := Lib.hid hend
          clear hend HF
          go_wp2_with fail
          go_region
          have HWD : Hid (OrdW w wr.drew ps L (.slice a4 L cp4) es gv cpv) := HW.out.below ((Below.refl _ _).drew)
          clear HW c3 f3 c0 f0
          rw [show (wr.setCell ⟨w.heap.size, 0, none⟩ (.slice (some ⟨gv, 0, none⟩) 4 cpv)).drew = wr.drew.setCell ⟨w.heap.size, 0, none⟩ (.slice (some ⟨gv, 0, none⟩) 4 cpv) from rfl]
          generalize wr.drew = wd at *
          have c0 := (cells_one HWD.out.b0).1
          go_wp2
          exact bodyPost_ret (v := .tuple #[.slice a4 L cp4, vecV (some ⟨gv, 0, none⟩) 4 cpv]) (by simp only [results, hres]; go_simp) rfl (HWD.out.ends HE.out _)
        · have HE := Lib.hid hlt
          obtain ⟨q, hq⟩ : ∃ q, firstC (runC ps L).2 ps = q := ⟨_, rfl⟩
          have HQ := Lib.hid hq
          rw [hq] at hlt ⊢
          clear hq HF
          rw [HL.out] at hlt
          obtain ⟨b, o, ad, cq, hA, hz, hpw, hmx, hd⟩ := ps_at HI.out (Below.refl _ _) HL.out hlt
          subst hA
          have HPW := Lib.hid hpw
          have HDW : Hid (∀ W, Below w.heap.size w W → IsIs W ad (ps.getD q pz).xs) := fun W hW => hd.below hW
          have HBW := Lib.hid hz
          clear hd hmx hpw
          have c4 := HW.out.bc.cell (i := q) (by rw [HL.out]; omega)
          have f4 := HW.out.bc.frozen
          rw [HB4.out] at c4 f4
          have i1 : (0 : Int) ≤ (q : Int) := by omega
          have i2 : (q : Int) < (len : Int) := by omega
          clear c3 f3 c0 f0
          go_upto_region 13 with fail
          have HXA : Hid (OrdX w (wr.setCell ⟨B4, q, none⟩ (.bool true)) ps.length ((runC ps L).1 ++ [q]) (runC ps L).2 (outC ps L) (.slice a4 L cp4) es gv cpv) := by
            rw [← HB4.out]
            exact HW.out.toOrdX.mark q
          have HGO := Lib.hid HW.out.go
          clear HW c4 f4
          generalize wr.setCell ⟨B4, q, none⟩ (.bool true) = wa at *
          obtain ⟨e0, e1, e2⟩ := HPW.out.of_block (HXA.out.low.block _ HBW.out)
          have hz' : b < wa.heap.size := Nat.lt_of_lt_of_le HBW.out HXA.out.low.size
          have HC := Lib.hid (firstC_comes HE.out)
          rw [HQ.out] at HC
          have HJ := Lib.hid (comes_join HC.out)
          have hxl := HX.out q hlt
          have hON := outC_next ps L
          rw [HQ.out] at hON
          have HON := Lib.hid hON
          have HRN : Hid ((runC ps (L + 1)).2 = joinV (runC ps L).2 (ps.getD q pz).xs ∧ (runC ps (L + 1)).1 = (runC ps L).1 ++ [q]) := by
            show joinV (runC ps L).2 (ps.getD (firstC (runC ps L).2 ps) pz).xs = _ ∧ (runC ps L).1 ++ [firstC (runC ps L).2 ps] = _
            rw [HQ.out]
            exact ⟨rfl, rfl⟩
          clear hON HPW
          have HR4 := Lib.hid (runC_four HGO.out)
          have HX4 : Hid ((ps.getD q pz).xs.length = 4) := by
            obtain ⟨x0, x1, x2, x3, e, -⟩ := vecB_four HJ.out.2.1
            rw [e]
            exact Lib.hid rfl
          generalize ps.getD q pz = x at *
          obtain ⟨xf, xx, xy⟩ := x
          simp only at e0 e1 e2 hxl HC HJ HDW HRN HX4
          have hx4 := HX4.out
          rw [hx4] at e1
          clear hx4 hxl
          have HXB : Hid (OrdX w (wa.alloc (.cells #[.int .i64 xf, .slice ad 4 cq, .int .i64 xy] 42)) ps.length ((runC ps L).1 ++ [q]) (runC ps L).2 (outC ps L) (.slice a4 L cp4) es gv cpv) := HXA.out.below ((Below.refl _ _).alloc (Nat.le_refl _) _)
          have HTB : Hid ((wa.alloc (.cells #[.int .i64 xf, .slice ad 4 cq, .int .i64 xy] 42)).heap[wa.heap.size]? = some (.cells #[.int .i64 xf, .slice ad 4 cq, .int .i64 xy] 42 (0, 0))) := heap_alloc_new wa _
          have HSB : Hid ((wa.alloc (.cells #[.int .i64 xf, .slice ad 4 cq, .int .i64 xy] 42)).heap.size = wa.heap.size + 1) := by show _ = _; simp
          have HT5 : Hid (w.heap.size + 5 ≤ wa.heap.size ∧ (Value.slice a4 L cp4).ownBlock ≠ some wa.heap.size ∧ (∀ e ∈ es, e.g ≠ wa.heap.size) ∧ gv ≠ wa.heap.size) := by
            obtain ⟨o1, o2⟩ := HXA.out.row.old (Nat.le_refl _)
            have := HXA.out.nums.1
            exact ⟨HXA.out.lt, o1, o2, by omega⟩
          go_upto_region 14 with fail
          clear HXA e0 e1 e2 hz' hz z4' z3' z0'
          generalize hTT : wa.heap.size = T at *
          generalize wa.alloc (.cells #[.int .i64 xf, .slice ad 4 cq, .int .i64 xy] 42) = wb at *
          clear hTT
          have t0 := cell_of_row wb T 0 _ _ _ HTB.out
          have t1 := cell_of_row wb T 1 _ _ _ HTB.out
          have t2 := cell_of_row wb T 2 _ _ _ HTB.out
          simp at t0 t1 t2
          have c3 := (cells_one HXB.out.bv).1
          rw [HB3.out] at c3
          have hjl := HJ.out.2.2.2.1
          have HVJ : Hid (Calls Try.prog 14 #[vecV (some ⟨gv, 0, none⟩) 4 cpv, vecV ad 4 cq] wb fun e w' => ∃ g cp, e = .returned (vecV g 4 cp) ∧ OwnI w' wb.heap.size w'.heap.size g (joinV (runC ps L).2 xx) ∧ Below wb.heap.size wb w') := by
            have := specVecJoin_any (some ⟨gv, 0, none⟩) ad 4 4 cpv cq (runC ps L).2 xx wb HR4.out (by unfold maxLen; omega) (.inr ⟨gv, 0, rfl, HXB.out.nums.1, fun i hi => by rw [Nat.zero_add]; exact HXB.out.nums.2.1 i hi⟩) HX4.out (by unfold maxLen; omega) (HDW.out _ HXB.out.low)
            rw [hjl] at this
            exact this
          have HJL := Lib.hid hjl
          clear hjl
          go_wp2_with fail
          refine HVJ.out.mono ?_
          rintro e w1 ⟨gj, cpj, rfl, hown, hb⟩
          obtain ⟨hgj, rfl⟩ : ∃ g, gj = some ⟨g, 0, none⟩ := by
            rcases hown with h | ⟨g, h, -⟩
            · have := HJL.out
              rw [h] at this
              cases this
            · exact ⟨g, h⟩
          have HNJ : Hid (NumsAt w1 hgj (joinV (runC ps L).2 xx) ∧ wb.heap.size ≤ hgj) := by
            rcases hown with h | ⟨g, h, h1, h2, h3, h4, h5⟩
            · have := HJL.out
              rw [h] at this
              cases this
            · injection h with h
              injection h with h
              subst h
              exact ⟨⟨h3, h4, h5⟩, h1⟩
          clear hown
          have HXC : Hid (OrdX w (w1.setCell ⟨B3, 0, none⟩ (.slice (some ⟨hgj, 0, none⟩) 4 cpj)) ps.length ((runC ps L).1 ++ [q]) (joinV (runC ps L).2 xx) (outC ps L) (.slice a4 L cp4) es hgj cpj) := by
            rw [← HB3.out]
            exact HXB.out.turn hb HNJ.out.1 HNJ.out.2 cpj
          have HX1 := Lib.hid (HXB.out.below hb)
          have c3 := (cells_one HX1.out.bv).1
          have f3 := (cells_one HX1.out.bv).2.1
          rw [HB3.out] at c3 f3
          have HSC : Hid ((w1.setCell ⟨B3, 0, none⟩ (.slice (some ⟨hgj, 0, none⟩) 4 cpj)).heap.size = w1.heap.size) := by show _ = _; simp
          have hTB : T < wb.heap.size := (Array.getElem?_eq_some_iff.1 HTB.out).1
          have HTC : Hid ((w1.setCell ⟨B3, 0, none⟩ (.slice (some ⟨hgj, 0, none⟩) 4 cpj)).heap[T]? = some (.cells #[.int .i64 xf, .slice ad 4 cq, .int .i64 xy] 42 (0, 0))) := by
            refine (Below.heap_setCell _ _ _ _ ?_).trans ((hb.block _ hTB).trans HTB.out)
            have := HT5.out.1
            have := HB3.out
            show T ≠ B3
            omega
          have HTJ : Hid (T < hgj ∧ T < w1.heap.size) := by
            have := HNJ.out.2
            have := hb.size
            exact ⟨by omega, by omega⟩
          clear hb HX1 HNJ HVJ HXB HTB HSB t0 t1 t2 hTB
          go_upto_region 15 with fail
          clear c3 f3
          generalize w1.setCell ⟨B3, 0, none⟩ (.slice (some ⟨hgj, 0, none⟩) 4 cpj) = wc at *
          rw [← HSC.out] at HTJ
          clear HSC
          have HXE : Hid (OrdX w (wc.alloc (.cells #[] 3)) ps.length ((runC ps L).1 ++ [q]) (joinV (runC ps L).2 xx) (outC ps L) (.slice a4 L cp4) es hgj cpj) := HXC.out.below ((Below.refl _ _).alloc (Nat.le_refl _) _)
          have HTE : Hid ((wc.alloc (.cells #[] 3)).heap[T]? = some (.cells #[.int .i64 xf, .slice ad 4 cq, .int .i64 xy] 42 (0, 0))) := (Below.heap_alloc _ _ _ HTJ.out.2).trans HTC.out
          have HRE : Hid ((wc.alloc (.cells #[] 3)).ownsRow wc.heap.size 3 1 (.slice (some ⟨wc.heap.size, 0, none⟩) 0 0) 0 []) := World.ownsRow_made wc #[] 0 (Nat.le_refl _) (by simp [maxLen]) (by simp)
          obtain ⟨b2, o2, rfl, h2, hh2⟩ : ∃ b2 o2, ad = some ⟨b2, o2, none⟩ ∧ b2 < (wc.alloc (.cells #[] 3)).heap.size ∧ ∀ i, i < xx.length → (wc.alloc (.cells #[] 3)).cell? ⟨b2, o2 + i, none⟩ = some (.int .i64 (xx.getD i 0)) := by
            rcases HDW.out _ HXE.out.low with h | ⟨b2, o2, h, h3, h4⟩
            · have := HX4.out
              rw [h] at this
              cases this
            · exact ⟨b2, o2, h, h3, h4⟩
          have HNW : Hid (∀ j u, (xx.map intV)[j]? = some u → (wc.alloc (.cells #[] 3)).cell? ((⟨b2, o2, none⟩ : Addr).add j) = some u) := by
            intro j u hu
            have hj : j < xx.length := by have := (List.getElem?_eq_some_iff.1 hu).1; simpa using this
            have e1 : (⟨b2, o2, none⟩ : Addr).add j = ⟨b2, o2 + j, none⟩ := by
              unfold Addr.add
              split
              · rename_i h
                rw [h]
                rfl
              · rfl
            rw [e1, hh2 j hj, ← hu]
            simp [intV, List.getD, hj]
          have HNL : Hid ((xx.map intV).length = 4 * 1) := by rw [List.length_map, HX4.out]; exact Lib.hid rfl
          have t1 := cell_of_row _ T 1 _ _ _ HTE.out
          simp at t1
          have t1' := cell_of_row _ T 1 _ _ _ HTC.out
          simp at t1'
          obtain ⟨ii, hii, hxi⟩ := Option.map_eq_some_iff.1 infoInt
          simp only [Prod.mk.injEq] at hxi
          have HII := Lib.hid hii
          have HXI := Lib.hid hxi
          clear hii hxi h2 hh2
          go_wp2_with (at_builtin; refine wpList_append_lies _ (by rfl) _ _ _ (by rfl) wc.heap.size 3 ii (.int .i64 0) 1 8 Try.underlying22 HII.out HXI.out.1 HXI.out.2.1 HXI.out.2.2 (by rfl) (by omega) (.slice (some ⟨wc.heap.size, 0, none⟩) 0 0) 0 [] (by rfl) HRE.out ⟨b2, o2, none⟩ 4 cq (xx.map intV) (by rfl) HNL.out HNW.out (intV_one xx) (by omega) (by unfold maxLen; omega) (by omega) (by simp) _ rfl ?_; intro g5 cp5 w5 hown5 hgrow5 hg5 hlt5; refine Hid.out ?_)
          refine Lib.hid ?_
          have hb5 : Below wc.heap.size wc w5 := ((Below.refl _ _).alloc (Nat.le_refl _) _).grown hgrow5 (by simp) fun j hj => by
            simp only [Value.ownBlock, Option.some.injEq] at hj
            omega
          have HN5 : Hid (NumsAt w5 g5 xx ∧ wc.heap.size ≤ g5) := by
            refine ⟨⟨hlt5, fun i hi => ?_, fun o => World.ownsRow.frozenAt hown5 o⟩, (World.ownsRow.lt hown5 g5 rfl).1⟩
            have h4 := HX4.out
            rw [World.ownsRow.cellAt hown5 i (by omega)]
            simp [intV, List.getD, hi]
          have HX5 := Lib.hid (HXC.out.below hb5)
          have HT5' : Hid (w5.heap[T]? = some (.cells #[.int .i64 xf, .slice (some ⟨b2, o2, none⟩) 4 cq, .int .i64 xy] 42 (0, 0))) := (hb5.block _ HTJ.out.2).trans HTC.out
          obtain ⟨p1, p2⟩ := HXC.out.row.old HN5.out.2
          have HG5 : Hid ((Value.slice a4 L cp4).ownBlock ≠ some g5 ∧ (∀ e ∈ es, e.g ≠ g5) ∧ g5 ≠ hgj ∧ g5 ≠ T ∧ w.heap.size + 5 ≤ g5) := by
            have h1 := HXC.out.nums.1
            have h2 := HN5.out.2
            have h3 := HXC.out.lt
            have h4 := HTJ.out
            exact ⟨p1, p2, by omega, by omega, by omega⟩
          have HX6 : Hid (OrdX w (w5.setCell ⟨T, 1, none⟩ (.slice (some ⟨g5, 0, none⟩) 4 cp5)) ps.length ((runC ps L).1 ++ [q]) (joinV (runC ps L).2 xx) (outC ps L) (.slice a4 L cp4) es hgj cpj) :=
            HX5.out.setT (p := ⟨T, 1, none⟩) HT5.out.1 HT5.out.2.1 HT5.out.2.2.1 (by have := HTJ.out.1; show hgj ≠ T; omega) _
          have HT6 : Hid ((w5.setCell ⟨T, 1, none⟩ (.slice (some ⟨g5, 0, none⟩) 4 cp5)).heap[T]? = some (.cells #[.int .i64 xf, .slice (some ⟨g5, 0, none⟩) 4 cp5, .int .i64 xy] 42 (0, 0))) := by
            have h := HT5'.out
            have hlt : T < w5.heap.size := (Array.getElem?_eq_some_iff.1 h).1
            simp [World.setCell, Array.getElem?_modify, h, Hid]
          have HN6 : Hid (NumsAt (w5.setCell ⟨T, 1, none⟩ (.slice (some ⟨g5, 0, none⟩) 4 cp5)) g5 xx) := HN5.out.1.of_block (Below.heap_setCell _ _ _ _ HG5.out.2.2.2.1) (by simpa using HN5.out.1.1)
          clear t1 t1'
          have t1 := cell_of_row _ T 1 _ _ _ HT5'.out
          simp at t1
          have f1 := frozen_of_row w5 T 1 _ _ HT5'.out
          clear hb5 HN5 HX5 p1 p2 hown5 hgrow5 hg5 hlt5 HXC HXE HTE HRE HNW HNL HII HXI HTC HT5
          go_upto_region 16 with fail
          clear t1 f1 HT5'
          generalize w5.setCell ⟨T, 1, none⟩ (.slice (some ⟨g5, 0, none⟩) 4 cp5) = w6 at *
          have t0 := cell_of_row _ T 0 _ _ _ HT6.out
          have t1 := cell_of_row _ T 1 _ _ _ HT6.out
          have t2 := cell_of_row _ T 2 _ _ _ HT6.out
          simp at t0 t1 t2
          have HX7 : Hid (OrdX w (w6.alloc (.cells #[.int .i64 xf, .slice (some ⟨g5, 0, none⟩) 4 cp5, .int .i64 xy] 42)) ps.length ((runC ps L).1 ++ [q]) (joinV (runC ps L).2 xx) (outC ps L) (.slice a4 L cp4) es hgj cpj) := HX6.out.below ((Below.refl _ _).alloc (Nat.le_refl _) _)
          have HN7 : Hid (NumsAt (w6.alloc (.cells #[.int .i64 xf, .slice (some ⟨g5, 0, none⟩) 4 cp5, .int .i64 xy] 42)) g5 xx) := HN6.out.below ((Below.refl _ _).alloc (Nat.le_refl _) _)
          have HCL : Hid (∀ j u, (psVals ⟨⟨xf, xx, xy⟩, g5, cp5⟩)[j]? = some u → (w6.alloc (.cells #[.int .i64 xf, .slice (some ⟨g5, 0, none⟩) 4 cp5, .int .i64 xy] 42)).cell? ((⟨w6.heap.size, 0, none⟩ : Addr).add j) = some u) := by
            have h := oneP_cells w6 42 ⟨⟨xf, xx, xy⟩, g5, cp5⟩
            simp only [HX4.out] at h
            exact h
          have HOW : Hid ((w6.alloc (.cells #[.int .i64 xf, .slice (some ⟨g5, 0, none⟩) 4 cp5, .int .i64 xy] 42)).ownsRow (w.heap.size + 1) 42 3 (.slice a4 L cp4) L (es.flatMap psVals)) := by
            have h := HX7.out.row.own
            rw [HLE.out] at h
            exact h
          have hgm := HGO.out.more (by rw [HQ.out, HL.out]; exact hlt)
          have hLb := hgm.bound
          have HGM := Lib.hid hgm
          clear hgm
          obtain ⟨ii, hii, hxi⟩ := Option.map_eq_some_iff.1 infoPst
          simp only [Prod.mk.injEq] at hxi
          have HII := Lib.hid hii
          have HXI := Lib.hid hxi
          have hsz7 : w.heap.size + 1 ≤ w6.heap.size + 1 := by have := HX6.out.lt; omega
          clear hii hxi
          go_wp2_with (at_builtin; refine wpList_append_lies _ (by rfl) _ _ _ (by rfl) (w.heap.size + 1) 42 ii (postV 0 none 0 0 0) 3 40 Try.underlying48 HII.out HXI.out.1 HXI.out.2.1 HXI.out.2.2 (by rfl) (by omega) (.slice a4 L cp4) L (es.flatMap psVals) (by rfl) HOW.out ⟨w6.heap.size, 0, none⟩ 1 1 (psVals ⟨⟨xf, xx, xy⟩, g5, cp5⟩) (by rfl) (by rfl) HCL.out (by simpa using psVals_one [⟨⟨xf, xx, xy⟩, g5, cp5⟩]) (by omega) (by unfold maxLen; omega) (by omega) (by simpa using hsz7) _ rfl ?_; intro g8 cp8 w8 hown8 hgrow8 hg8 _; refine Hid.out ?_)
          refine Lib.hid ?_
          have HX8 : Hid (OrdX w w8 ps.length ((runC ps L).1 ++ [q]) (joinV (runC ps L).2 xx) (outC ps L ++ [⟨xf, xx, xy⟩]) (.slice (some ⟨g8, 0, none⟩) (L + 1) cp8) (es ++ [⟨⟨xf, xx, xy⟩, g5, cp5⟩]) hgj cpj) := by
            have h := HX7.out.more (e := ⟨⟨xf, xx, xy⟩, g5, cp5⟩) (g5 := g8) (cap5 := cp8) (w5 := w8) ⟨HG5.out.2.2.2.2, HG5.out.1, HN7.out⟩ HG5.out.2.1 HG5.out.2.2.1 (by rw [HLE.out]; exact hown8) hgrow8 hg8
            rw [HLE.out] at h
            exact h
          have HW8 : Hid (OrdW w w8 ps (L + 1) (.slice (some ⟨g8, 0, none⟩) (L + 1) cp8) (es ++ [⟨⟨xf, xx, xy⟩, g5, cp5⟩]) hgj cpj) := by
            refine ⟨?_, HGM.out⟩
            rw [HON.out, HRN.out.1, HRN.out.2]
            exact HX8.out
          clear HX8 hown8 hgrow8 hg8 HOW HCL HN7 HX7 HX6 HN6 HT6 t0 t1 t2
          go_wp2
          exact ⟨⟨L + 1, _, _, _, _, rfl, HW8⟩, by simp [lenV]; omega⟩

end Go.Proofs.Ytolmlcbgdihcbaa

/- InOrder, the program's side: the contract of impl.InOrder. -/
namespace Go.Proofs.Ytolmlcbgdihcbaa
open Go.ChangeShapes Go.WideShapes Go.ChangeAt Go.RowKit Go.Joins
attribute [local go_sem ↓] Go.wp_at_zero Go.wp_at_succ

/-- What lies where; W2: the world behind the places, its size: the block of the vector. -/
structure InX (W2 wr : World) (x0 x1 x2 x3 : Int) (out : List Pst) (v4 : Value) (es : List EnP) : Prop where
  low : Below W2.heap.size W2 wr
  seen : wr.heap[W2.heap.size]? = some (.cells #[.int .i64 x0, .int .i64 x1, .int .i64 x2, .int .i64 x3] 59 (0, 0))
  row : RowP wr (W2.heap.size + 1) v4 es
  ours : es.map (·.x) = out

structure InW (W2 wr : World) (ps : List Pst) (n : Nat) (v4 : Value) (es : List EnP) (x0 x1 x2 x3 : Int) : Prop extends InX W2 wr x0 x1 x2 x3 (outC ps n) v4 es where
  go : GoC ps n
  vec : (runC ps n).2 = [x0, x1, x2, x3]

theorem InX.lt {W2 wr : World} {x0 x1 x2 x3 : Int} {out : List Pst} {v4 : Value} {es : List EnP} (h : InX W2 wr x0 x1 x2 x3 out v4 es) : W2.heap.size < wr.heap.size := (Array.getElem?_eq_some_iff.1 h.seen).1

theorem InX.below {W2 wr w' : World} {x0 x1 x2 x3 : Int} {out : List Pst} {v4 : Value} {es : List EnP} (h : InX W2 wr x0 x1 x2 x3 out v4 es) (hb : Below wr.heap.size wr w') : InX W2 w' x0 x1 x2 x3 out v4 es where
  low := below_step h.low h.low.size hb
  seen := (hb.block _ h.lt).trans h.seen
  row := h.row.below hb
  ours := h.ours

theorem InW.below {W2 wr w' : World} {ps : List Pst} {n : Nat} {x0 x1 x2 x3 : Int} {v4 : Value} {es : List EnP} (h : InW W2 wr ps n v4 es x0 x1 x2 x3) (hb : Below wr.heap.size wr w') : InW W2 w' ps n v4 es x0 x1 x2 x3 := ⟨h.toInX.below hb, h.go, h.vec⟩

/-- One post more. -/
theorem InX.more {W2 wr w5 : World} {x0 x1 x2 x3 : Int} {out : List Pst} {v4 : Value} {es : List EnP} {e : EnP} {g5 cap5 : Nat} (h : InX W2 wr x0 x1 x2 x3 out v4 es) (he : W2.heap.size + 1 ≤ e.g ∧ v4.ownBlock ≠ some e.g ∧ NumsAt wr e.g e.x.xs) (hap : ∀ d ∈ es, d.g ≠ e.g)
    (hown : w5.ownsRow (W2.heap.size + 1) 42 3 (.slice (some ⟨g5, 0, none⟩) (es.length + 1) cap5) (es.length + 1) (es.flatMap psVals ++ psVals e)) (hgrow : wr.grownBy w5 v4.ownBlock) (hg : v4.ownBlock = some g5 ∨ g5 = wr.heap.size) : InX W2 w5 x0 x1 x2 x3 (out ++ [e.x]) (.slice (some ⟨g5, 0, none⟩) (es.length + 1) cap5) (es ++ [e]) where
  low := h.low.grown hgrow h.low.size fun j hj => by
    have := (World.ownsRow.lt h.row.own j hj).1
    omega
  seen := (hgrow.block _ h.lt fun e' => by
    have := (World.ownsRow.lt h.row.own _ e'.symm).1
    omega).trans h.seen
  row := h.row.more he hap hown hgrow hg
  ours := by
    rw [List.map_append, h.ours]
    rfl

abbrev put4 (w : World) (b : Nat) (z0 z1 z2 z3 : Int) : World :=
  (((w.setCell ⟨b, 0, none⟩ (.int .i64 z0)).setCell ⟨b, 1, none⟩ (.int .i64 z1)).setCell ⟨b, 2, none⟩ (.int .i64 z2)).setCell ⟨b, 3, none⟩ (.int .i64 z3)

theorem put4_block {w : World} {b t : Nat} {x0 x1 x2 x3 : Int} (h : w.heap[b]? = some (.cells #[.int .i64 x0, .int .i64 x1, .int .i64 x2, .int .i64 x3] t (0, 0))) (z0 z1 z2 z3 : Int) : (put4 w b z0 z1 z2 z3).heap[b]? = some (.cells #[.int .i64 z0, .int .i64 z1, .int .i64 z2, .int .i64 z3] t (0, 0)) := by
  simp [put4, World.setCell, Array.getElem?_modify, h]

/-- The vector is another. -/
theorem InX.turn {W2 wr : World} {x0 x1 x2 x3 : Int} {out : List Pst} {v4 : Value} {es : List EnP} (h : InX W2 wr x0 x1 x2 x3 out v4 es) (z0 z1 z2 z3 : Int) : InX W2 (put4 wr W2.heap.size z0 z1 z2 z3) z0 z1 z2 z3 out v4 es where
  low := (((h.low.setCell (p := ⟨W2.heap.size, 0, none⟩) (Nat.le_refl _) _).setCell (p := ⟨W2.heap.size, 1, none⟩) (Nat.le_refl _) _).setCell (p := ⟨W2.heap.size, 2, none⟩) (Nat.le_refl _) _).setCell (p := ⟨W2.heap.size, 3, none⟩) (Nat.le_refl _) _
  seen := put4_block h.seen z0 z1 z2 z3
  row := (((h.row.set (p := ⟨W2.heap.size, 0, none⟩) (Nat.lt_succ_self _) _).set (p := ⟨W2.heap.size, 1, none⟩) (Nat.lt_succ_self _) _).set (p := ⟨W2.heap.size, 2, none⟩) (Nat.lt_succ_self _) _).set (p := ⟨W2.heap.size, 3, none⟩) (Nat.lt_succ_self _) _
  ours := h.ours

theorem InW.len {W2 wr : World} {ps : List Pst} {n : Nat} {x0 x1 x2 x3 : Int} {v4 : Value} {es : List EnP} (h : InW W2 wr ps n v4 es x0 x1 x2 x3) : es.length = n := by
  have := congrArg List.length h.ours
  rw [List.length_map, outC_len h.go] at this
  exact this

/-- Numbers of one's own. -/
def ListK (B : Nat) (ys : List Int) : Fact := fun v w => ∃ g, v = .slice (some ⟨g, 0, none⟩) 4 4 ∧ B ≤ g ∧ NumsAt w g ys

def PostK (B : Nat) (f y : Int) (ys : List Int) : Fact := fun v w => ∃ g, v = postV f (some ⟨g, 0, none⟩) 4 4 y ∧ B ≤ g ∧ NumsAt w g ys

def OneK (B : Nat) (f y : Int) (ys : List Int) : Fact := fun v w => ∃ h g, v = .slice (some ⟨h, 0, none⟩) 1 1 ∧ h < w.heap.size ∧ (∀ j u, (psVals ⟨⟨f, ys, y⟩, g, 4⟩)[j]? = some u → w.cell? ((⟨h, 0, none⟩ : Addr).add j) = some u) ∧ B ≤ g ∧ NumsAt w g ys

theorem lasts_listK (B : Nat) (ys : List Int) : lasts (fun w w' => Below w.heap.size w w') (ListK B ys) := fun _ _ _ ⟨g, h1, h2, h3⟩ hb => ⟨g, h1, h2, h3.below hb⟩

theorem lasts_postK (B : Nat) (f y : Int) (ys : List Int) : lasts (fun w w' => Below w.heap.size w w') (PostK B f y ys) := fun _ _ _ ⟨g, h1, h2, h3⟩ hb => ⟨g, h1, h2, h3.below hb⟩

theorem lasts_oneK (B : Nat) (f y : Int) (ys : List Int) : lasts (fun w w' => Below w.heap.size w w') (OneK B f y ys) := fun _ w _ ⟨h, g, h1, h2, h3, h4, h5⟩ hb =>
  ⟨h, g, h1, Nat.lt_of_lt_of_le h2 hb.size, fun j u hu => (World.cell?_of_block (a := (⟨h, 0, none⟩ : Addr).add j) (by rw [add_block]; exact hb.block h h2)).trans (h3 j u hu), h4, h5.below hb⟩

theorem nums4 (w : World) (z0 z1 z2 z3 : Int) (t : Nat) : NumsAt (w.alloc (.cells #[.int .i64 z0, .int .i64 z1, .int .i64 z2, .int .i64 z3] t)) w.heap.size [z0, z1, z2, z3] := by
  refine ⟨by simp, fun i hi => ?_, fun o => by go_simp⟩
  match i, hi with
  | 0, _ | 1, _ | 2, _ | 3, _ => go_simp

set_option maxRecDepth 100000 in
set_option maxHeartbeats 4000000 in
theorem implInOrder_any (a : Option Addr) (len cap : Nat) (ps : List Pst) (w : World) (hl : ps.length = len) (hn : len ≤ 1048576) (hx : ∀ i, i < len → (ps.getD i pz).xs.length ≤ 1048576) (hi : IsPs w a ps) :
    Calls Try.prog 30 #[.slice a len cap] w fun e w' => OrdAns w ps e w' := by
  have HI : Hid (IsPs w a ps) := hi
  have HL : Hid (ps.length = len) := hl
  have HX : Hid (∀ i, i < len → (ps.getD i pz).xs.length ≤ 1048576) := hx
  have hres : Try.f30.results = #[.tmp 2, .cell 3 27] := by kernel_rfl
  have HBA : Hid (Below w.heap.size w (w.alloc (.cells #[.slice none 0 0] 27))) := (Below.refl _ _).alloc (Nat.le_refl _) _
  have H0A : Hid ((w.alloc (.cells #[.slice none 0 0] 27)).heap[w.heap.size]? = some (.cells #[.slice none 0 0] 27 (0, 0))) := heap_alloc_new w _
  clear hi hl hx
  go_enter Try.func30, Try.ntmps30
  go_wp2_with fail
  refine (placesOfTurn_any a len cap ps _ HL.out hn HX.out (HI.out.below HBA.out)).mono ?_
  rintro e w1 ⟨mb, nb, V, rfl, hM, hmb, hb⟩
  have HM : Hid (NumsM w1 mb nb (w.alloc (.cells #[.slice none 0 0] 27)).heap.size V (placesE ps len)) := hM
  have HB1 : Hid (Below w.heap.size w w1) := below_step HBA.out HBA.out.size hb
  have H01 : Hid (w1.heap[w.heap.size]? = some (.cells #[.slice none 0 0] 27 (0, 0))) := (hb.block _ (by simp)).trans H0A.out
  have HZ1 : Hid (w.heap.size < w1.heap.size) := (Array.getElem?_eq_some_iff.1 H01.out).1
  clear hM hmb hb HBA H0A
  have HW0 : Hid (InW w1 (w1.alloc (.cells #[.int .i64 0, .int .i64 0, .int .i64 0, .int .i64 0] 59)) ps 0 (.slice none 0 0) [] 0 0 0 0) :=
    ⟨⟨(Below.refl _ _).alloc (Nat.le_refl _) _, heap_alloc_new w1 _, rowP_nil _ _, rfl⟩, goC_zero ps, rfl⟩
  go_wp2
  obtain ⟨S, hS⟩ : ∃ S, w1.heap.size = S := ⟨_, rfl⟩
  have HS := Lib.hid hS
  generalize w1.alloc (.cells #[.int .i64 0, .int .i64 0, .int .i64 0, .int .i64 0] 59) = W0 at *
  rw [hS]
  clear hS
  go_loopw [6] (fun t6 wr => ∃ (n : Nat) (v4 : Value) (es : List EnP) (x0 x1 x2 x3 : Int), v4 = t6 ∧ Hid (InW w1 wr ps n v4 es x0 x1 x2 x3)) (fun t6 _ => 4000001 - lenV t6)
  case atStart => exact ⟨0, _, [], 0, 0, 0, 0, rfl, HW0⟩
  case round =>
    clear HW0
    obtain ⟨n, v4, es, x0, x1, x2, x3, rfl, HW⟩ := hrel
    obtain ⟨a4, cp4, rfl, -⟩ := HW.out.row.form
    have hel := HW.out.len
    obtain ⟨L, hL⟩ : ∃ L, es.length = L := ⟨_, rfl⟩
    have hLn : L = n := by omega
    subst hLn
    rw [hL] at HW ⊢
    have HLE := Lib.hid hL
    clear hL hel
    have HSE : Hid (wr.heap[S]? = some (.cells #[.int .i64 x0, .int .i64 x1, .int .i64 x2, .int .i64 x3] 59 (0, 0))) := by
      rw [← HS.out]
      exact HW.out.seen
    have c0 := cell_of_row wr S 0 _ _ _ HSE.out
    have c1 := cell_of_row wr S 1 _ _ _ HSE.out
    have c2 := cell_of_row wr S 2 _ _ _ HSE.out
    have c3 := cell_of_row wr S 3 _ _ _ HSE.out
    simp at c0 c1 c2 c3
    have HVB : Hid (vecB [x0, x1, x2, x3] = true) := by
      rw [← HW.out.vec]
      exact (runC_vec HW.out.go).1
    go_wp2_with fail
    refine (firstToCome_any a len cap ps mb nb _ V x0 x1 x2 x3 wr HL.out hn ((HI.out.below HB1.out).below HW.out.low) (HM.out.below HW.out.low) HVB.out).mono ?_
    rintro e w2 ⟨rfl, hb⟩
    have HW2 := Lib.hid (HW.out.below hb)
    clear hb HW HSE c0 c1 c2 c3
    have HSE : Hid (w2.heap[S]? = some (.cells #[.int .i64 x0, .int .i64 x1, .int .i64 x2, .int .i64 x3] 59 (0, 0))) := by
      rw [← HS.out]
      exact HW2.out.seen
    have c0 := cell_of_row w2 S 0 _ _ _ HSE.out
    have c1 := cell_of_row w2 S 1 _ _ _ HSE.out
    have c2 := cell_of_row w2 S 2 _ _ _ HSE.out
    have c3 := cell_of_row w2 S 3 _ _ _ HSE.out
    simp at c0 c1 c2 c3
    obtain ⟨q, hq⟩ : ∃ q, firstC [x0, x1, x2, x3] ps = q := ⟨_, rfl⟩
    have hqle := firstC_le [x0, x1, x2, x3] ps
    rw [HL.out, hq] at hqle
    have HQ : Hid (firstC (runC ps L).2 ps = q) := by
      rw [HW2.out.vec]
      exact hq
    rw [hq]
    clear hq
    by_cases hlt : q < len
    · rw [show decide (q < len) = true from decide_eq_true hlt]
      have HQL : Hid (q < ps.length) := by rw [HL.out]; exact Lib.hid hlt
      have HC : Hid (comesB [x0, x1, x2, x3] (ps.getD q pz) = true) := by
        have h := firstC_comes (v := (runC ps L).2) (ps := ps) (by rw [HQ.out]; exact HQL.out)
        rw [HQ.out, HW2.out.vec] at h
        exact h
      have hgm := HW2.out.go.more (by rw [HQ.out]; exact HQL.out)
      have hLb := hgm.bound
      have HGM := Lib.hid hgm
      have hON := outC_next ps L
      rw [HQ.out] at hON
      have HON := Lib.hid hON
      have HRN : Hid ((runC ps (L + 1)).2 = joinV [x0, x1, x2, x3] (ps.getD q pz).xs) := by
        show joinV (runC ps L).2 (ps.getD (firstC (runC ps L).2 ps) pz).xs = _
        rw [HQ.out, HW2.out.vec]
      clear hON hgm
      obtain ⟨b, o, ad, cq, rfl, hz, ⟨e0, e1, e2⟩, hmx, hd⟩ := ps_at HI.out (below_step HB1.out HB1.out.size HW2.out.low) HL.out hlt
      have hj := comes_join HC.out
      obtain ⟨y0, y1, y2, y3, hy, -⟩ := vecB_four hj.2.1
      have HJN : Hid (joinV [x0, x1, x2, x3] [y0, y1, y2, y3] = [max x0 y0, max x1 y1, max x2 y2, max x3 y3]) := by
        have h1 := hj.1
        have h2 := hj.2.1
        rw [hy] at h2
        exact joinV_good h1 h2
      have hxl : (ps.getD q pz).xs.length = 4 := by rw [hy]; rfl
      rw [hy] at hd HRN
      rw [hxl] at e1
      have HXY : Hid ((ps.getD q pz).xs = [y0, y1, y2, y3]) := hy
      clear hj hy hxl hmx
      generalize hpq : ps.getD q pz = x at *
      obtain ⟨xf, xx, xy⟩ := x
      obtain rfl : xx = [y0, y1, y2, y3] := HXY.out
      simp only at e0 e1 e2
      clear hpq HXY HC
      have i1 : (0 : Int) ≤ (q : Int) := by omega
      have i2 : (q : Int) < (len : Int) := by omega
      go_upto_region 8 with fail
      clear i1 i2 c0 c1 c2 c3 e0 e1 e2 HSE
      have hbP : Below w2.heap.size w2 (w2.alloc (.cells #[.int .i64 xf, .slice ad 4 cq, .int .i64 xy] 42)) := (Below.refl _ _).alloc (Nat.le_refl _) _
      have HWP := Lib.hid (HW2.out.below hbP)
      have HTP : Hid ((w2.alloc (.cells #[.int .i64 xf, .slice ad 4 cq, .int .i64 xy] 42)).heap[w2.heap.size]? = some (.cells #[.int .i64 xf, .slice ad 4 cq, .int .i64 xy] 42 (0, 0))) := heap_alloc_new w2 _
      obtain ⟨by_, oy, rfl, hzy, d0, d1, d2, d3⟩ := isIs_cells (hd.below hbP)
      generalize hP : w2.heap.size = P at *
      generalize w2.alloc (.cells #[.int .i64 xf, .slice (some ⟨by_, oy, none⟩) 4 cq, .int .i64 xy] 42) = wP at *
      clear hP hd hbP HW2
      have t1 := cell_of_row wP P 1 _ _ _ HTP.out
      simp at t1
      have hat : ∀ w, (Instr.arrayAt 59 (.slice (some ⟨by_, oy, none⟩) 4 cq)).run Try.prog w = .ok (.pointer (some ⟨by_, oy, none⟩)) w := fun w => run_arrayAt w 59 _ 4 _ 4 cq Try.underlying59 (Nat.le_refl _)
      go_upto_region 9 with (simp only [hat])
      have HWQ := Lib.hid (HWP.out.below ((Below.refl _ _).alloc (Nat.le_refl _) (.cells #[.int .i64 y0, .int .i64 y1, .int .i64 y2, .int .i64 y3] 59)))
      have HTQ : Hid ((wP.alloc (.cells #[.int .i64 y0, .int .i64 y1, .int .i64 y2, .int .i64 y3] 59)).heap[wP.heap.size]? = some (.cells #[.int .i64 y0, .int .i64 y1, .int .i64 y2, .int .i64 y3] 59 (0, 0))) := heap_alloc_new wP _
      have HTP2 : Hid ((wP.alloc (.cells #[.int .i64 y0, .int .i64 y1, .int .i64 y2, .int .i64 y3] 59)).heap[P]? = some (.cells #[.int .i64 xf, .slice (some ⟨by_, oy, none⟩) 4 cq, .int .i64 xy] 42 (0, 0))) := (Below.heap_alloc _ _ _ (Array.getElem?_eq_some_iff.1 HTP.out).1).trans HTP.out
      have HQO : Hid ((Value.slice a4 L cp4).ownBlock ≠ some wP.heap.size) := (HWP.out.row.old (Nat.le_refl _)).1
      generalize hQ : wP.heap.size = Q at *
      generalize wP.alloc (.cells #[.int .i64 y0, .int .i64 y1, .int .i64 y2, .int .i64 y3] 59) = wQ at *
      clear hQ hat t1 d0 d1 d2 d3 HTP HWP hzy
      have HE : Hid (∀ W, Below wQ.heap.size wQ W → (W.cell? ⟨P, 0, none⟩ = some (.int .i64 xf) ∧ W.cell? ⟨P, 2, none⟩ = some (.int .i64 xy)) ∧ (W.cell? ⟨Q, 0, none⟩ = some (.int .i64 y0) ∧ W.cell? ⟨Q, 1, none⟩ = some (.int .i64 y1) ∧ W.cell? ⟨Q, 2, none⟩ = some (.int .i64 y2) ∧ W.cell? ⟨Q, 3, none⟩ = some (.int .i64 y3))) := fun W hW => by
        have hp := (hW.block P (Array.getElem?_eq_some_iff.1 HTP2.out).1).trans HTP2.out
        have hq := (hW.block Q (Array.getElem?_eq_some_iff.1 HTQ.out).1).trans HTQ.out
        refine ⟨⟨?_, ?_⟩, ?_, ?_, ?_, ?_⟩
        · rw [cell_of_row W P 0 _ _ _ hp]; rfl
        · rw [cell_of_row W P 2 _ _ _ hp]; rfl
        · rw [cell_of_row W Q 0 _ _ _ hq]; rfl
        · rw [cell_of_row W Q 1 _ _ _ hq]; rfl
        · rw [cell_of_row W Q 2 _ _ _ hq]; rfl
        · rw [cell_of_row W Q 3 _ _ _ hq]; rfl
      refine wp_region_slots 9 [[(6, false)], [(9, false)], [(35, true)], [(10, false)], [(37, true)], [(9, false)], [(39, true)], [(36, true), (38, true), (40, true)], [(41, true)]] (fun w' => Below wQ.heap.size wQ w') (fun w w' => Below w.heap.size w w') (by kernel_rfl) (by kernel_rfl) (by rfl) ((Below.refl _ _).drew) (fun _ _ h hb => below_step h h.size hb) ?_
      iterate 4 (apply slot_eq; · (intro ρ w' ⟨p1, p2, p3⟩ hbl hn; obtain ⟨⟨c0, c2⟩, ⟨d0, d1, d2, d3⟩⟩ := HE.out w' hbl; simp at hn; go_simp; exact ⟨Below.refl _ _, rfl⟩))
      refine slot_fact (ListK wQ.heap.size [y0, y1, y2, y3]) (lasts_listK _ _) ?_ ?_
      · intro ρ w' ⟨p1, p2, p3⟩ hbl hn
        simp at hn
        go_simp
        exact got_call (tkList_any y0 y1 y2 y3 w') fun e w'' ⟨he, hw⟩ => by
          subst hw
          exact ⟨_, he, (Below.refl _ _).alloc (Nat.le_refl _) _, _, rfl, hbl.size, nums4 _ _ _ _ _ _⟩
      iterate 2 (apply slot_eq; · (intro ρ w' ⟨p1, p2, p3⟩ hbl hn; obtain ⟨⟨c0, c2⟩, ⟨d0, d1, d2, d3⟩⟩ := HE.out w' hbl; simp at hn; go_simp; exact ⟨Below.refl _ _, rfl⟩))
      refine slot_fact (PostK wQ.heap.size xf xy [y0, y1, y2, y3]) (lasts_postK _ _ _ _) ?_ ?_
      · intro ρ w' ⟨p1, p2, p3⟩ hbl hn
        simp at hn
        obtain ⟨f1, ⟨g, f2, hg, hng⟩, f3⟩ := hn
        go_simp
        exact ⟨Below.refl _ _, g, rfl, hg, hng⟩
      refine slot_fact (OneK wQ.heap.size xf xy [y0, y1, y2, y3]) (lasts_oneK _ _ _ _) ?_ ?_
      · intro ρ w' ⟨p1, p2, p3⟩ hbl hn
        simp at hn
        obtain ⟨g, f1, hg, hng⟩ := hn
        go_simp
        have hbo : Below w'.heap.size w' (w'.alloc (.cells #[.int .i64 xf, .slice (some ⟨g, 0, none⟩) 4 4, .int .i64 xy] 42)) := (Below.refl _ _).alloc (Nat.le_refl _) _
        exact ⟨hbo, _, g, rfl, by simp, oneP_cells w' 42 ⟨⟨xf, [y0, y1, y2, y3], xy⟩, g, 4⟩, hg, hng.below hbo⟩
      refine slot_end ?_
      intro vs w3 hS3 hF
      simp at hF
      obtain ⟨⟨h1, g, f42, hh1, hc1, hg, hng⟩, f41, f40, f39, f38, f37, f36, f35, f34⟩ := hF
      simp only [List.take_succ_cons, List.take_zero, List.drop_succ_cons, List.drop_zero, putAll, f42, f40, f39, f37, f36, f35, f34]
      clear f42 f41 f40 f39 f38 f37 f36 f35 f34
      simp only [Act.put, List.setIfInBounds_toArray, List.set_cons_succ, List.set_cons_zero]
      have HW3 := Lib.hid (HWQ.out.below hS3)
      have HOW : Hid (w3.ownsRow (w1.heap.size + 1) 42 3 (.slice a4 L cp4) L (es.flatMap psVals)) := by
        have h := HW3.out.row.own
        rw [HLE.out] at h
        exact h
      have HGO : Hid (w1.heap.size + 1 ≤ g ∧ (Value.slice a4 L cp4).ownBlock ≠ some g ∧ (∀ d ∈ es, d.g ≠ g)) := by
        obtain ⟨o1, o2⟩ := HWQ.out.row.old hg
        have := HWQ.out.lt
        exact ⟨by omega, o1, o2⟩
      have HNG := Lib.hid hng
      have HCL := Lib.hid hc1
      have HQ3 : Hid (w3.heap[Q]? = some (.cells #[.int .i64 y0, .int .i64 y1, .int .i64 y2, .int .i64 y3] 59 (0, 0))) := (hS3.block Q (Array.getElem?_eq_some_iff.1 HTQ.out).1).trans HTQ.out
      have hsz7 : w1.heap.size + 1 ≤ w3.heap.size := HW3.out.lt
      obtain ⟨ii, hii, hxi⟩ := Option.map_eq_some_iff.1 infoPst
      simp only [Prod.mk.injEq] at hxi
      have HII := Lib.hid hii
      have HXI := Lib.hid hxi
      clear hii hxi hS3 hng hc1 hg hh1 HE HTP2 HTQ HWQ
      go_wp2_with (at_builtin; refine wpList_append_lies _ (by rfl) _ _ _ (by rfl) (w1.heap.size + 1) 42 ii (postV 0 none 0 0 0) 3 40 Try.underlying48 HII.out HXI.out.1 HXI.out.2.1 HXI.out.2.2 (by rfl) (by omega) (.slice a4 L cp4) L (es.flatMap psVals) (by rfl) HOW.out ⟨h1, 0, none⟩ 1 1 (psVals ⟨⟨xf, [y0, y1, y2, y3], xy⟩, g, 4⟩) (by rfl) (by rfl) HCL.out (by simpa using psVals_one [⟨⟨xf, [y0, y1, y2, y3], xy⟩, g, 4⟩]) (by omega) (by unfold maxLen; omega) (by omega) (by simpa using hsz7) _ rfl ?_; intro g8 cp8 w8 hown8 hgrow8 hg8 _; refine Hid.out ?_)
      refine Lib.hid ?_
      have HX8 : Hid (InX w1 w8 x0 x1 x2 x3 (outC ps L ++ [⟨xf, [y0, y1, y2, y3], xy⟩]) (.slice (some ⟨g8, 0, none⟩) (L + 1) cp8) (es ++ [⟨⟨xf, [y0, y1, y2, y3], xy⟩, g, 4⟩])) := by
        have h := HW3.out.toInX.more (e := ⟨⟨xf, [y0, y1, y2, y3], xy⟩, g, 4⟩) (g5 := g8) (cap5 := cp8) (w5 := w8) ⟨HGO.out.1, HGO.out.2.1, HNG.out⟩ HGO.out.2.2 (by rw [HLE.out]; exact hown8) hgrow8 hg8
        rw [HLE.out] at h
        exact h
      have HQ8 : Hid (w8.heap[Q]? = some (.cells #[.int .i64 y0, .int .i64 y1, .int .i64 y2, .int .i64 y3] 59 (0, 0))) := (hgrow8.block Q (Array.getElem?_eq_some_iff.1 HQ3.out).1 fun e => HQO.out e.symm).trans HQ3.out
      have HS8 : Hid (w8.heap[S]? = some (.cells #[.int .i64 x0, .int .i64 x1, .int .i64 x2, .int .i64 x3] 59 (0, 0))) := by
        rw [← HS.out]
        exact HX8.out.seen
      have c0 := cell_of_row w8 S 0 _ _ _ HS8.out
      have c1 := cell_of_row w8 S 1 _ _ _ HS8.out
      have c2 := cell_of_row w8 S 2 _ _ _ HS8.out
      have c3 := cell_of_row w8 S 3 _ _ _ HS8.out
      have d0 := cell_of_row w8 Q 0 _ _ _ HQ8.out
      have d1 := cell_of_row w8 Q 1 _ _ _ HQ8.out
      have d2 := cell_of_row w8 Q 2 _ _ _ HQ8.out
      have d3 := cell_of_row w8 Q 3 _ _ _ HQ8.out
      simp at c0 c1 c2 c3 d0 d1 d2 d3
      clear hown8 hgrow8 hg8 HOW HCL HQ3 HW3 HII HXI HNG HGO hsz7
      go_wp2_with fail
      refine (tkJoin_any x0 x1 x2 x3 y0 y1 y2 y3 _).mono ?_
      rintro e w9 ⟨rfl, hb⟩
      have HX9 := Lib.hid (HX8.out.below hb)
      have HW9 : Hid (InW w1 (put4 w9 S (max x0 y0) (max x1 y1) (max x2 y2) (max x3 y3)) ps (L + 1) (.slice (some ⟨g8, 0, none⟩) (L + 1) cp8) (es ++ [⟨⟨xf, [y0, y1, y2, y3], xy⟩, g, 4⟩]) (max x0 y0) (max x1 y1) (max x2 y2) (max x3 y3)) := by
        refine ⟨?_, HGM.out, by rw [HRN.out, HJN.out]⟩
        rw [HON.out, ← HS.out]
        exact HX9.out.turn _ _ _ _
      have HS9 : Hid (w9.heap[S]? = some (.cells #[.int .i64 x0, .int .i64 x1, .int .i64 x2, .int .i64 x3] 59 (0, 0))) := by
        rw [← HS.out]
        exact HX9.out.seen
      clear hb c0 c1 c2 c3 d0 d1 d2 d3 HX8 HX9 HQ8 HS8
      generalize (max x0 y0) = m0 at *
      generalize (max x1 y1) = m1 at *
      generalize (max x2 y2) = m2 at *
      generalize (max x3 y3) = m3 at *
      have c0 := cell_of_row w9 S 0 _ _ _ HS9.out
      have c1 := cell_of_row w9 S 1 _ _ _ HS9.out
      have c2 := cell_of_row w9 S 2 _ _ _ HS9.out
      have c3 := cell_of_row w9 S 3 _ _ _ HS9.out
      have f0 := frozen_of_row w9 S 0 _ _ HS9.out
      have f1 := frozen_of_row w9 S 1 _ _ HS9.out
      have f2 := frozen_of_row w9 S 2 _ _ HS9.out
      have f3 := frozen_of_row w9 S 3 _ _ HS9.out
      simp at c0 c1 c2 c3
      go_wp2
      exact ⟨⟨L + 1, _, _, m0, m1, m2, m3, rfl, HW9⟩, by simp [lenV]; omega⟩
    · rw [show decide (q < len) = false from decide_eq_false hlt]
      have HE : Hid (firstC (runC ps L).2 ps = ps.length) := by
        rw [HQ.out, HL.out]
        exact Lib.hid (by omega)
      have hb0 : w2.heap[w.heap.size]? = some (.cells #[.slice none 0 0] 27 (0, 0)) := (HW2.out.low.block _ HZ1.out).trans H01.out
      have z0 := (Array.getElem?_eq_some_iff.1 hb0).1
      have q0 := (cells_one hb0).1
      have f0 := (cells_one hb0).2.1
      have HZ0 := Lib.hid z0
      clear hb0
      go_wp2_with fail
      refine (tkList_any _ _ _ _ _).mono ?_
      rintro e w3 ⟨rfl, rfl⟩
      go_wp2
      refine bodyPost_ret (v := .tuple #[.slice a4 L cp4, vecV (some ⟨w2.heap.size, 0, none⟩) 4 4]) (by simp only [results, hres]; go_simp) rfl ?_
      have hlow := below_step HB1.out HB1.out.size HW2.out.low
      have hlt1 := HZ1.out
      obtain ⟨o1, o2⟩ := HW2.out.row.old (Nat.le_refl _)
      have hnm := nums4 (w2.setCell ⟨w.heap.size, 0, none⟩ (.slice (some ⟨w2.heap.size, 0, none⟩) 4 4)) x0 x1 x2 x3 59
      rw [show (w2.setCell ⟨w.heap.size, 0, none⟩ (.slice (some ⟨w2.heap.size, 0, none⟩) 4 4)).heap.size = w2.heap.size by simp] at hnm
      refine ⟨L, _, es, w2.heap.size, 4, HW2.out.go, HE.out, rfl, ?_, HW2.out.ours, by rw [HW2.out.vec]; exact hnm, by omega, o1, o2, ?_⟩
      · exact ((HW2.out.row.set (p := ⟨w.heap.size, 0, none⟩) (by show w.heap.size < w1.heap.size + 1; omega) _).below ((Below.refl _ _).alloc (Nat.le_refl _) _)).mono (by omega)
      · exact (hlow.setCell (p := ⟨w.heap.size, 0, none⟩) (Nat.le_refl _) _).alloc (by have := hlow.size; simpa using this) _

end Go.Proofs.Ytolmlcbgdihcbaa

/- Answers of InOrder for the law: posts of one's own, perhaps none; their marks. -/
namespace Go.Proofs.Ytolmlcbgdihcbaa
open Go.ChangeShapes Go.WideShapes Go.ChangeAt Go.RowKit Go.Joins
attribute [local go_sem ↓] Go.wp_at_zero Go.wp_at_succ

def OwnO (w : World) (base : Nat) (a : Option Addr) (O : List Pst) (γ : Nat → Nat) : Prop := O = [] ∨ ∃ b, a = some ⟨b, 0, none⟩ ∧ OwnP w base b O γ

def MarkedO (w : World) (a : Option Addr) (O : List Pst) (γ : Nat → Nat) (k : Int) : Prop := O = [] ∨ ∃ b, a = some ⟨b, 0, none⟩ ∧ MarkedP w b O γ k

/-- The blocks that such posts take up. -/
def TakenO (a : Option Addr) (O : List Pst) (γ : Nat → Nat) (x : Nat) : Prop := O ≠ [] ∧ ∃ b, a = some ⟨b, 0, none⟩ ∧ TakenP b O γ x

theorem OwnO.below {w w' : World} {base : Nat} {a : Option Addr} {O : List Pst} {γ : Nat → Nat} (h : OwnO w base a O γ) (hb : Below w.heap.size w w') : OwnO w' base a O γ := by
  rcases h with h | ⟨b, e, h⟩
  · exact .inl h
  · exact .inr ⟨b, e, h.below hb⟩

theorem OwnO.isPn {w : World} {base : Nat} {a : Option Addr} {O : List Pst} {γ : Nat → Nat} (h : OwnO w base a O γ) : IsPn w a O := by
  rcases h with h | ⟨b, rfl, h⟩
  · exact .inl h
  · exact h.isPn

theorem OwnP.taken {w : World} {base b : Nat} {ps : List Pst} {γ : Nat → Nat} (h : OwnP w base b ps γ) {x : Nat} (hx : TakenP b ps γ x) : base ≤ x ∧ x < w.heap.size := by
  rcases hx with rfl | ⟨i, h1, h2, rfl⟩
  · exact ⟨h.le, h.lt⟩
  · exact ⟨(h.nums i h1 h2).1, (h.nums i h1 h2).2.2.1⟩

theorem OwnO.taken {w : World} {base : Nat} {a : Option Addr} {O : List Pst} {γ : Nat → Nat} (h : OwnO w base a O γ) {x : Nat} (hx : TakenO a O γ x) : base ≤ x ∧ x < w.heap.size := by
  obtain ⟨h0, b', e', ht⟩ := hx
  rcases h with h | ⟨b, e, h⟩
  · exact absurd h h0
  · rw [e] at e'
    injection e' with e'
    injection e' with e'
    subst e'
    exact h.taken ht

/-- What was written elsewhere. -/
theorem OwnP.offO {w w' : World} {base b : Nat} {ps : List Pst} {γ : Nat → Nat} {S : Nat → Prop} (h : OwnP w base b ps γ) (ho : Only S w w') (hS : ∀ x, S x → x < base) : OwnP w' base b ps γ := by
  have hb : ∀ x, base ≤ x → w'.heap[x]? = w.heap[x]? := fun x hx => ho.block x fun e => by have := hS x e; omega
  exact ⟨by rw [ho.size]; exact h.lt, h.le, fun o => (ho.frozen _).trans (h.open_ o), fun i hi => by
      obtain ⟨a, cap, h1, h2⟩ := h.at_ i hi
      exact ⟨a, cap, h1.of_block (hb b h.le), h2⟩, fun i hi hp => by
      obtain ⟨h1, h2, h3⟩ := h.nums i hi hp
      exact ⟨h1, h2, h3.of_block (hb _ h1) (by rw [ho.size]; exact h3.1)⟩, h.inj⟩

theorem OwnO.offO {w w' : World} {base : Nat} {a : Option Addr} {O : List Pst} {γ : Nat → Nat} {S : Nat → Prop} (h : OwnO w base a O γ) (ho : Only S w w') (hS : ∀ x, S x → x < base) : OwnO w' base a O γ := by
  rcases h with h | ⟨b, e, h⟩
  · exact .inl h
  · exact .inr ⟨b, e, h.offO ho hS⟩

/-- Marked posts, carried on where their blocks are as they were. -/
theorem MarkedP.same {w w' : World} {b : Nat} {ps : List Pst} {γ : Nat → Nat} {k : Int} (h : MarkedP w b ps γ k) (hb : ∀ x, TakenP b ps γ x → w'.heap[x]? = w.heap[x]?) (hs : w.heap.size ≤ w'.heap.size) : MarkedP w' b ps γ k := by
  intro i hi
  obtain ⟨⟨e0, ⟨a, cp, e1, e3⟩, e2⟩, hd⟩ := h i hi
  have c : ∀ o, w'.cell? ⟨b, o, none⟩ = w.cell? ⟨b, o, none⟩ := fun o => World.cell?_of_block (a := ⟨b, o, none⟩) (hb b (.inl rfl))
  exact ⟨⟨(c _).trans e0, ⟨a, cp, (c _).trans e1, e3⟩, (c _).trans e2⟩, fun hp => ⟨Nat.lt_of_lt_of_le (hd hp).1 hs, (hd hp).2.of_block (hb _ (.inr ⟨i, hi, hp, rfl⟩))⟩⟩

theorem MarkedO.same {w w' : World} {a : Option Addr} {O : List Pst} {γ : Nat → Nat} {k : Int} (h : MarkedO w a O γ k) (hb : ∀ x, TakenO a O γ x → w'.heap[x]? = w.heap[x]?) (hs : w.heap.size ≤ w'.heap.size) : MarkedO w' a O γ k := by
  by_cases h0 : O = []
  · exact .inl h0
  rcases h with h | ⟨b, e, h⟩
  · exact .inl h
  · exact .inr ⟨b, e, MarkedP.same h (fun x hx => hb x ⟨h0, b, e, hx⟩) hs⟩

set_option maxRecDepth 100000 in
theorem markPostS_none (a : Option Addr) (cap : Nat) (k : Int) (w : World) :
    Calls Try.prog 32 #[.slice a 0 cap, .int .i64 k] w fun e w' => e = .returned (.int .i64 k) ∧ w' = w := by
  go_enter Try.func32, Try.ntmps32
  go_wp2
  go_loopw [1, 5] (fun l i wr => i = .int .i64 0 ∧ l = .int .i64 k ∧ wr = w) (fun _ i _ => (intOf i).toNat)
  case atStart => exact ⟨rfl, rfl, rfl⟩
  case round =>
    obtain ⟨rfl, rfl, rfl⟩ := hrel
    go_wp2
    go_ret
    exact ⟨rfl, rfl⟩

set_option maxRecDepth 100000 in
theorem heldPostS_none (a : Option Addr) (cap : Nat) (k : Int) (w : World) :
    Calls Try.prog 33 #[.slice a 0 cap, .int .i64 k] w fun e w' => e = .returned (.int .i64 k) ∧ w' = w := by
  go_enter Try.func33, Try.ntmps33
  go_wp2
  go_loopw [1, 5] (fun l i wr => i = .int .i64 0 ∧ l = .int .i64 k ∧ wr = w) (fun _ i _ => (intOf i).toNat)
  case atStart => exact ⟨rfl, rfl, rfl⟩
  case round =>
    obtain ⟨rfl, rfl, rfl⟩ := hrel
    go_wp2
    go_ret
    exact ⟨rfl, rfl⟩

theorem markPostS_all (base : Nat) (a : Option Addr) (n cap : Nat) (k : Int) (O : List Pst) (γ : Nat → Nat) (w : World) (hn : O.length = n) (hm : n ≤ 1048576) (hbk : bulkP O ≤ 1048576) (h0 : 0 ≤ k) (h1 : k ≤ 1073741824) (ho : OwnO w base a O γ) :
    Calls Try.prog 32 #[.slice a n cap, .int .i64 k] w fun e w' => e = .returned (.int .i64 (markP O k n)) ∧ MarkedO w' a O γ k ∧ Only (TakenO a O γ) w w' := by
  by_cases hO : O = []
  · subst hO
    simp at hn
    subst hn
    exact (markPostS_none a cap k w).mono fun e w' ⟨he, hw⟩ => ⟨by rw [he, markP_zero], .inl rfl, by rw [hw]; exact Only.refl _ _⟩
  · rcases ho with ho | ⟨b, rfl, ho⟩
    · exact absurd ho hO
    · exact (markPostS_any base b n cap k O γ w hn hm hbk h0 h1 ho).mono fun e w' ⟨he, h2, h3⟩ => ⟨he, .inr ⟨b, rfl, h2⟩, Only.trans (Only.refl _ _) h3 fun x hx => ⟨hO, b, rfl, hx⟩⟩

theorem heldPostS_all (a : Option Addr) (n cap : Nat) (k : Int) (O : List Pst) (γ : Nat → Nat) (w : World) (hn : O.length = n) (hm : n ≤ 1048576) (hbk : bulkP O ≤ 1048576) (h0 : 0 ≤ k) (h1 : k ≤ 1073741824) (ho : MarkedO w a O γ k) :
    Calls Try.prog 33 #[.slice a n cap, .int .i64 k] w fun e w' => e = .returned (.int .i64 (markP O k n)) ∧ w' = w := by
  by_cases hO : O = []
  · subst hO
    simp at hn
    subst hn
    exact (heldPostS_none a cap k w).mono fun e w' ⟨he, hw⟩ => ⟨by rw [he, markP_zero], hw⟩
  · rcases ho with ho | ⟨b, rfl, ho⟩
    · exact absurd ho hO
    · exact heldPostS_any b n cap k O γ w hn hm hbk h0 h1 ho

/-- What both sides answer: O and the vector vv. -/
def AnsO (w : World) (O : List Pst) (vv : List Int) (e : Ending) (w' : World) : Prop := ∃ a cap gv cpv γ, e = .returned (.tuple #[.slice a O.length cap, vecV (some ⟨gv, 0, none⟩) 4 cpv]) ∧
  OwnO w' w.heap.size a O γ ∧ NumsAt w' gv vv ∧ w.heap.size ≤ gv ∧ ¬ TakenO a O γ gv ∧ Below w.heap.size w w'

theorem ansO_of {w w' : World} {ps : List Pst} {n : Nat} {e : Ending} (hg : GoC ps n) (hf : firstC (runC ps n).2 ps = ps.length) (h : OrdAns w ps e w') : AnsO w (outC ps n) (runC ps n).2 e w' := by
  obtain ⟨m, v4, es, gv, cpv, h1, h2, h3, h4, h5, h6, h7, h8, h9, h10⟩ := h
  have e' : m = n := goC_end h1 hg h2 hf
  subst e'
  obtain ⟨a, cap, rfl, hr⟩ := h4.form
  have hl : es.length = (outC ps m).length := by rw [← h5, List.length_map]
  refine ⟨a, cap, gv, cpv, gammaP es, by rw [h3, hl], ?_, h6, h7, ?_, h10⟩
  · rcases hr with hr | ⟨b, hr1, hr2⟩
    · exact .inl (by rw [← h5, hr]; rfl)
    · rw [h5] at hr2
      exact .inr ⟨b, hr1, hr2⟩
  · rintro ⟨h0, b, rfl, ht⟩
    rcases ht with rfl | ⟨i, hi, hp, rfl⟩
    · exact h8 rfl
    · have hi' : i < es.length := by rw [hl]; exact hi
      exact h9 (es.getD i ezP) (by simp [List.getD, hi']) rfl

theorem infoVecCell (w : World) (a : Option Addr) (n cap : Nat) : (w.alloc (.cells #[.slice a n cap] 27)).cell? ⟨w.heap.size, 0, none⟩ = some (.slice a n cap) := by go_simp

end Go.Proofs.Ytolmlcbgdihcbaa

/- Lists of posts that come in, opened. -/
namespace Go.Proofs.Ytolmlcbgdihcbaa
open Go.ChangeShapes Go.WideShapes Go.ChangeAt Go.RowKit Go.Joins Go.Deep
set_option maxRecDepth 100000

section
variable {H : Type} {enc : TypeId × Value → H} {w : World} {base : Nat} {held : Bool}

theorem post_cells {fuel : Nat} {cs : List Value} {x : DataW H × List MemPlace} (h : DataW.trod enc Try.prog w base (fun _ => true) held fuel 39 cs = some x) :
    ∃ (y : Pst) (a : Option Addr) (cap : Nat), cs = [.int .i64 y.f, .slice a y.xs.length cap, .int .i64 y.y] ∧ y.xs.length ≤ maxLen ∧ IsIs w a y.xs := by
  obtain ⟨xs', n, hl0, _, _, hlen, hfd⟩ := DataW.trod_struct Try.underlying39 h
  have hl : cs.length = 3 := by rw [cellsPost] at *; assumption
  match cs, hl, xs', hlen with
  | [v0, v1, v2], _, [y0, y1, y2], _ =>
    have g0 := hfd 0 _ rfl
    have g1 := hfd 1 _ rfl
    have g2 := hfd 2 _ rfl
    simp [cellsIntS, cellsInt] at g0 g1 g2
    obtain ⟨f, e0, _, _⟩ := DataW.trod_int Try.underlying3 g0
    obtain ⟨a, len, cap, zs, e1, hz⟩ := ints_cells g1
    obtain ⟨y, e2, _, _⟩ := DataW.trod_int Try.underlying3 g2
    simp at e0 e1 e2
    subst e0 e1 e2
    obtain ⟨hz1, hz2, hz3, -⟩ := hz
    subst hz1
    exact ⟨⟨f, zs, y⟩, a, cap, rfl, hz2, hz3⟩

theorem ps_cells {fuel : Nat} {a : Option Addr} {len cap : Nat} {x : DataW H × List MemPlace} (h : DataW.trod enc Try.prog w base (fun _ => true) held fuel 46 [.slice a len cap] = some x) :
    ∃ ps : List Pst, ps.length = len ∧ len ≤ maxLen ∧ IsPs w a ps := by
  rcases open_slice Try.underlying46 h with ⟨hcs, _⟩ | ⟨a', len', cap', m, n, D, Pl, hcs, _, hl, hm, hmm, _, hel⟩
  · simp at hcs
    obtain ⟨rfl, rfl, rfl⟩ := hcs
    exact ⟨[], rfl, Nat.zero_le _, .inl rfl⟩
  · simp at hcs
    obtain ⟨rfl, rfl, rfl⟩ := hcs
    have hml : len ≤ m := by rw [hmm]; split <;> omega
    have hd : ∀ i, i < len → ∃ y : Pst, (∃ (ad : Option Addr) (cp : Nat), w.cell? (a'.add (i * 3)) = some (.int .i64 y.f) ∧ w.cell? (a'.add (i * 3 + 1)) = some (.slice ad y.xs.length cp) ∧ w.cell? (a'.add (i * 3 + 2)) = some (.int .i64 y.y) ∧ IsIs w ad y.xs) ∧ y.xs.length ≤ maxLen := by
      intro i hi
      obtain ⟨cs', h1, h2⟩ := hel i (by omega)
      rw [cellsPost] at h1
      obtain ⟨_, _, hc⟩ := World.cells?_some h1
      obtain ⟨y, ad, cp, hdd, hy1, hy2⟩ := post_cells h2
      rw [hdd] at hc
      have c0 := hc 0 (by omega)
      have c1 := hc 1 (by omega)
      have c2 := hc 2 (by omega)
      rw [add_add] at c0 c1 c2
      exact ⟨y, ⟨ad, cp, by simpa using c0, by simpa using c1, by simpa using c2, hy2⟩, hy1⟩
    by_cases h0 : len = 0
    · subst h0
      exact ⟨[], rfl, Nat.zero_le _, .inl rfl⟩
    have : Inhabited Pst := ⟨pz⟩
    obtain ⟨f, hf⟩ := choose_lt hd
    have ha : a' = ⟨a'.block, a'.off, none⟩ := by
      obtain ⟨⟨_, _, h1, _⟩, _⟩ := hf 0 (by omega)
      simp [Addr.add] at h1
      exact add_form h1
    have hg : ∀ i, i < len → ((List.range len).map f).getD i pz = f i := fun i hi => by simp [List.getD, hi]
    refine ⟨(List.range len).map f, by simp, by omega, .inr ⟨a'.block, a'.off, by rw [← ha], ?_, ?_⟩⟩
    · obtain ⟨cs', h1, _⟩ := hel 0 (by omega)
      rw [cellsPost] at h1
      have h2 := World.cells?_block h1 (by omega)
      simpa [Addr.add] using h2
    · intro i hi
      have hi' : i < len := by simpa using hi
      rw [hg i hi']
      obtain ⟨⟨ad, cp, h1, h2, h3, h4⟩, h5⟩ := hf i hi'
      rw [ha] at h1 h2 h3
      rw [add_plain] at h1 h2 h3
      exact ⟨ad, cp, ⟨h1, h2, h3⟩, h5, h4⟩

theorem open_ps {b0 : Nat} {r : Reach} {v : Value} {d : DataW H} {p : List MemPlace} (hv : Value.okWide Try.prog w r b0 46 v) (h : DataW.Trod enc Try.prog w base (fun _ => true) held 46 v d p) :
    ∃ (a : Option Addr) (len cap : Nat) (ps : List Pst), v = .slice a len cap ∧ (ps.length = len ∧ len ≤ maxLen ∧ IsPs w a ps) := by
  obtain ⟨a, len, cap, rfl⟩ := okWide_slice Try.underlying46 hv
  obtain ⟨fuel, hf⟩ := h
  obtain ⟨ps, hx⟩ := ps_cells (by simpa [Value.cells] using hf)
  exact ⟨a, len, cap, ps, rfl, hx⟩

end
end Go.Proofs.Ytolmlcbgdihcbaa
