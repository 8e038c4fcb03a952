/- Where two trees are apart: contracts of impl.apartUpFrom and impl.leavesApart. -/
import Derived.Test.YtlbcpppmpbbkdalDoorArr
namespace Go.Proofs.YtlbcpppmpbbkdalDoor
open Go.ChangeShapes Go.WideShapes Go.ChangeAt Go.RowKit Go.Joins
attribute [local go_sem ↓] Go.wp_at_zero Go.wp_at_succ

set_option maxRecDepth 100000 in
theorem arr_cell {W : World} {b : Nat} {cs : Array Value} {t : Nat} {zs : List Int} (hg : W.heap[b]? = some (.cells cs t (0, 0))) (h : IsArr cs zs) {i : Nat} (hi : i < 15) : W.cell? ⟨b, i, none⟩ = some (.int .i64 (zs.getD i 0)) := by
  rw [cell_of_row W b i cs t (0, 0) hg]
  exact h.get hi

set_option maxRecDepth 100000 in
theorem cells_row {P : Program} (w : World) (g : Nat) (t : TypeId) (c : Array Value) (fr : Nat × Nat) (hg : w.heap[g]? = some (.cells c t fr)) (n : Nat) (hn : c.size = n) :
    (loadCellsFrom ⟨g, 0, none⟩ 0 n #[]).run P w = .ok c w := by
  subst hn
  have := run_loadCells_list (P := P) w ⟨g, 0, none⟩ c.toList (fun j v hv => by
    have hadd : (⟨g, 0, none⟩ : Addr).add j = ⟨g, j, none⟩ := by unfold Addr.add; split <;> simp_all
    rw [hadd, cell_of_row _ _ j c t fr hg]
    simpa using hv)
  simpa [loadCells] using this

set_option maxRecDepth 100000 in
set_option maxHeartbeats 1000000 in
theorem apartUp_any (cs ds : Array Value) (xs ys : List Int) (i : Nat) (w : World) (hi : i < 15) (h : IsArr cs xs) (h' : IsArr ds ys) :
    Calls Tryd.prog 48 #[.agg cs, .agg ds, .int .i64 i] w fun e w' => e = .returned (.bool (ap (unlike xs ys) i)) ∧ Below w.heap.size w w' := by
  have H := Lib.hid h
  have H' := Lib.hid h'
  clear h h'
  have HG : Hid (((w.alloc (.cells cs 51)).alloc (.cells ds 51)).heap[w.heap.size]? = some (.cells cs 51 (0, 0))) := heap_alloc2_old w _ _
  have HG' : Hid (((w.alloc (.cells cs 51)).alloc (.cells ds 51)).heap[w.heap.size + 1]? = some (.cells ds 51 (0, 0))) := heap_alloc2_new w _ _
  have HB : Hid (Below w.heap.size w ((w.alloc (.cells cs 51)).alloc (.cells ds 51))) := ((Below.refl _ _).alloc (Nat.le_refl _) _).alloc (by simp) _
  go_enter Tryd.func48, Tryd.ntmps48
  go_wp2
  go_loopw [2] (fun t wr => ∃ j : Nat, j < 15 ∧ t = .int .i64 j ∧ Hid (ap (unlike xs ys) j = ap (unlike xs ys) i) ∧ Hid (wr.heap[w.heap.size]? = some (.cells cs 51 (0, 0))) ∧ Hid (wr.heap[w.heap.size + 1]? = some (.cells ds 51 (0, 0))) ∧ Hid (Below w.heap.size w wr)) (fun t _ => (intOf t).toNat)
  case atStart => exact ⟨i, hi, rfl, Lib.hid rfl, HG, HG', HB⟩
  case round =>
    clear HG HG' HB
    obtain ⟨j, hj, rfl, HA, HG, HG', HB⟩ := hrel
    have e0 := arr_cell HG.out H.out hj
    have f0 := arr_cell HG'.out H'.out hj
    have i1 : (0 : Int) ≤ (j : Int) := by omega
    have i2 : (j : Int) < 15 := by omega
    have hz : w.heap.size < wr.heap.size := (Array.getElem?_eq_some_iff.1 HG.out).1
    have hz' : w.heap.size + 1 < wr.heap.size := (Array.getElem?_eq_some_iff.1 HG'.out).1
    have HU : Hid (unlike xs ys j = decide (xs.getD j 0 ≠ ys.getD j 0)) := rfl
    generalize xs.getD j 0 = x at *
    generalize ys.getD j 0 = y at *
    go_wp2_with fail
    have ge0 := aft_cell hz e0
    have gf0 := aft_cell hz' f0
    have ne := aft_some wr
    refine wp_region_aft (by kernel_rfl) (by kernel_rfl) ?_
    repeat (first | go_big_quiet_step (fail))
    refine wpQuiet_nil ?_
    intro wq hq
    have HGq : Hid (wq.heap[w.heap.size]? = some (.cells cs 51 (0, 0))) := (hq.block _ hz).trans HG.out
    have HGq' : Hid (wq.heap[w.heap.size + 1]? = some (.cells ds 51 (0, 0))) := (hq.block _ hz').trans HG'.out
    have HBq : Hid (Below w.heap.size w wq) := below_step HB.out HB.out.size hq
    clear hq ge0 gf0 ne e0 f0 HG HG' HB
    by_cases hxy : x = y
    · have HR : Hid (ap (unlike xs ys) i = false) := by
        show _ = _
        rw [← HA.out]
        exact ap_not (by rw [HU.out]; simp [hxy])
      subst hxy
      go_wp2
      go_ret
      exact ⟨by rw [HR.out]; rfl, HBq.out⟩
    · have HP : Hid (unlike xs ys j = true) := by
        show _ = _
        rw [HU.out]
        simpa using hxy
      by_cases hj0 : j = 0
      · subst hj0
        have HR : Hid (ap (unlike xs ys) i = true) := by
          show _ = _
          rw [← HA.out, ap_zero]
          exact HP.out
        go_wp2
        go_ret
        exact ⟨by rw [HR.out]; rfl, HBq.out⟩
      · have HR : Hid (ap (unlike xs ys) ((j - 1) / 2) = ap (unlike xs ys) i) := by
          show _ = _
          rw [← HA.out, ap_step (i := j) _ (by omega), HP.out, Bool.true_and]
        have hne : ¬ (j : Int) = 0 := by omega
        have e1 : ((j : Int) - 1).tdiv 2 = (((j - 1) / 2 : Nat) : Int) := by
          rw [Int.tdiv_eq_ediv_of_nonneg (by omega)]
          omega
        have b1 : -9223372036854775808 ≤ (j : Int) - 1 := by omega
        have b2 : (j : Int) - 1 ≤ 9223372036854775807 := by omega
        go_wp2
        exact ⟨⟨(j - 1) / 2, by omega, by simp, HR, HGq, HGq', HBq⟩, by simp [intOf]; omega⟩

set_option maxRecDepth 100000 in
set_option maxHeartbeats 1000000 in
theorem leavesApart_any (cs ds : Array Value) (xs ys : List Int) (w : World) (h : IsArr cs xs) (h' : IsArr ds ys) :
    Calls Tryd.prog 31 #[.agg cs, .agg ds] w fun e w' => ∃ v, e = .returned v ∧ RowI w' w.heap.size v (diffL xs ys) ∧ Below w.heap.size w w' := by
  have H := Lib.hid h
  have H' := Lib.hid h'
  have HC : Hid (∀ W, ∀ i : Nat, i < 15 → Calls Tryd.prog 48 #[.agg cs, .agg ds, .int .i64 i] W fun e w' => e = .returned (.bool (ap (unlike xs ys) i)) ∧ Below W.heap.size W w') := fun W i hi => apartUp_any cs ds xs ys i W hi h h'
  clear h h'
  obtain ⟨i0, hi0, hx0⟩ := Option.map_eq_some_iff.1 infoInt
  simp only [Prod.mk.injEq] at hx0
  have HI0 := Lib.hid hi0
  have HX0 := Lib.hid hx0
  clear hi0 hx0
  have hg : ((w.alloc (.cells cs 51)).alloc (.cells ds 51)).heap[w.heap.size]? = some (.cells cs 51 (0, 0)) := heap_alloc2_old w _ _
  have hg' : ((w.alloc (.cells cs 51)).alloc (.cells ds 51)).heap[w.heap.size + 1]? = some (.cells ds 51 (0, 0)) := heap_alloc2_new w _ _
  have s0 : (Tryd.prog.info? 51).map (·.size) = some cs.size := by rw [infoTree, H.out.size]
  have s1 : (Tryd.prog.info? 51).map (·.size) = some ds.size := by rw [infoTree, H'.out.size]
  have HB : Hid (Below w.heap.size w ((w.alloc (.cells cs 51)).alloc (.cells ds 51))) := ((Below.refl _ _).alloc (Nat.le_refl _) _).alloc (by simp) _
  have heq : ∀ w, (Op.equalIn 10000 51 (.agg cs) (.agg ds)).run Tryd.prog w = .ok (decide (xs = ys)) w := fun w => eql_arr 9998 w H.out H'.out
  have H8 : Hid (leavesTo xs ys 8 = diffL xs ys) := rfl
  by_cases hxy : xs = ys
  · have HD : Hid (diffL xs ys = []) := by rw [hxy]; exact diffL_same ys
    rw [decide_eq_true hxy] at heq
    clear hxy
    go_enter Tryd.func31, Tryd.ntmps31
    go_wp2_with (first | refine wpList_load_row rfl 51 _ rfl w.heap.size rfl _ cs _ _ hg under_tree rfl s0 ?_ | refine wpList_load_row rfl 51 _ rfl (w.heap.size + 1) rfl _ ds _ _ hg' under_tree rfl s1 ?_)
    go_ret
    exact ⟨_, rfl, by rw [HD.out]; exact World.ownsRow_nil _ _ _ _, HB.out⟩
  rw [decide_eq_false hxy] at heq
  clear hxy
  go_enter Tryd.func31, Tryd.ntmps31
  go_wp2_with (first | refine wpList_load_row rfl 51 _ rfl w.heap.size rfl _ cs _ _ hg under_tree rfl s0 ?_ | refine wpList_load_row rfl 51 _ rfl (w.heap.size + 1) rfl _ ds _ _ hg' under_tree rfl s1 ?_)
  clear heq
  go_loopw [5, 10] (fun t i wr => ∃ (k : Nat) (v : Value), k ≤ 8 ∧ i = .int .i64 k ∧ v = t ∧ Hid (RowI wr (w.heap.size + 2) v (leavesTo xs ys k)) ∧ Hid (wr.heap[w.heap.size]? = some (.cells cs 51 (0, 0))) ∧ Hid (wr.heap[w.heap.size + 1]? = some (.cells ds 51 (0, 0))) ∧ Hid (Below w.heap.size w wr)) (fun _ i _ => 8 - (intOf i).toNat)
  case atStart => exact ⟨0, _, Nat.zero_le _, rfl, rfl, World.ownsRow_nil _ _ _ _, hg, hg', HB⟩
  case round =>
    clear hg hg' HB
    obtain ⟨k, v, hk, rfl, rfl, HR, HG, HG', HB⟩ := hrel
    by_cases hk' : k < 8
    · have i1 : (0 : Int) ≤ (k : Int) := by omega
      have i2 : (k : Int) < 8 := by omega
      have hg := HG.out
      have hg' := HG'.out
      have HK : Hid (∀ W, Calls Tryd.prog 48 #[.agg cs, .agg ds, .int .i64 (7 + (k : Int))] W fun e w' => e = .returned (.bool (ap (unlike xs ys) (7 + k))) ∧ Below W.heap.size W w') := fun W => by
        have := HC.out W (7 + k) (by omega)
        rwa [Int.natCast_add] at this
      have hlen := leavesTo_len xs ys k
      have hz : w.heap.size < wr.heap.size := (Array.getElem?_eq_some_iff.1 HG.out).1
      have hz' : w.heap.size + 1 < wr.heap.size := (Array.getElem?_eq_some_iff.1 HG'.out).1
      go_wp2_with (first | refine wpList_load_row rfl 51 _ rfl w.heap.size rfl _ cs _ _ hg under_tree rfl s0 ?_ | refine wpList_load_row rfl 51 _ rfl (w.heap.size + 1) rfl _ ds _ _ hg' under_tree rfl s1 ?_)
      refine (HK.out _).mono ?_
      rintro e w2 ⟨rfl, hb⟩
      have HG2 : Hid (w2.heap[w.heap.size]? = some (.cells cs 51 (0, 0))) := (hb.block _ hz).trans HG.out
      have HG2' : Hid (w2.heap[w.heap.size + 1]? = some (.cells ds 51 (0, 0))) := (hb.block _ hz').trans HG'.out
      have HB2 : Hid (Below w.heap.size w w2) := below_step HB.out HB.out.size hb
      have HR2 := Lib.hid (HR.out.below hb)
      have hz2 : w.heap.size < w2.heap.size := Nat.lt_of_lt_of_le hz hb.size
      have hz2' : w.heap.size + 1 < w2.heap.size := Nat.lt_of_lt_of_le hz' hb.size
      clear hb hg hg' HG HG' HB HR HK
      cases hap : ap (unlike xs ys) (7 + k)
      · have HE2 : Hid (RowI w2 (w.heap.size + 2) v (leavesTo xs ys (k + 1))) := by rw [leavesTo_no hap]; exact HR2
        clear hap
        go_wp2
        exact ⟨⟨k + 1, _, by omega, by go_num, rfl, HE2, HG2, HG2', HB2⟩, by simp [intOf]; omega⟩
      · have HE2 := Lib.hid (leavesTo_yes hap)
        clear hap
        generalize leavesTo xs ys k = zs at *
        have HBA : Hid (Below w2.heap.size w2 (w2.alloc (.cells #[.int .i64 (k : Int)] 3))) := (Below.refl _ _).alloc (Nat.le_refl _) _
        have HRC := Lib.hid (HR2.out.below HBA.out)
        have HCC := Lib.hid (oneI_cells w2 3 (k : Int))
        have HBD := Lib.hid (below_step HB2.out HB2.out.size HBA.out)
        go_wp2_with (at_builtin; refine wpList_append_lies _ (by rfl) _ _ _ (by rfl) (w.heap.size + 2) 3 i0 (.int .i64 0) 1 8 Tryd.underlying24 HI0.out HX0.out.1 HX0.out.2.1 HX0.out.2.2 (by rfl) (by omega) v zs.length (zs.map intV) (by rfl) HRC.out ⟨w2.heap.size, 0, none⟩ 1 1 [intV (k : Int)] (by rfl) (by rfl) (by simpa using HCC.out) (intV_one [(k : Int)]) (by omega) (by unfold maxLen; omega) (by omega) (by simp; omega) _ rfl ?_; intro g3 cp3 w5 hown hgrow hg3 _; refine Hid.out ?_)
        refine Lib.hid ?_
        have hown3 := World.ownsRow.lt HRC.out
        have HB5 : Hid (Below w.heap.size w w5) := HBD.out.grown hgrow HBD.out.size fun j hj => by have := (hown3 j hj).1; omega
        have HG5 : Hid (w5.heap[w.heap.size]? = some (.cells cs 51 (0, 0))) := (hgrow.block _ (by simp; omega) (fun e => by have := (hown3 _ e.symm).1; omega)).trans ((HBA.out.block _ hz2).trans HG2.out)
        have HG5' : Hid (w5.heap[w.heap.size + 1]? = some (.cells ds 51 (0, 0))) := (hgrow.block _ (by simp; omega) (fun e => by have := (hown3 _ e.symm).1; omega)).trans ((HBA.out.block _ hz2').trans HG2'.out)
        have HR5 : Hid (RowI w5 (w.heap.size + 2) (.slice (some ⟨g3, 0, none⟩) (zs.length + 1) cp3) (leavesTo xs ys (k + 1))) := by
          rw [HE2.out]
          unfold RowI
          rw [List.length_append, List.map_append]
          exact hown
        clear hown hgrow hown3
        go_wp2
        exact ⟨⟨k + 1, _, by omega, by go_num, rfl, HR5, HG5, HG5', HB5⟩, by simp [intOf]; omega⟩
    · have hkk : k = 8 := by omega
      subst hkk
      have HF : Hid (RowI wr w.heap.size v (diffL xs ys)) := HR.out.mono (by omega)
      go_wp2
      go_ret
      exact ⟨_, rfl, HF.out, HB.out⟩

end Go.Proofs.YtlbcpppmpbbkdalDoor
