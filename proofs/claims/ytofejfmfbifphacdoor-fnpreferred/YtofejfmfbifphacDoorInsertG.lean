/- slices.Insert at rows of points: the road where there is no room; all roads together. -/
import Derived.Test.YtofejfmfbifphacDoorInsert
import Derived.Lib.AppendZeros
import Derived.Deep.DeepAppendWide
namespace Go.Proofs.YtofejfmfbifphacDoor
open Go.ChangeShapes Go.WideShapes Go.ChangeAt Go.RowKit Go.Joins

set_option maxRecDepth 100000 in
theorem grow_list {R ys ds pv : List Value} {I N : Nat} (hR : R.take I = ys) (hyl : ys.length = I) (hdl : ds.length = N - I) (hI : I ≤ N) (hl : N + 2 ≤ R.length) (hp : pv.length = 2) :
    ((R.take I ++ pv ++ R.drop (I + pv.length)).take (I + 2) ++ ds ++ (R.take I ++ pv ++ R.drop (I + pv.length)).drop (I + 2 + ds.length)).take (N + 2) = ys ++ pv ++ ds ∧
    ((R.take I ++ pv ++ R.drop (I + pv.length)).take (I + 2) ++ ds ++ (R.take I ++ pv ++ R.drop (I + pv.length)).drop (I + 2 + ds.length)).length = R.length ∧ (R.take I ++ pv ++ R.drop (I + pv.length)).length = R.length := by
  have e1 : (R.take I ++ pv ++ R.drop (I + pv.length)).take (I + 2) = ys ++ pv := by
    rw [hR, List.take_append_of_le_length (by rw [List.length_append, hyl, hp]; exact Nat.le_refl _), List.take_of_length_le (by rw [List.length_append, hyl, hp]; exact Nat.le_refl _)]
  have e2 : (R.take I ++ pv ++ R.drop (I + pv.length)).length = R.length := by
    simp only [List.length_append, List.length_take, List.length_drop, hp]
    omega
  refine ⟨?_, ?_, e2⟩
  · rw [e1, List.take_append_of_le_length (by simp only [List.length_append, hyl, hp, hdl]; omega), List.take_of_length_le (by simp only [List.length_append, hyl, hp, hdl]; omega)]
  · rw [e1, List.length_append, List.length_append, List.length_append, List.length_drop, e2, hyl, hp, hdl]
    omega

set_option maxRecDepth 100000 in
theorem zero_len (k : Nat) : (Builtin.zeroCells (ptV 0 0).cells k).size = k * 2 := by simp [Builtin.zeroCells, Value.cells]

set_option maxRecDepth 100000 in
set_option maxHeartbeats 4000000 in
theorem insert_grow (g n c i vb : Nat) (ps : List Pt) (p : Pt) (cur : Array Value) (base : Nat) (w : World) (hi : i < n) (hn : n ≤ 1000) (hnc : n ≤ c) (hroom : c < n + 1) (hpl : ps.length = n) (hg : w.heap[g]? = some (.cells cur 32 (0, 0))) (hx : cur.toList.take (n * 2) = ps.flatMap ptVals) (hbw : base ≤ w.heap.size)
    (hvb : w.heap[vb]? = some (.cells #[.int .i64 p.t, .int .i64 p.n] 32 (0, 0))) :
    Calls Tryd.prog 31 #[.slice (some ⟨g, 0, none⟩) n c, .int .i64 (i : Int), .slice (some ⟨vb, 0, none⟩) 1 1] w fun e w' => ∃ v', e = .returned v' ∧ RowP w' base v' (putAt ps i p) ∧ w.grownBy w' (some g) := by
  obtain ⟨i0, hi0, hx0⟩ := Option.map_eq_some_iff.1 infoPt
  simp only [Prod.mk.injEq] at hx0
  obtain ⟨hz0, hzs, hzb⟩ := hx0
  have hsz : (Tryd.prog.info? 32).map (·.size) = some 2 := by rw [hi0]; simp [hzs]
  have hz2 : ¬ ((i : Int) = (n : Int)) := by omega
  have hz3 : (c : Int) < (n : Int) + 1 := by omega
  have hxl : (ps.flatMap ptVals).length = n * 2 := by rw [pts_len, hpl]
  have hgl : g < w.heap.size := (Array.getElem?_eq_some_iff.1 hg).1
  have hvl : vb < w.heap.size := (Array.getElem?_eq_some_iff.1 hvb).1
  have hcell : ∀ j v, (ps.flatMap ptVals)[j]? = some v → w.cell? ⟨g, j, none⟩ = some v := fun j v hj => by
    refine (cell_of_row _ _ j _ 32 (0, 0) hg).trans ?_
    rw [← hx, List.getElem?_take] at hj
    split at hj
    · rw [← hj]
      simp
    · cases hj
  have hold : (Builtin.firstCells i0.size i (.slice (some ⟨g, 0, none⟩) i c)).run Tryd.prog w.drew = .ok ((ps.flatMap ptVals).take (i * 2)).toArray w.drew := by
    rw [hzs]
    exact run_firstCells_some w.drew 2 i ⟨g, 0, none⟩ i c ((ps.flatMap ptVals).take (i * 2)) (by rw [List.length_take, hxl]; omega) (fun j v hj => by
      rw [addr_add, Nat.zero_add]
      rw [List.getElem?_take] at hj
      split at hj
      · exact hcell j v hj
      · cases hj)
  obtain ⟨G, hG⟩ : ∃ G, grownCap w (n + 1) c 32 = G := ⟨_, rfl⟩
  have hGn : n + 1 ≤ G := by rw [← hG]; exact grownCap_ge w _ _ _
  have hG63 : G ≤ 9223372036854775807 := by
    have := grownCap_le_maxLen w (n + 1) c 32 (by unfold maxLen; omega)
    rw [hG] at this
    exact this
  have hkk : (n : Int) + 1 - (i : Int) = ((n + 1 - i : Nat) : Int) := by omega
  have hik : i + (n + 1 - i) = n + 1 := by omega
  have hrz : ∀ ty, (Builtin.append_ #[27, 3] ty #[.slice (some ⟨g, 0, none⟩) i c, .int .i64 ((n : Int) + 1 - (i : Int))]).run Tryd.prog w =
      .ok (.slice (some ⟨w.heap.size, 0, none⟩) (n + 1) G) (w.drew.alloc (.cells (((ps.flatMap ptVals).take (i * 2)).toArray ++ Builtin.zeroCells (ptV 0 0).cells (n + 1 - i) ++ Builtin.zeroCells (ptV 0 0).cells (G - (n + 1))) 32)) := fun ty => by
    have h := Lib.run_append_grow_zeros w 27 3 ty 32 i0 _ .i64 .i64 Tryd.underlying27 Tryd.underlying3 hi0 hz0 (some ⟨g, 0, none⟩) i c ((ps.flatMap ptVals).take (i * 2)) hold (n + 1 - i) (by omega) (by omega) (by omega) (by omega) (by rw [hzb]; omega) (by rw [hzb, hik]; exact growslice_fits_wide hroom (by omega))
    rw [hik, hG] at h
    rw [hkk]
    exact h
  obtain ⟨R, hRe⟩ : ∃ R : Array Value, ((ps.flatMap ptVals).take (i * 2)).toArray ++ Builtin.zeroCells (ptV 0 0).cells (n + 1 - i) ++ Builtin.zeroCells (ptV 0 0).cells (G - (n + 1)) = R := ⟨_, rfl⟩
  have hRl : R.toList.length = G * 2 := by
    rw [← hRe]
    simp only [Array.toList_append, List.length_append, Array.length_toList, zero_len, List.length_take, hxl]
    omega
  have hRt : R.toList.take (i * 2) = (ps.flatMap ptVals).take (i * 2) := by
    rw [← hRe]
    simp only [Array.toList_append]
    rw [List.append_assoc, List.take_append_of_le_length (by simp [hxl]; omega), List.take_of_length_le (by simp; omega)]
  rw [hRe] at hrz
  obtain ⟨W1, hW1⟩ : ∃ W1, w.drew.alloc (.cells R 32) = W1 := ⟨_, rfl⟩
  have hg1 : W1.heap[w.heap.size]? = some (.cells R 32 (0, 0)) := by rw [← hW1]; exact heap_alloc_new w.drew _
  have hgr1 : w.grownBy W1 none := by rw [← hW1]; exact grown_trans (grown_drew w _) (World.grownBy_alloc _ _ _)
  rw [hW1] at hrz
  have hv1 : W1.heap[vb]? = some (.cells #[.int .i64 p.t, .int .i64 p.n] 32 (0, 0)) := (hgr1.block vb hvl (by simp)).trans hvb
  have hsrc1 : W1.heap[g]? = some (.cells cur 32 (0, 0)) := (hgr1.block g hgl (by simp)).trans hg
  have hcp1 : ∀ ty, (Builtin.copy_ #[27, 27] ty #[.slice (some ⟨w.heap.size, i * 2, none⟩) (n + 1 - i) (G - i), .slice (some ⟨vb, 0, none⟩) 1 1]).run Tryd.prog W1 = .ok (goInt (Nat.min 1 (n + 1 - i))) (W1.setRow w.heap.size (R.toList.take (i * 2) ++ ptVals p ++ R.toList.drop (i * 2 + (ptVals p).length)).toArray) := fun ty =>
    run_copy_wide W1 _ _ ty 32 2 w.heap.size (i * 2) (n + 1 - i) _ ⟨vb, 0, none⟩ 1 1 R 32 (ptVals p) Tryd.underlying27 hsz hg1
      (by rw [show Nat.min 1 (n + 1 - i) = 1 from Nat.min_eq_left (by omega)]; rfl)
      (onePt_cells hv1) (by have : R.size = G * 2 := by simpa using hRl
                            simp [ptVals, this]; omega) (fun u hu => pts_one [p] u (by simpa using hu))
  have hdl : ((ps.flatMap ptVals).drop (i * 2)).length = n * 2 - i * 2 := by rw [List.length_drop, hxl]
  have hS := grow_list (R := R.toList) (ys := (ps.flatMap ptVals).take (i * 2)) (ds := (ps.flatMap ptVals).drop (i * 2)) (pv := ptVals p) (I := i * 2) (N := n * 2) hRt (by rw [List.length_take, hxl]; omega) hdl (by omega) (by rw [hRl]; omega) rfl
  obtain ⟨A1, hA1⟩ : ∃ A1, (R.toList.take (i * 2) ++ ptVals p ++ R.toList.drop (i * 2 + (ptVals p).length)) = A1 := ⟨_, rfl⟩
  rw [hA1] at hcp1 hS
  rw [hRl] at hS
  obtain ⟨W2, hW2⟩ : ∃ W2, (W1.setRow w.heap.size A1.toArray).drew = W2 := ⟨_, rfl⟩
  have hg2 : W2.heap[w.heap.size]? = some (.cells A1.toArray 32 (0, 0)) := by rw [← hW2]; exact setRow_heap W1 w.heap.size R _ _ _ hg1
  have hgr2 : W1.grownBy W2 (some w.heap.size) := by rw [← hW2]; exact grown_trans (grown_setRow _ _ _) (grown_drew _ _)
  have hsrc2 : W2.heap[g]? = some (.cells cur 32 (0, 0)) := (hgr2.block g (Nat.lt_of_lt_of_le hgl hgr1.size) (fun e => by injection e with e; omega)).trans hsrc1
  have hcp2 : ∀ ty, (Builtin.copy_ #[27, 27] ty #[.slice (some ⟨w.heap.size, (i + 1) * 2, none⟩) (n - i) (G - (i + 1)), .slice (some ⟨g, i * 2, none⟩) (n - i) (c - i)]).run Tryd.prog W2 = .ok (goInt (Nat.min (n - i) (n - i))) (W2.setRow w.heap.size (A1.take ((i + 1) * 2) ++ (ps.flatMap ptVals).drop (i * 2) ++ A1.drop ((i + 1) * 2 + ((ps.flatMap ptVals).drop (i * 2)).length)).toArray) := fun ty =>
    run_copy_wide W2 _ _ ty 32 2 w.heap.size ((i + 1) * 2) (n - i) _ ⟨g, i * 2, none⟩ (n - i) _ A1.toArray 32 ((ps.flatMap ptVals).drop (i * 2)) Tryd.underlying27 hsz hg2
      (by rw [hdl, show Nat.min (n - i) (n - i) = n - i from Nat.min_self _]; omega)
      (fun j v hj => by
        rw [addr_add]
        refine (cell_of_row _ _ (i * 2 + j) _ 32 (0, 0) hsrc2).trans ?_
        rw [List.getElem?_drop, ← hx, List.getElem?_take] at hj
        split at hj
        · rw [← hj]
          simp
        · cases hj)
      (by rw [hdl]; have := hS.2.2; simp only [List.size_toArray]; omega) (fun v hv => pts_one ps v (List.mem_of_mem_drop hv))
  rw [show i * 2 + 2 = (i + 1) * 2 by omega] at hS
  obtain ⟨A2, hA2⟩ : ∃ A2, (A1.take ((i + 1) * 2) ++ (ps.flatMap ptVals).drop (i * 2) ++ A1.drop ((i + 1) * 2 + ((ps.flatMap ptVals).drop (i * 2)).length)) = A2 := ⟨_, rfl⟩
  rw [hA2] at hcp2 hS
  have HF : Hid (RowP (W2.setRow w.heap.size A2.toArray) base (.slice (some ⟨w.heap.size, 0, none⟩) (n + 1) G) (putAt ps i p)) := by
    refine ⟨?_, .inr ⟨w.heap.size, G, A2.toArray, ?_, hbw, setRow_heap W2 w.heap.size _ _ _ _ hg2, ?_, hG63, ?_, ?_⟩⟩
    · rw [pts_len]
    · rw [putAt_len (by omega), hpl]
    · rw [putAt_len (by omega), hpl]
      exact hGn
    · simp [hS.2.1]
    · rw [putAt_len (by omega), hpl, putAt_vals, show (n + 1) * 2 = n * 2 + 2 by omega]
      exact hS.1
  have HG2 : Hid (w.grownBy (W2.setRow w.heap.size A2.toArray) (some g)) := by
    have h3 := grown_setRow W2 w.heap.size A2.toArray
    have h2s := hgr2.size
    have h1s := hgr1.size
    exact Lib.hid ⟨h3.os.trans (hgr2.os.trans hgr1.os), h3.tape.trans (hgr2.tape.trans hgr1.tape), h3.output.trans (hgr2.output.trans hgr1.output), Nat.le_trans h1s (Nat.le_trans h2s h3.size), fun k hk _ =>
      (h3.block k (by omega) (fun e => by injection e with e; omega)).trans ((hgr2.block k (by omega) (fun e => by injection e with e; omega)).trans (hgr1.block k hk (by simp)))⟩
  have hb4 : ¬ (c = i) := by omega
  have hG4 : ¬ (G = i) := by omega
  have hG5 : ¬ (G = i + 1) := by omega
  have hin : i ≤ n := by omega
  have hb3 : (i : Int) ≤ (n : Int) + 1 := by omega
  have hwi : IntKind.i64.wrap ((i : Int) + 1) = (i : Int) + 1 := by rw [IntKind.wrap_i64]; omega
  clear hS hA1 hA2 hg1 hgr1 hv1 hxl hdl hx hg hvb hcell hold hkk hik hRe hRl hRt hsrc1 hsrc2 hg2 hgr2 hG hi0 hz0 hzs hzb hsz
  go_enter Tryd.func31, Tryd.ntmps31
  go_wp2_with (first
    | (at_builtin; refine Lib.wpList_append_run _ rfl _ _ _ _ rfl _ _ rfl rfl _ _ (hrz _) ?_)
    | (at_builtin; refine wpList_copy_wide _ rfl _ _ _ _ rfl _ _ rfl rfl (hcp1 _) ?_))
  refine wp_region_slots 8 [[(9, false)], [(1, false)], [(7, false)], [(47, true), (48, true)], [(46, true), (49, true)], [(0, false)], [(1, false)], [(51, true), (52, true)]] (fun w' => w' = W2) (fun w w' => w' = w) (by kernel_rfl) (by kernel_rfl) (by rfl) hW2 (fun w w' h1 h2 => h2.trans h1) ?_
  iterate 8 (apply slot_eq; · (rintro ρ w' ⟨p1, p2, p3⟩ rfl hn; simp at hn; go_simp; exact ⟨rfl, rfl⟩))
  refine slot_end ?_
  rintro tv w4 rfl hF
  simp at hF
  obtain ⟨f53, f52, f51, f50, f49, f48, f47, f46⟩ := hF
  simp only [List.take_succ_cons, List.take_zero, List.drop_succ_cons, List.drop_zero, putAll, f53, f52, f51, f50, f49, f48, f47, f46]
  clear f53 f52 f51 f50 f49 f48 f47 f46
  simp only [Act.put, List.setIfInBounds_toArray, List.set_cons_succ, List.set_cons_zero]
  refine wpList_copy_wide _ rfl _ _ _ _ rfl _ _ rfl rfl (hcp2 _) ?_
  simp only [Act.put, List.setIfInBounds_toArray, List.set_cons_succ, List.set_cons_zero]
  go_wp2
  go_ret
  exact ⟨_, rfl, HF.out, HG2.out⟩

set_option maxRecDepth 100000 in
/-- All roads. -/
theorem insert_any (v : Value) (ps : List Pt) (i vb : Nat) (p : Pt) (base : Nat) (w : World) (hi : i ≤ ps.length) (hn : ps.length ≤ 1000) (hrow : RowP w base v ps) (hvb : w.heap[vb]? = some (.cells #[.int .i64 p.t, .int .i64 p.n] 32 (0, 0))) (hne : some vb ≠ v.ownBlock) (hb : base ≤ w.heap.size) :
    Calls Tryd.prog 31 #[v, .int .i64 (i : Int), .slice (some ⟨vb, 0, none⟩) 1 1] w fun e w' => ∃ v', e = .returned v' ∧ RowP w' base v' (putAt ps i p) ∧ w.grownBy w' v.ownBlock := by
  by_cases he : i = ps.length
  · subst he
    exact insert_end v ps vb p base w hn hrow hvb hb
  · rcases hrow.2 with ⟨_, h0⟩ | ⟨g, cap, cur, rfl, h2, h3, h4, h5, h6, h7⟩
    · omega
    · by_cases hroom : ps.length + 1 ≤ cap
      · exact insert_shift g ps.length cap i vb ps p cur base w (by omega) hn hroom h5 rfl h3 h6 h7 h2 hvb (fun e => hne (by rw [e]; rfl))
      · exact insert_grow g ps.length cap i vb ps p cur base w (by omega) hn h4 (by omega) rfl h3 h7 hb hvb

end Go.Proofs.YtofejfmfbifphacDoor
