/- The contract of slices.Insert at rows of points, one point put in. -/
import Derived.Test.YtofejfmfbifphacDoorRingRow
import Derived.Test.YtofejfmfbifphacDoorSlots
import Derived.Lib.Overlaps
import Derived.Lib.AppendZerosOnto
import Derived.Laws.Externs
namespace Go.Proofs.YtofejfmfbifphacDoor
open Go.ChangeShapes Go.WideShapes Go.ChangeAt Go.RowKit Go.Joins

set_option maxRecDepth 100000 in
theorem onePt_cells {w : World} {vb : Nat} {p : Pt} {t : TypeId} (hvb : w.heap[vb]? = some (.cells #[.int .i64 p.t, .int .i64 p.n] t (0, 0))) : ∀ j u, (ptVals p)[j]? = some u → w.cell? ((⟨vb, 0, none⟩ : Addr).add j) = some u := by
  intro j u hu
  rw [addr_add, Nat.zero_add, cell_of_row _ _ j _ t (0, 0) hvb, ← hu]
  simp [ptVals]

def putAt (ps : List Pt) (i : Nat) (p : Pt) : List Pt := ps.take i ++ p :: ps.drop i

set_option maxRecDepth 100000 in
theorem putAt_end (ps : List Pt) (p : Pt) : putAt ps ps.length p = ps ++ [p] := by simp [putAt]

set_option maxRecDepth 100000 in
theorem putAt_len {ps : List Pt} {i : Nat} (h : i ≤ ps.length) (p : Pt) : (putAt ps i p).length = ps.length + 1 := by
  simp [putAt]
  omega

set_option maxRecDepth 100000 in
theorem putAt_vals (ps : List Pt) (i : Nat) (p : Pt) : (putAt ps i p).flatMap ptVals = (ps.flatMap ptVals).take (i * 2) ++ ptVals p ++ (ps.flatMap ptVals).drop (i * 2) := by
  unfold putAt
  rw [List.flatMap_append, List.flatMap_cons, ← List.append_assoc, pts_take, pts_drop]

set_option maxRecDepth 100000 in
set_option maxHeartbeats 4000000 in
theorem insert_end (v : Value) (ps : List Pt) (vb : Nat) (p : Pt) (base : Nat) (w : World) (hn : ps.length ≤ 1000) (hrow : RowP w base v ps) (hvb : w.heap[vb]? = some (.cells #[.int .i64 p.t, .int .i64 p.n] 32 (0, 0))) (hb : base ≤ w.heap.size) :
    Calls Tryd.prog 31 #[v, .int .i64 (ps.length : Int), .slice (some ⟨vb, 0, none⟩) 1 1] w fun e w' => ∃ v', e = .returned v' ∧ RowP w' base v' (putAt ps ps.length p) ∧ w.grownBy w' v.ownBlock := by
  obtain ⟨i0, hi0, hx0⟩ := Option.map_eq_some_iff.1 infoPt
  simp only [Prod.mk.injEq] at hx0
  have HI0 := Lib.hid hi0
  have HX0 := Lib.hid hx0
  have HR := Lib.hid hrow
  have HC := Lib.hid (onePt_cells hvb)
  have HE : Hid ((putAt ps ps.length p) = ps ++ [p]) := putAt_end ps p
  have hlv : (ps.flatMap ptVals).length = ps.length * 2 := pts_len ps
  obtain ⟨a, cap, rfl, ho⟩ := hrow.form
  clear hi0 hx0 hrow hvb
  have hcap : ps.length ≤ cap := by
    rcases HR.out.2 with ⟨h1, _⟩ | ⟨g, cap', cur, h1, _, _, h2, _⟩
    · injection h1 with _ h1 h2
      omega
    · injection h1 with _ _ h1
      omega
  have hnil : a = none → ps.length = 0 := fun e => by
    subst e
    rcases HR.out.2 with ⟨_, h1⟩ | ⟨g, cap', cur, h1, _⟩
    · exact h1
    · injection h1 with h1
      cases h1
  clear ho
  have HP : Hid (∀ u ∈ ptVals p, u.oneCell' = true) := fun u hu => pts_one [p] u (by simpa using hu)
  obtain ⟨n, hnn⟩ : ∃ n, ps.length = n := ⟨_, rfl⟩
  have HL := Lib.hid hnn
  unfold RowP at HR
  rw [hnn] at HR HE hn hcap hnil hlv ⊢
  clear hnn hlv
  cases a with
  | none =>
    obtain rfl := hnil rfl
    have hc0 : cap = 0 := by
      rcases HR.out.2 with ⟨h1, _⟩ | ⟨g, cap', cur, h1, _⟩
      · injection h1 with _ _ h1
      · injection h1 with h1
        cases h1
    subst hc0
    clear hnil hcap
    go_enter Tryd.func31, Tryd.ntmps31
    go_wp2_with (at_builtin; refine wpList_append_lies _ (by rfl) _ _ _ (by rfl) base 32 i0 (ptV 0 0) 2 16 Tryd.underlying27 HI0.out HX0.out.1 HX0.out.2.1 HX0.out.2.2 (by rfl) (by omega) (.slice none 0 0) 0 (ps.flatMap ptVals) (by rfl) HR.out ⟨vb, 0, none⟩ 1 1 (ptVals p) (by rfl) (by rfl) HC.out HP.out (by omega) (by unfold maxLen; omega) (by omega) (by omega) _ rfl ?_; intro g3 cp3 w5 hown hgrow hg3 _; refine Hid.out ?_)
    refine Lib.hid ?_
    have HR5 : Hid (RowP w5 base (.slice (some ⟨g3, 0, none⟩) (0 + 1) cp3) (ps ++ [p])) := by
      unfold RowP
      rw [List.length_append, List.flatMap_append, HL.out]
      refine Lib.hid ?_
      simpa using hown
    have HG5 := Lib.hid hgrow
    clear hown hgrow
    go_wp2
    go_ret
    exact ⟨_, rfl, by rw [HE.out]; exact HR5.out, HG5.out⟩
  | some a =>
    clear hnil
    by_cases hcn : cap = n
    · subst hcn
      clear hcap
      go_enter Tryd.func31, Tryd.ntmps31
      go_wp2_with (at_builtin; refine wpList_append_lies _ (by rfl) _ _ _ (by rfl) base 32 i0 (ptV 0 0) 2 16 Tryd.underlying27 HI0.out HX0.out.1 HX0.out.2.1 HX0.out.2.2 (by rfl) (by omega) (.slice (some a) cap cap) cap (ps.flatMap ptVals) (by rfl) HR.out ⟨vb, 0, none⟩ 1 1 (ptVals p) (by rfl) (by rfl) HC.out HP.out (by omega) (by unfold maxLen; omega) (by omega) (by omega) _ rfl ?_; intro g3 cp3 w5 hown hgrow hg3 _; refine Hid.out ?_)
      refine Lib.hid ?_
      have HR5 : Hid (RowP w5 base (.slice (some ⟨g3, 0, none⟩) (cap + 1) cp3) (ps ++ [p])) := by
        unfold RowP
        rw [List.length_append, List.flatMap_append, HL.out]
        refine Lib.hid ?_
        simpa using hown
      have HG5 := Lib.hid hgrow
      clear hown hgrow
      go_wp2
      go_ret
      exact ⟨_, rfl, by rw [HE.out]; exact HR5.out, HG5.out⟩
    · go_enter Tryd.func31, Tryd.ntmps31
      go_wp2_with (at_builtin; refine wpList_append_lies _ (by rfl) _ _ _ (by rfl) base 32 i0 (ptV 0 0) 2 16 Tryd.underlying27 HI0.out HX0.out.1 HX0.out.2.1 HX0.out.2.2 (by rfl) (by omega) (.slice (some a) n cap) n (ps.flatMap ptVals) (by rfl) HR.out ⟨vb, 0, none⟩ 1 1 (ptVals p) (by rfl) (by rfl) HC.out HP.out (by omega) (by unfold maxLen; omega) (by omega) (by omega) _ rfl ?_; intro g3 cp3 w5 hown hgrow hg3 _; refine Hid.out ?_)
      refine Lib.hid ?_
      have HR5 : Hid (RowP w5 base (.slice (some ⟨g3, 0, none⟩) (n + 1) cp3) (ps ++ [p])) := by
        unfold RowP
        rw [List.length_append, List.flatMap_append, HL.out]
        refine Lib.hid ?_
        simpa using hown
      have HG5 := Lib.hid hgrow
      clear hown hgrow
      go_wp2
      go_ret
      exact ⟨_, rfl, by rw [HE.out]; exact HR5.out, HG5.out⟩

set_option maxRecDepth 100000 in
theorem shift_list {cur xs pv : List Value} {I N : Nat} (hx : cur.take N = xs) (hI : I ≤ N) (hl : N + 2 ≤ cur.length) (hp : pv.length = 2) :
    ((cur.take (I + 2) ++ xs.drop I ++ cur.drop (I + 2 + (xs.drop I).length)).take I ++ pv ++ (cur.take (I + 2) ++ xs.drop I ++ cur.drop (I + 2 + (xs.drop I).length)).drop (I + pv.length)).take (N + 2) = xs.take I ++ pv ++ xs.drop I ∧
    ((cur.take (I + 2) ++ xs.drop I ++ cur.drop (I + 2 + (xs.drop I).length)).take I ++ pv ++ (cur.take (I + 2) ++ xs.drop I ++ cur.drop (I + 2 + (xs.drop I).length)).drop (I + pv.length)).length = cur.length := by
  have hxl : xs.length = N := by rw [← hx, List.length_take]; omega
  have e1 : (cur.take (I + 2) ++ xs.drop I ++ cur.drop (I + 2 + (xs.drop I).length)).take I = xs.take I := by
    rw [List.append_assoc, List.take_append_of_le_length (by rw [List.length_take]; omega), List.take_take, ← hx, List.take_take]
    congr 1
    omega
  have e2 : (cur.take (I + 2) ++ xs.drop I ++ cur.drop (I + 2 + (xs.drop I).length)).drop (I + pv.length) = xs.drop I ++ cur.drop (I + 2 + (xs.drop I).length) := by
    rw [hp, List.append_assoc, List.drop_append, List.drop_eq_nil_of_le (by rw [List.length_take]; omega), List.nil_append, List.length_take, show I + 2 - min (I + 2) cur.length = 0 by omega, List.drop_zero]
  rw [e1, e2]
  have hdl : (xs.drop I).length = N - I := by rw [List.length_drop, hxl]
  constructor
  · rw [← List.append_assoc, List.take_append_of_le_length (by simp [hp, hxl]; omega), List.take_of_length_le (by simp [hp, hxl]; omega)]
  · simp [hp, hxl]
    omega

set_option maxRecDepth 100000 in
set_option maxHeartbeats 4000000 in
theorem insert_shift (g n c i vb : Nat) (ps : List Pt) (p : Pt) (cur : Array Value) (base : Nat) (w : World) (hi : i < n) (hn : n ≤ 1000) (hroom : n + 1 ≤ c) (hc63 : c ≤ 9223372036854775807) (hpl : ps.length = n) (hg : w.heap[g]? = some (.cells cur 32 (0, 0))) (hcz : cur.size = c * 2) (hx : cur.toList.take (n * 2) = ps.flatMap ptVals) (hbg : base ≤ g)
    (hvb : w.heap[vb]? = some (.cells #[.int .i64 p.t, .int .i64 p.n] 32 (0, 0))) (hne : vb ≠ g) :
    Calls Tryd.prog 31 #[.slice (some ⟨g, 0, none⟩) n c, .int .i64 (i : Int), .slice (some ⟨vb, 0, none⟩) 1 1] w fun e w' => ∃ v', e = .returned v' ∧ RowP w' base v' (putAt ps i p) ∧ w.grownBy w' (some g) := by
  have hz2 : ¬ ((i : Int) = (n : Int)) := by omega
  have hsz : (Tryd.prog.info? 32).map (·.size) = some 2 := by
    obtain ⟨i0, hi0, hx0⟩ := Option.map_eq_some_iff.1 infoPt
    simp only [Prod.mk.injEq] at hx0
    rw [hi0]
    simp [hx0.2.1]
  have hov : ∀ lb cb, (callFunc 37 #[.slice (some ⟨vb, 0, none⟩) 1 1, .slice (some ⟨g, (i + 1) * 2, none⟩) lb cb]).run Tryd.prog w = .ok (.value (.bool false)) w := fun lb cb => by
    rw [run_callFunc_extern Tryd.func37 (by kernel_rfl) (by kernel_rfl) (by kernel_rfl) (e := Extern.SlicesOverlaps.overlaps #[27, 27] #[4]) (by kernel_rfl),
      Lib.run_overlaps_apart w 27 4 32 Tryd.underlying27 2 (fun _ => by kernel_rfl) ⟨vb, 0, none⟩ ⟨g, (i + 1) * 2, none⟩ 1 1 lb cb hne 32 32 2 (c * 2) (by simp [World.shape?, hvb]) (by simp [World.shape?, hg, hcz]) (by omega) (by simp [World.frozen?, hvb]) (by simp [World.frozen?, hvb])]
    rfl
  have hb2 : ¬ (c = i + 1) := by omega
  have hb3 : (i : Int) ≤ (n : Int) + 1 := by omega
  have hb4 : ¬ (c = i) := by omega
  have hin : i ≤ n := by omega
  have HG := Lib.hid hg
  have HV := Lib.hid hvb
  go_enter Tryd.func31, Tryd.ntmps31
  go_wp2_with (simp only [hov])
  have hwi : IntKind.i64.wrap ((i : Int) + 1) = (i : Int) + 1 := by rw [IntKind.wrap_i64]; omega
  refine wp_region_slots 8 [[(0, false)], [(1, false)], [(7, false)], [(70, true), (71, true)], [(69, true), (72, true)], [(0, false)], [(1, false)], [(74, true), (75, true)]] (fun w' => w' = w.drew) (fun w w' => w' = w) (by kernel_rfl) (by kernel_rfl) (by rfl) rfl (fun w w' h1 h2 => h2.trans h1) ?_
  iterate 8 (apply slot_eq; · (rintro ρ w' ⟨p1, p2, p3⟩ rfl hn; simp at hn; go_simp; exact ⟨rfl, rfl⟩))
  refine slot_end ?_
  rintro tv w4 rfl hF
  simp at hF
  obtain ⟨f76, f75, f74, f73, f72, f71, f70, f69⟩ := hF
  have hxl : (ps.flatMap ptVals).length = n * 2 := by rw [pts_len, hpl]
  have hdl : ((ps.flatMap ptVals).drop (i * 2)).length = (n - i) * 2 := by rw [List.length_drop, hxl]; omega
  have hcp1 : ∀ ty, (Builtin.copy_ #[27, 27] ty #[.slice (some ⟨g, (i + 1) * 2, none⟩) (n - i) (c - (i + 1)), .slice (some ⟨g, i * 2, none⟩) (n + 1 - i) (c - i)]).run Tryd.prog w.drew = .ok (goInt (Nat.min (n + 1 - i) (n - i))) (w.drew.setRow g (cur.toList.take ((i + 1) * 2) ++ (ps.flatMap ptVals).drop (i * 2) ++ cur.toList.drop ((i + 1) * 2 + ((ps.flatMap ptVals).drop (i * 2)).length)).toArray) := fun ty =>
    run_copy_wide w.drew _ _ ty 32 2 g ((i + 1) * 2) (n - i) _ ⟨g, i * 2, none⟩ (n + 1 - i) _ cur 32 ((ps.flatMap ptVals).drop (i * 2)) Tryd.underlying27 hsz HG.out
      (by rw [hdl, show Nat.min (n + 1 - i) (n - i) = n - i from Nat.min_eq_right (by omega)])
      (fun j v hj => by
        rw [addr_add]
        refine (cell_of_row _ _ (i * 2 + j) _ 32 (0, 0) HG.out).trans ?_
        rw [List.getElem?_drop, ← hx, List.getElem?_take] at hj
        split at hj
        · rw [← hj]
          simp
        · cases hj)
      (by rw [hdl]; omega) (fun v hv => pts_one ps v (List.mem_of_mem_drop hv))
  obtain ⟨A1, hA1⟩ : ∃ A1, (cur.toList.take ((i + 1) * 2) ++ (ps.flatMap ptVals).drop (i * 2) ++ cur.toList.drop ((i + 1) * 2 + ((ps.flatMap ptVals).drop (i * 2)).length)) = A1 := ⟨_, rfl⟩
  have hA1l : A1.length = c * 2 := by
    rw [← hA1]
    simp only [List.length_append, List.length_take, List.length_drop, hxl, Array.length_toList, hcz]
    omega
  rw [hA1] at hcp1
  obtain ⟨W1, hW1⟩ : ∃ W1, w.drew.setRow g A1.toArray = W1 := ⟨_, rfl⟩
  have hg1 : W1.heap[g]? = some (.cells A1.toArray 32 (0, 0)) := by rw [← hW1]; exact setRow_heap w.drew g cur _ _ _ HG.out
  have hgr1 : w.grownBy W1 (some g) := by rw [← hW1]; exact grown_trans (grown_drew w _) (grown_setRow _ _ _)
  have hv1 : W1.heap[vb]? = some (.cells #[.int .i64 p.t, .int .i64 p.n] 32 (0, 0)) := (hgr1.block vb (Array.getElem?_eq_some_iff.1 HV.out).1 (fun e => hne (by injection e))).trans HV.out
  rw [hW1] at hcp1
  have hcp2 : ∀ ty, (Builtin.copy_ #[27, 27] ty #[.slice (some ⟨g, i * 2, none⟩) (n + 1 - i) (c - i), .slice (some ⟨vb, 0, none⟩) 1 1]).run Tryd.prog W1 = .ok (goInt (Nat.min 1 (n + 1 - i))) (W1.setRow g (A1.take (i * 2) ++ ptVals p ++ A1.drop (i * 2 + (ptVals p).length)).toArray) := fun ty =>
    run_copy_wide W1 _ _ ty 32 2 g (i * 2) (n + 1 - i) _ ⟨vb, 0, none⟩ 1 1 A1.toArray 32 (ptVals p) Tryd.underlying27 hsz hg1
      (by rw [show Nat.min 1 (n + 1 - i) = 1 from Nat.min_eq_left (by omega)]; rfl)
      (onePt_cells hv1) (by simp [ptVals, hA1l]; omega) (fun u hu => pts_one [p] u (by simpa using hu))
  obtain ⟨A2, hA2⟩ : ∃ A2, (A1.take (i * 2) ++ ptVals p ++ A1.drop (i * 2 + (ptVals p).length)) = A2 := ⟨_, rfl⟩
  have hS := shift_list (cur := cur.toList) (xs := ps.flatMap ptVals) (pv := ptVals p) (I := i * 2) (N := n * 2) hx (by omega) (by simp [hcz]; omega) rfl
  have hcl : cur.toList.length = c * 2 := by simpa using hcz
  rw [show i * 2 + 2 = (i + 1) * 2 by omega, hA1, hA2, hcl] at hS
  rw [hA2] at hcp2
  have HF : Hid (RowP (W1.setRow g A2.toArray) base (.slice (some ⟨g, 0, none⟩) (n + 1) c) (putAt ps i p)) := by
    refine ⟨?_, .inr ⟨g, c, A2.toArray, ?_, hbg, setRow_heap W1 g _ _ _ _ hg1, ?_, hc63, ?_, ?_⟩⟩
    · rw [pts_len]
    · rw [putAt_len (by omega), hpl]
    · rw [putAt_len (by omega), hpl]
      exact hroom
    · simp [hS.2]
    · rw [putAt_len (by omega), hpl, putAt_vals, show (n + 1) * 2 = n * 2 + 2 by omega]
      exact hS.1
  have HG2 : Hid (w.grownBy (W1.setRow g A2.toArray) (some g)) := grown_trans hgr1 (grown_setRow _ _ _)
  clear hS hA1 hA2 hA1l hg1 hgr1 hv1 hW1 hxl hdl hx hcz hg hvb
  simp only [List.take_succ_cons, List.take_zero, List.drop_succ_cons, List.drop_zero, putAll, f76, f75, f74, f73, f72, f71, f70, f69]
  clear f76 f75 f74 f73 f72 f71 f70 f69
  simp only [Act.put, List.setIfInBounds_toArray, List.set_cons_succ, List.set_cons_zero]
  refine wpList_copy_wide _ rfl _ _ _ _ rfl _ _ rfl rfl (hcp1 _) ?_
  simp only [Act.put, List.setIfInBounds_toArray, List.set_cons_succ, List.set_cons_zero]
  go_wp2_with (at_builtin; refine wpList_copy_wide _ rfl _ _ _ _ rfl _ _ rfl rfl (hcp2 _) ?_)
  go_ret
  exact ⟨_, rfl, HF.out, HG2.out⟩

end Go.Proofs.YtofejfmfbifphacDoor
