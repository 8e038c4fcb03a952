import Derived.Test.YtomndnopbpbblaaPack6
import Derived.Test.YtomndnopbpbblaaPack5
import Derived.Test.YtomndnopbpbblaaPack1
import Derived.Deep.Upon
import Derived.Test.YtomndnopbpbblaaPack10
/- A queue of dependencies: a row that is read from its front and grows at its end; slices.Clone. -/
namespace Go.Proofs.Ytomndnopbpbblaa
open Go.ChangeShapes Go.WideShapes Go.ChangeAt Go.RowKit Go.Joins
attribute [local go_sem ↓] Go.wp_at_zero Go.wp_at_succ

theorem dps_len : ∀ ds : List Dp, (ds.flatMap dpVals).length = ds.length * 4
  | [] => rfl
  | d :: r => by
    rw [List.flatMap_cons, List.length_append, dps_len r]
    simp [dpVals]
    omega

theorem dps_one (ds : List Dp) : ∀ u ∈ ds.flatMap dpVals, u.oneCell' = true := by
  intro u hu
  obtain ⟨d, _, h⟩ := List.mem_flatMap.1 hu
  exact dp_one d u h

/-- A slice of dependencies in a row from lo on, from whatever place of it; behind it there is its room. -/
def QRow (w : World) (lo : Nat) (v : Value) (ds : List Dp) : Prop :=
  (v = .slice none 0 0 ∧ ds = []) ∨ ∃ g o cap cur, v = .slice (some ⟨g, o, none⟩) ds.length cap ∧ lo ≤ g ∧ w.heap[g]? = some (.cells cur 55 (0, 0)) ∧ o + cap * 4 ≤ cur.size ∧ ds.length ≤ cap ∧ cap ≤ maxLen ∧ (cur.toList.drop o).take (ds.length * 4) = ds.flatMap dpVals

theorem QRow.keep {w w' : World} {lo : Nat} {v : Value} {ds : List Dp} (h : QRow w lo v ds) (hb : ∀ g, v.ownBlock = some g → w'.heap[g]? = w.heap[g]?) : QRow w' lo v ds := by
  rcases h with h | ⟨g, o, cap, cur, rfl, h1, h2, h3⟩
  · exact .inl h
  · exact .inr ⟨g, o, cap, cur, rfl, h1, (hb g rfl).trans h2, h3⟩

theorem QRow.lt {w : World} {lo : Nat} {v : Value} {ds : List Dp} (h : QRow w lo v ds) : ∀ g, v.ownBlock = some g → lo ≤ g ∧ g < w.heap.size := fun g hg => by
  rcases h with ⟨rfl, _⟩ | ⟨g', o, cap, cur, rfl, h1, h2, h3⟩
  · simp [Value.ownBlock] at hg
  · have e : g' = g := by simpa [Value.ownBlock] using hg
    subst e
    exact ⟨h1, (Array.getElem?_eq_some_iff.1 h2).1⟩

theorem QRow.form {w : World} {lo : Nat} {v : Value} {ds : List Dp} (h : QRow w lo v ds) : ∃ a cap, v = .slice a ds.length cap := by
  rcases h with ⟨rfl, rfl⟩ | ⟨g', o, cap, cur, rfl, _⟩
  · exact ⟨none, 0, rfl⟩
  · exact ⟨_, cap, rfl⟩

theorem que_list {cur news : List Value} {o k m : Nat} {xs : List Value} (hx : (cur.drop o).take k = xs) (hl : o + k + m ≤ cur.length) (hm : news.length = m) :
    ((cur.take (o + k) ++ news ++ cur.drop (o + k + news.length)).drop o).take (k + m) = xs ++ news ∧ (cur.take (o + k) ++ news ++ cur.drop (o + k + news.length)).length = cur.length := by
  have h1 : (cur.take (o + k)).drop o = xs := by
    rw [List.drop_take, show o + k - o = k by omega]
    exact hx
  have hxl : xs.length = k := by rw [← hx, List.length_take, List.length_drop]; omega
  constructor
  · rw [List.append_assoc, List.drop_append_of_le_length (by rw [List.length_take]; omega), h1, ← List.append_assoc, List.take_append_of_le_length (by rw [List.length_append, hxl, hm]; exact Nat.le_refl _), List.take_of_length_le (by rw [List.length_append, hxl, hm]; exact Nat.le_refl _)]
  · simp only [List.length_append, List.length_take, List.length_drop]
    omega

theorem run_append_roomO {P : Program} (w : World) (t ty e : TypeId) (i : TypeInfo) (ht : P.underlying t = some (.slice e)) (hi : P.info? e = some i)
    (g o sLen sCap : Nat) (cur : Array Value) (hg : w.heap[g]? = some (.cells cur e (0, 0)))
    (a : Addr) (m c : Nat) (news : List Value) (hl : news.length = m * i.size) (hnews : ∀ j u, news[j]? = some u → w.cell? (a.add j) = some u) (h1 : ∀ u ∈ news, u.oneCell' = true)
    (hroom : sLen + m ≤ sCap) (hfit : o + sLen * i.size + news.length ≤ cur.size) :
    (Builtin.append_ #[t, t] ty #[.slice (some ⟨g, o, none⟩) sLen sCap, .slice (some a) m c]).run P w =
      .ok (.slice (some ⟨g, o, none⟩) (sLen + m) sCap) (w.setRow g (cur.toList.take (o + sLen * i.size) ++ news ++ cur.toList.drop (o + sLen * i.size + news.length)).toArray) := by
  have hf := run_firstCells_some (P := P) w i.size m a m c news hl hnews
  have hst := run_storeCells_at P g (o + sLen * i.size) e news 0 cur w hg (by simpa using hfit) h1
  simp only [Nat.add_zero] at hst
  simp [Builtin.append_, run_underlying ht, sizeOf, typeInfo, hi, Builtin.lenOf, hroom, hf, addr_addW, hst]

theorem holds_vals {w : World} {b o : Nat} {xs : List Dp} (h : HoldsDeps w b o xs) : ∀ j u, (xs.flatMap dpVals)[j]? = some u → w.cell? ((⟨b, o, none⟩ : Addr).add j) = some u := by
  intro j u hu
  have hj : j < xs.length * 4 := by
    rw [← dps_len]
    exact (List.getElem?_eq_some_iff.1 hu).1
  have e : j = j / 4 * 4 + j % 4 := by omega
  rw [e, dps_at xs (j / 4) (j % 4) (by omega) (by omega)] at hu
  obtain ⟨a0, a1, a2, a3⟩ := h (j / 4) (by omega)
  rw [addr_addW, e]
  have h4 : j % 4 = 0 ∨ j % 4 = 1 ∨ j % 4 = 2 ∨ j % 4 = 3 := by omega
  rcases h4 with h4 | h4 | h4 | h4
  · rw [h4] at hu ⊢
    rw [← hu]
    exact a0
  · rw [h4] at hu ⊢
    rw [← hu]
    exact a1
  · rw [h4] at hu ⊢
    rw [← hu]
    exact a2
  · rw [h4] at hu ⊢
    rw [← hu]
    exact a3

set_option maxRecDepth 100000 in
set_option maxHeartbeats 1000000 in
/-- Dependencies more at the queue's end. -/
theorem QRow.app {w : World} {lo : Nat} {v : Value} {ds : List Dp} (h : QRow w lo v ds) (ad : Option Addr) (cp : Nat) (xs : List Dp) (hx : IsDeps w ad xs) (hn : ds.length + xs.length ≤ 100000000) (hlo : lo ≤ w.heap.size) (ty : TypeId) :
    ∃ v' w', (Builtin.append_ #[35, 35] ty #[v, .slice ad xs.length cp]).run Try.prog w = .ok v' w' ∧ QRow w' lo v' (ds ++ xs) ∧ w.grownBy w' v.ownBlock ∧ NewOr w v v' := by
  obtain ⟨i, hi, hzz⟩ := Option.map_eq_some_iff.1 infoDep
  simp only [Prod.mk.injEq] at hzz
  obtain ⟨hz, hs, hby⟩ := hzz
  by_cases h0 : xs.length = 0
  · have hx0 : xs = [] := List.length_eq_zero_iff.1 h0
    subst hx0
    obtain ⟨a, cap, rfl⟩ := h.form
    have hsrc : Src Try.prog i.size 35 (.slice ad 0 cp) 0 [] w := by
      cases ad with
      | none => exact Src.ofNil w Try.underlying35 cp
      | some a => exact Src.ofSlice w Try.underlying35 a 0 cp [] (by simp) (fun j u hu => by simp at hu) (fun u hu => by simp at hu)
    refine ⟨_, _, run_append_nothing w _ _ ty 55 i Try.underlying35 hi a ds.length cap ?_ _ hsrc, by rw [List.append_nil]; exact h, ⟨rfl, rfl, rfl, Nat.le_refl _, fun _ _ _ => rfl⟩, fun g hg => .inl hg⟩
    rcases h with ⟨h1, h2⟩ | ⟨g, o, cap', cur, h1, h2, h3, h4, h5, h6⟩
    · injection h1 with _ e1 e2
      omega
    · injection h1 with _ e1 e2
      omega
  · rcases hx with hx | ⟨b, o', rfl, hlt, hh⟩
    · exact absurd (by rw [hx]; rfl) h0
    have hcells := holds_vals hh
    have hnl := dps_len xs
    have hone := dps_one xs
    rcases h with ⟨rfl, rfl⟩ | ⟨g, o, cap, cur, rfl, h1, h2, h3, h4, h5, h6⟩
    · have hr := run_append_nil (P := Try.prog) w 35 ty 55 i _ Try.underlying35 hi hz ⟨b, o', none⟩ xs.length cp (xs.flatMap dpVals) (by rw [hs]; exact hnl) hcells (by omega) (by simp at hn; omega) (by rw [hby]; simp at hn; omega)
      have hge := grownCap_ge w xs.length 0 55
      have hcm : grownCap w xs.length 0 55 ≤ maxLen := grownCap_le_maxLen w _ _ _ (by unfold maxLen; simp at hn; omega)
      refine ⟨_, _, hr, .inr ⟨w.heap.size, 0, _, _, rfl, hlo, heap_alloc_new w.drew _, ?_, hge, hcm, ?_⟩, ⟨rfl, rfl, rfl, by simp, fun k hk _ => Go.Deep.blk_alloc_lt w.drew _ k hk⟩, newOr_app (.inr rfl) _ _⟩
      · simp only [Array.size_append, List.size_toArray, size_zeroCells, hnl]
        simp [Value.cells]
        omega
      · rw [List.drop_zero, List.nil_append, Array.toList_append]
        rw [List.take_append_of_le_length (by simp [hnl])]
        rw [List.take_of_length_le (by simp [hnl])]
    · by_cases hroom : ds.length + xs.length ≤ cap
      · have hr := run_append_roomO (P := Try.prog) w 35 ty 55 i Try.underlying35 hi g o ds.length cap cur h2 ⟨b, o', none⟩ xs.length cp (xs.flatMap dpVals) (by rw [hs]; exact hnl) hcells hone hroom (by rw [hs, hnl]; omega)
        rw [hs] at hr
        have hcl : cur.toList.length = cur.size := by simp
        have hq := que_list (cur := cur.toList) (news := xs.flatMap dpVals) (o := o) (k := ds.length * 4) (m := xs.length * 4) h6 (by rw [hcl]; omega) hnl
        refine ⟨_, _, hr, .inr ⟨g, o, cap, _, by rw [List.length_append], h1, setRow_heap w g cur _ _ _ h2, ?_, by rw [List.length_append]; exact hroom, h5, ?_⟩, grown_setRow w g _, fun g' hg => .inl hg⟩
        · rw [List.size_toArray, hq.2, hcl]
          exact h3
        · rw [List.length_append, Nat.add_mul, List.flatMap_append]
          exact hq.1
      · have holds : ∀ j u, (ds.flatMap dpVals)[j]? = some u → w.cell? ((⟨g, o, none⟩ : Addr).add j) = some u := fun j u hu => by
          rw [addr_addW, cell_of_row w g (o + j) _ _ _ h2]
          rw [← h6, List.getElem?_take] at hu
          split at hu
          · rw [List.getElem?_drop] at hu
            simpa using hu
          · cases hu
        have hr := run_append_grow (P := Try.prog) w 35 ty 55 i _ Try.underlying35 hi hz ⟨g, o, none⟩ ds.length cap (ds.flatMap dpVals) (by rw [hs]; exact dps_len ds) holds ⟨b, o', none⟩ xs.length cp (xs.flatMap dpVals) (by rw [hs]; exact hnl) hcells (by omega) (by omega) (by rw [hby]; exact growslice_fits_wide (by omega) (by omega))
        have hge := grownCap_ge w (ds.length + xs.length) cap 55
        have hcm : grownCap w (ds.length + xs.length) cap 55 ≤ maxLen := grownCap_le_maxLen w _ _ _ (by unfold maxLen; omega)
        have hdl := dps_len ds
        refine ⟨_, _, hr, .inr ⟨w.heap.size, 0, _, _, by rw [List.length_append], hlo, heap_alloc_new w.drew _, ?_, by rw [List.length_append]; exact hge, hcm, ?_⟩, ⟨rfl, rfl, rfl, by simp, fun k hk _ => Go.Deep.blk_alloc_lt w.drew _ k hk⟩, newOr_app (.inr rfl) _ _⟩
        · simp only [Array.size_append, List.size_toArray, size_zeroCells, hnl, hdl]
          simp [Value.cells]
          omega
        · rw [List.drop_zero, Array.toList_append, Array.toList_append, List.flatMap_append]
          rw [List.take_append_of_le_length (by simp [hnl, hdl]; omega)]
          rw [List.take_of_length_le (by simp [hnl, hdl]; omega)]

/-- The first one. -/
theorem QRow.first {w : World} {lo : Nat} {v : Value} {d : Dp} {ds : List Dp} (h : QRow w lo v (d :: ds)) : ∃ g o cap, v = .slice (some ⟨g, o, none⟩) (ds.length + 1) cap ∧ ds.length + 1 ≤ cap ∧ cap ≤ maxLen ∧ g < w.heap.size ∧ w.cell? ⟨g, o, none⟩ = some (.int .i64 d.k) ∧ w.cell? ⟨g, o + 1, none⟩ = some (.int .i64 d.c) ∧ w.cell? ⟨g, o + 2, none⟩ = some (.int .i64 d.s) ∧ w.cell? ⟨g, o + 3, none⟩ = some (.int .i64 d.q) ∧
    (cap = 1 → QRow w lo (.slice (some ⟨g, o, none⟩) 0 0) ds) ∧ (cap ≠ 1 → QRow w lo (.slice (some ⟨g, o + 4, none⟩) ds.length (cap - 1)) ds) := by
  rcases h with ⟨_, h⟩ | ⟨g, o, cap, cur, rfl, h1, h2, h3, h4, h5, h6⟩
  · cases h
  · rw [List.length_cons] at h4 h6 ⊢
    have hc : ∀ c, c < 4 → w.cell? ⟨g, o + c, none⟩ = (dpVals d)[c]? := fun c hc => by
      rw [cell_of_row w g (o + c) _ _ _ h2]
      have e : ((cur.toList.drop o).take ((ds.length + 1) * 4))[c]? = (dpVals d)[c]? := by
        rw [h6, List.flatMap_cons, List.getElem?_append_left (by simp [dpVals]; omega)]
      rw [List.getElem?_take_of_lt (by omega), List.getElem?_drop] at e
      simpa using e
    refine ⟨g, o, cap, rfl, h4, h5, (Array.getElem?_eq_some_iff.1 h2).1, hc 0 (by omega), hc 1 (by omega), hc 2 (by omega), hc 3 (by omega), fun hcap => ?_, fun hcap => ?_⟩
    · have hd : ds = [] := List.length_eq_zero_iff.1 (by omega)
      subst hd
      exact .inr ⟨g, o, 0, cur, rfl, h1, h2, by omega, by simp, by simp [maxLen], by simp⟩
    · refine .inr ⟨g, o + 4, cap - 1, cur, rfl, h1, h2, by omega, by omega, by omega, ?_⟩
      have e : ((cur.toList.drop o).take ((ds.length + 1) * 4)).drop 4 = ds.flatMap dpVals := by
        rw [h6, List.flatMap_cons, List.drop_append_of_le_length (by simp [dpVals]), List.drop_eq_nil_of_le (by simp [dpVals])]
        rfl
      rw [List.drop_take, List.drop_drop, show (ds.length + 1) * 4 - 4 = ds.length * 4 by omega] at e
      exact e

set_option maxRecDepth 100000 in
theorem eqlIn_nilD (m : Nat) (a : Option Addr) (n c : Nat) (w : World) : (Op.equalIn (m + 1) 35 (.slice a n c) (.slice none 0 0)).run Try.prog w = .ok a.isNone w := by
  rw [Op.equalIn]
  cases a <;> simp [run_underlying Try.underlying35]

set_option maxRecDepth 100000 in
theorem eql_nilD (a : Option Addr) (n c : Nat) (w : World) : (binOp BinOp.eql 35 (.slice a n c) (.slice none 0 0)).run Try.prog w = .ok (.bool a.isNone) w := by
  obtain ⟨m, hm⟩ : ∃ m, Op.maxDepth = m + 1 := ⟨Op.maxDepth - 1, by decide +kernel⟩
  simp only [binOp, Op.equal, hm]
  rw [Sem.run_bind, eqlIn_nilD]
  rfl

set_option maxRecDepth 100000 in
set_option maxHeartbeats 2000000 in
theorem cloneD_any (ad : Option Addr) (n cp : Nat) (xs : List Dp) (w : World) (hn : xs.length = n) (hm : n ≤ 1048576) (hx : IsDeps w ad xs) :
    Calls Try.prog 48 #[.slice ad n cp] w fun e w' => ∃ v, e = .returned v ∧ QRow w' w.heap.size v xs ∧ Below w.heap.size w w' := by
  have HX := Lib.hid hx
  have HN := Lib.hid hn
  clear hx hn
  have hen := fun a n c w => eql_nilD a n c w
  cases ad with
  | none =>
    have HE : Hid (xs = []) := by
      rcases HX.out with h | ⟨b, o, h, _⟩
      · exact h
      · cases h
    go_enter Try.func48, Try.ntmps48
    go_wp2
    go_ret
    exact ⟨_, rfl, .inl ⟨rfl, HE.out⟩, Below.refl _ _⟩
  | some a =>
    have HB : Hid (Below w.heap.size w (w.alloc (.cells #[] 55))) := (Below.refl _ _).alloc (Nat.le_refl _) _
    have HQ : Hid (QRow (w.alloc (.cells #[] 55)) w.heap.size (.slice (some ⟨w.heap.size, 0, none⟩) 0 0) []) := .inr ⟨w.heap.size, 0, 0, #[], rfl, Nat.le_refl _, heap_alloc_new _ _, by simp, by simp, by simp [maxLen], by simp⟩
    have HR : Hid (∀ ty, ∃ v' w', (Builtin.append_ #[35, 35] ty #[.slice (some ⟨w.heap.size, 0, none⟩) 0 0, .slice (some a) n cp]).run Try.prog (w.alloc (.cells #[] 55)) = .ok v' w' ∧ QRow w' w.heap.size v' xs ∧ Below w.heap.size w w') := fun ty => by
      obtain ⟨v', w', h1, h2, h3, h4⟩ := HQ.out.app (some a) cp xs (HX.out.below HB.out) (by rw [HN.out]; simp; omega) (by simp) ty
      rw [HN.out] at h1
      rw [List.nil_append] at h2
      exact ⟨v', w', h1, h2, HB.out.grown h3 (by simp) fun k hk => by simp [Value.ownBlock] at hk; omega⟩
    obtain ⟨v', w', h1, h2, h3⟩ := HR.out 35
    have H2 := Lib.hid h2
    have H3 := Lib.hid h3
    clear h2 h3 HR HQ HB HX
    go_enter Try.func48, Try.ntmps48
    go_wp2_with (at_builtin; refine Lib.wpList_append_run _ rfl _ _ _ _ rfl _ _ rfl rfl _ _ h1 ?_)
    go_ret
    exact ⟨_, rfl, H2.out, H3.out⟩

end Go.Proofs.Ytomndnopbpbblaa

/- Causes: what the teller of causes is at. -/
namespace Go.Proofs.Ytomndnopbpbblaa
open Go.ChangeShapes Go.WideShapes Go.ChangeAt Go.RowKit Go.Joins Go.Maps

theorem ex_least (P : Nat → Prop) : ∀ m, P m → ∃ k, P k ∧ ∀ j, P j → k ≤ j := by
  intro m
  induction m using Nat.strongRecOn with
  | _ m ih =>
    intro hm
    by_cases h : ∃ j, j < m ∧ P j
    · obtain ⟨j, h1, h2⟩ := h
      exact ih j h1 h2
    · exact ⟨m, hm, fun j hj => by
        rcases Nat.lt_or_ge j m with h1 | h1
        · exact absurd ⟨j, h1, hj⟩ h
        · exact h1⟩

open Classical in
/-- How much is left at most, where the state is one of many. -/
noncomputable def leastT (S : Nat → Prop) (B : Nat) : Nat := if h : ∃ k, (∃ t, S t ∧ k = B - t) ∧ ∀ j, (∃ t, S t ∧ j = B - t) → k ≤ j then Classical.choose h else 0

theorem least_take {S : Nat → Prop} {B : Nat} (h : ∃ t, S t) : ∃ t, S t ∧ leastT S B = B - t := by
  obtain ⟨t, ht⟩ := h
  have he := ex_least (fun k => ∃ t, S t ∧ k = B - t) (B - t) ⟨t, ht, rfl⟩
  obtain ⟨⟨u, h1, h2⟩, _⟩ := Classical.choose_spec he
  refine ⟨u, h1, ?_⟩
  unfold leastT
  rw [dif_pos he]
  exact h2

theorem least_le {S : Nat → Prop} {B t : Nat} (h : S t) : leastT S B ≤ B - t := by
  have he := ex_least (fun k => ∃ t, S t ∧ k = B - t) (B - t) ⟨t, h, rfl⟩
  unfold leastT
  rw [dif_pos he]
  exact (Classical.choose_spec he).2 _ ⟨t, h, rfl⟩

theorem pair_mem {R : EnG → EnG → Prop} (hR : ∀ a b, R a b → R b a) {e e' : EnG} : ∀ {gs : List EnG}, gs.Pairwise R → e ∈ gs → e' ∈ gs → e ≠ e' → R e e'
  | [], _, h, _, _ => by cases h
  | g :: r, hp, h, h', hne => by
    obtain ⟨h1, h2⟩ := List.pairwise_cons.1 hp
    rcases List.mem_cons.1 h with e1 | h3
    · rcases List.mem_cons.1 h' with e2 | h4
      · exact absurd (e1.trans e2.symm) hne
      · rw [e1]
        exact h1 e' h4
    · rcases List.mem_cons.1 h' with e2 | h4
      · rw [e2]
        exact hR _ _ (h1 e h3)
      · exact pair_mem hR h2 h3 h4 hne

theorem pair_sub {R : EnG → EnG → Prop} (hR : ∀ a b, R a b → R b a) {gs : List EnG} (hp : gs.Pairwise R) : ∀ ts : List EnG, (∀ e ∈ ts, e ∈ gs) → (ts.map (·.x)).Nodup → ts.Pairwise R
  | [], _, _ => List.Pairwise.nil
  | e :: r, h, hn => by
    rw [List.map_cons] at hn
    obtain ⟨h1, h2⟩ := List.nodup_cons.1 hn
    refine List.pairwise_cons.2 ⟨fun e' he' => pair_mem hR hp (h e (by simp)) (h e' (by simp [he'])) fun e0 => ?_, pair_sub hR hp r (fun z hz => h z (by simp [hz])) h2⟩
    subst e0
    exact h1 (List.mem_map.2 ⟨_, he', rfl⟩)

/-- What it has told, what it still has to ask. -/
structure Ask (M : Nat) (wc wr : World) (b n base : Nat) (V : Dp → Option Value) (E : Dp → List EnG) (vt vq : Value) (ts : List EnG) (qs : List Dp) : Prop where
  rows : RowsIs wr b n base V E
  told : RowSh wr wc.heap.size vt ts
  que : QRow wr wc.heap.size vq qs
  two : ∀ g, vt.ownBlock = some g → vq.ownBlock ≠ some g
  but : But (fun x => x = b) wc wr
  sub : ∀ y, SetS b V y → y < M
  hM : M ≤ wc.heap.size

theorem Ask.subW {M : Nat} {wc wr : World} {b n base : Nat} {V : Dp → Option Value} {E : Dp → List EnG} {vt vq : Value} {ts : List EnG} {qs : List Dp} (h : Ask M wc wr b n base V E vt vq ts qs) : ∀ y, SetS b V y → y < wc.heap.size := fun y hy => Nat.lt_of_lt_of_le (h.sub y hy) h.hM

theorem Ask.more {M : Nat} {wc wr w' : World} {b n base : Nat} {V : Dp → Option Value} {E : Dp → List EnG} {vt vq : Value} {ts : List EnG} {qs : List Dp} (h : Ask M wc wr b n base V E vt vq ts qs) (hb : Below wr.heap.size wr w') : Ask M wc w' b n base V E vt vq ts qs :=
  ⟨h.rows.below hb, h.told.keep fun g hg => hb.block g (World.ownsRow.lt h.told g hg).2, h.que.keep fun g hg => hb.block g (h.que.lt g hg).2, h.two, h.but.trans (Below.but hb (fun x => x = b)) fun _ _ e => e, h.sub, h.hM⟩

/-- Where only a row of its own turns, all else stays. -/
theorem Ask.but_grown {wc wr w' : World} {b : Nat} {ob : Option Nat} (h : But (fun x => x = b) wc wr) (hg : wr.grownBy w' ob) (ho : ∀ g, ob = some g → wc.heap.size ≤ g) : But (fun x => x = b) wc w' :=
  ⟨hg.os.trans h.os, hg.tape.trans h.tape, hg.output.trans h.output, Nat.le_trans h.size hg.size, fun k hk hn => (hg.block k (Nat.lt_of_lt_of_le hk h.size) fun e => by have := ho k e.symm; omega).trans (h.block k hk hn)⟩

/-- One write told. -/
theorem Ask.tell {M : Nat} {wc wr w' : World} {b n base : Nat} {V : Dp → Option Value} {E : Dp → List EnG} {vt vq v' : Value} {ts ts' : List EnG} {qs : List Dp} (h : Ask M wc wr b n base V E vt vq ts qs) (hr : RowSh w' wc.heap.size v' ts') (hg : wr.grownBy w' vt.ownBlock) (hn : NewOr wr vt v') : Ask M wc w' b n base V E v' vq ts' qs := by
  have hlo : ∀ g, vt.ownBlock = some g → wc.heap.size ≤ g := fun g hg => (World.ownsRow.lt h.told g hg).1
  refine ⟨h.rows.keep fun x hx => hg.block x (h.rows.lt x hx) fun e => ?_, hr, h.que.keep fun g hgq => hg.block g (h.que.lt g hgq).2 fun e => h.two g e.symm hgq, fun g hg' e => ?_, Ask.but_grown h.but hg hlo, h.sub, h.hM⟩
  · have h1 := h.subW x hx
    have h2 := hlo x e.symm
    omega
  · rcases hn g hg' with h1 | h1
    · exact h.two g h1 e
    · have := (h.que.lt g e).2
      omega

/-- Dependencies more to ask. -/
theorem Ask.queue {M : Nat} {wc wr w' : World} {b n base : Nat} {V : Dp → Option Value} {E : Dp → List EnG} {vt vq v' : Value} {ts : List EnG} {qs qs' : List Dp} (h : Ask M wc wr b n base V E vt vq ts qs) (hr : QRow w' wc.heap.size v' qs') (hg : wr.grownBy w' vq.ownBlock) (hn : NewOr wr vq v') : Ask M wc w' b n base V E vt v' ts qs' := by
  have hlo : ∀ g, vq.ownBlock = some g → wc.heap.size ≤ g := fun g hg => (h.que.lt g hg).1
  refine ⟨h.rows.keep fun x hx => hg.block x (h.rows.lt x hx) fun e => ?_, h.told.keep fun g hgq => hg.block g (World.ownsRow.lt h.told g hgq).2 fun e => h.two g hgq e.symm, hr, fun g hg' e => ?_, Ask.but_grown h.but hg hlo, h.sub, h.hM⟩
  · have h1 := h.subW x hx
    have h2 := hlo x e.symm
    omega
  · rcases hn g e with h1 | h1
    · exact h.two g hg' h1
    · have := (World.ownsRow.lt h.told g hg').2
      omega

/-- The first one taken off. -/
theorem Ask.pop {M : Nat} {wc wr : World} {b n base : Nat} {V : Dp → Option Value} {E : Dp → List EnG} {vt vq v' : Value} {ts : List EnG} {qs qs' : List Dp} (h : Ask M wc wr b n base V E vt vq ts qs) (hr : QRow wr wc.heap.size v' qs') (hn : ∀ g, v'.ownBlock = some g → vq.ownBlock = some g) : Ask M wc wr b n base V E vt v' ts qs' :=
  ⟨h.rows, h.told, hr, fun g hg e => h.two g hg (hn g e), h.but, h.sub, h.hM⟩

/-- A row struck out. -/
theorem Ask.del {M : Nat} {wc wr w5 : World} {b n base : Nat} {V : Dp → Option Value} {E : Dp → List EnG} {vt vq : Value} {ts : List EnG} {qs : List Dp} (h : Ask M wc wr b n base V E vt vq ts qs) {d0 : Dp} (hmap : ∀ g : Dp → Option Value, g d0 = none → (∀ j, j ≠ d0 → g j = V j) → MapIs keyD w5 b n g) (ht : wr.grownBy w5 (some b)) :
    Ask M wc w5 b n base (updD V d0 none) (updD E d0 []) vt vq ts qs := by
  obtain ⟨h1, h2⟩ := h.rows.del hmap ht
  have hb : b < wc.heap.size := h.subW b (.inl rfl)
  refine ⟨h1, h.told.keep fun g hg => ht.block g (World.ownsRow.lt h.told g hg).2 fun e => ?_, h.que.keep fun g hg => ht.block g (h.que.lt g hg).2 fun e => ?_, h.two, h.but.trans (But.grown ht) fun _ _ e => e, fun y hy => h.sub y (h2 y hy), h.hM⟩
  · have h3 := (World.ownsRow.lt h.told g hg).1
    injection e with e
    omega
  · have h3 := (h.que.lt g hg).1
    injection e with e
    omega

open Classical in
/-- The rows that are left when t dependencies were asked. -/
noncomputable def leftE (gs : List EnG) (asd : List Dp) (d : Dp) : List EnG := if d ∈ asd then [] else rowE gs d

theorem leftE_more (gs : List EnG) (asd : List Dp) (d0 : Dp) : leftE gs (asd ++ [d0]) = updD (leftE gs asd) d0 [] := by
  funext d
  rcases dp_ne (d := d) (d' := d0) with rfl | hne
  · rw [updD_at]
    unfold leftE
    rw [if_pos (by simp)]
  · rw [updD_off _ _ _ hne]
    unfold leftE
    by_cases h : d ∈ asd
    · rw [if_pos h, if_pos (by simp [h])]
    · rw [if_neg h, if_neg (by simp [h, hne])]

theorem rowE_map (gs : List EnG) (d : Dp) : (rowE gs d).map (·.x) = (gs.map (·.x)).filter (matchD d) := by
  unfold rowE
  rw [List.filter_map]
  rfl

theorem flat_map (ts : List EnG) : ts.flatMap (·.x.xs) = (ts.map (·.x)).flatMap (·.xs) := by
  induction ts with
  | nil => rfl
  | cons e r ih => rw [List.flatMap_cons, List.map_cons, List.flatMap_cons, ih]

/-- t dependencies were asked. -/
def AskT (M : Nat) (wc : World) (b n base : Nat) (gs : List EnG) (ds : List Dp) (wr : World) (vt vq : Value) (t : Nat) : Prop := ∃ V ts, Ask M wc wr b n base V (leftE gs ((cauQ ds (cauRun (gs.map (·.x)) ds t)).take t)) vt vq ts ((cauQ ds (cauRun (gs.map (·.x)) ds t)).drop t) ∧ ts.map (·.x) = cauRun (gs.map (·.x)) ds t ∧ (∀ e ∈ ts, e ∈ gs) ∧ CauI (gs.map (·.x)) ds t

/-- One more was asked. -/
theorem askT_next {M : Nat} {wc w5 : World} {b n base : Nat} {gs : List EnG} {ds : List Dp} {vt vq : Value} {t : Nat} {d : Dp} {qs : List Dp} {V : Dp → Option Value} {ts : List EnG} (hn : (gs.map (·.x)).Nodup) (hc : CauI (gs.map (·.x)) ds t) (hq : (cauQ ds (cauRun (gs.map (·.x)) ds t)).drop t = d :: qs) (ht : ts.map (·.x) = cauRun (gs.map (·.x)) ds t) (hs : ∀ e ∈ ts, e ∈ gs)
    (h : Ask M wc w5 b n base V (updD (leftE gs ((cauQ ds (cauRun (gs.map (·.x)) ds t)).take t)) d []) vt vq (ts ++ leftE gs ((cauQ ds (cauRun (gs.map (·.x)) ds t)).take t) d) (qs ++ (leftE gs ((cauQ ds (cauRun (gs.map (·.x)) ds t)).take t) d).flatMap (·.x.xs))) : AskT M wc b n base gs ds w5 vt vq (t + 1) := by
  have hlt : t < (cauQ ds (cauRun (gs.map (·.x)) ds t)).length := by
    rcases Nat.lt_or_ge t (cauQ ds (cauRun (gs.map (·.x)) ds t)).length with h1 | h1
    · exact h1
    · rw [List.drop_eq_nil_of_le h1] at hq
      cases hq
  obtain ⟨c1, c2, c3⟩ := hc.next hn hlt
  have hd : (cauQ ds (cauRun (gs.map (·.x)) ds t)).getD t dz = d := by
    rw [List.drop_eq_getElem_cons hlt] at hq
    injection hq with h1 _
    simp [List.getD, hlt, h1]
  have hqs : (cauQ ds (cauRun (gs.map (·.x)) ds t)).drop (t + 1) = qs := by
    rw [List.drop_eq_getElem_cons hlt] at hq
    injection hq
  rw [hd] at c1 c2
  have htk := take_next (cauQ ds (cauRun (gs.map (·.x)) ds t)) dz hlt
  rw [hd] at htk
  by_cases hm : d ∈ (cauQ ds (cauRun (gs.map (·.x)) ds t)).take t
  · have e1 := c1 hm
    have e2 : leftE gs ((cauQ ds (cauRun (gs.map (·.x)) ds t)).take t) d = [] := if_pos hm
    rw [e2, List.append_nil, List.flatMap_nil, List.append_nil] at h
    refine ⟨V, ts, ?_, by rw [e1]; exact ht, hs, c3⟩
    rw [e1, htk, leftE_more, hqs]
    exact h
  · have e1 := c2 hm
    have e2 : leftE gs ((cauQ ds (cauRun (gs.map (·.x)) ds t)).take t) d = rowE gs d := if_neg hm
    rw [e2] at h
    refine ⟨V, ts ++ rowE gs d, ?_, ?_, fun e he => ?_, c3⟩
    · rw [e1, cauQ_more, List.take_append_of_le_length hlt, htk, leftE_more, List.drop_append_of_le_length hlt, hqs, ← rowE_map, ← flat_map]
      exact h
    · rw [e1, List.map_append, ht, rowE_map]
    · rcases List.mem_append.1 he with he | he
      · exact hs e he
      · exact (List.mem_filter.1 he).1

end Go.Proofs.Ytomndnopbpbblaa

/- Causes: the contract of the function that impl.causeTeller hands over. -/
namespace Go.Proofs.Ytomndnopbpbblaa
open Go.ChangeShapes Go.WideShapes Go.ChangeAt Go.RowKit Go.Joins Go.Maps
attribute [local go_sem ↓] Go.wp_at_zero Go.wp_at_succ

theorem askT_start {M : Nat} {wc w2 : World} {b n base : Nat} {gs : List EnG} {ds : List Dp} {vq : Value} {V : Dp → Option Value} (h : RowsIs wc b n base V (rowE gs)) (hMs : ∀ y, SetS b V y → y < M) (hM : M ≤ wc.heap.size) (hq : QRow w2 wc.heap.size vq ds) (hb : Below wc.heap.size wc w2) : AskT M wc b n base gs ds w2 (.slice none 0 0) vq 0 := by
  have e : leftE gs ((cauQ ds (cauRun (gs.map (·.x)) ds 0)).take 0) = rowE gs := by
    funext d
    unfold leftE
    rw [if_neg (by simp)]
  have e2 : (cauQ ds (cauRun (gs.map (·.x)) ds 0)).drop 0 = ds := by simp [cauQ, cauRun]
  refine ⟨V, [], ?_, rfl, fun e he => by simp at he, cauI_zero _ _⟩
  rw [e, e2]
  exact ⟨h.below hb, ⟨rfl, .inl ⟨rfl, rfl⟩⟩, hq, fun g hg => by simp [Value.ownBlock] at hg, Below.but hb _, hMs, hM⟩

/-- What is told at last. -/
structure ToldC (M : Nat) (wc w' : World) (b n base : Nat) (gs : List EnG) (ds : List Dp) (v : Value) (ts : List EnG) : Prop where
  is : ts.map (·.x) = causesL (gs.map (·.x)) ds
  sub : ∀ e ∈ ts, e ∈ gs
  row : RowG w' base v ts
  new : ∀ g, v.ownBlock = some g → wc.heap.size ≤ g
  but : But (fun x => x = b) wc w'
  left : ∃ V', RowsIs w' b n base V' (rowE (gs.filter fun e => !hasW (ts.map (·.x)) e.x)) ∧ ∀ y, SetS b V' y → y < M

theorem left_is {gs ts : List EnG} {as' : List Dp} (h : ∀ e ∈ gs, e.x ∈ ts.map (·.x) ↔ dpOf e.x ∈ as') : leftE gs as' = rowE (gs.filter fun e => !hasW (ts.map (·.x)) e.x) := by
  funext d
  unfold leftE rowE
  rw [List.filter_filter]
  by_cases hd : d ∈ as'
  · rw [if_pos hd]
    symm
    refine List.filter_eq_nil_iff.2 fun e he hc => ?_
    rw [Bool.and_eq_true] at hc
    have e1 := (matchD_iff d e.x).1 hc.1
    have e2 := (hasW_iff _ _).2 ((h e he).2 (by rw [e1]; exact hd))
    rw [e2] at hc
    simp at hc
  · rw [if_neg hd]
    refine List.filter_congr fun e he => ?_
    cases hm : matchD d e.x with
    | false => rfl
    | true =>
      have e1 := (matchD_iff d e.x).1 hm
      cases hw : hasW (ts.map (·.x)) e.x with
      | false => rfl
      | true => exact absurd (by rw [← e1]; exact (h e he).1 ((hasW_iff _ _).1 hw)) hd

theorem askT_end {M : Nat} {wc w' : World} {b n base : Nat} {gs : List EnG} {ds : List Dp} {vt vq : Value} {t : Nat} (h : AskT M wc b n base gs ds w' vt vq t) (he : (cauQ ds (cauRun (gs.map (·.x)) ds t)).drop t = []) (hf : ∀ e ∈ gs, FreshDeps base wc e.a e.g e.x.xs ∧ (0 < e.x.xs.length → e.g ≠ b)) (hap : gs.Pairwise fun e e' => 0 < e.x.xs.length → 0 < e'.x.xs.length → e.g ≠ e'.g) (hb : base ≤ wc.heap.size) : ∃ ts, ToldC M wc w' b n base gs ds vt ts := by
  obtain ⟨V', ts, h1, h2, h3, h4⟩ := h
  have hle : (cauQ ds (cauRun (gs.map (·.x)) ds t)).length ≤ t := List.drop_eq_nil_iff.1 he
  refine ⟨ts, by rw [h2, cauI_end h4 hle], h3, ⟨?_, fun e he => ?_, ?_⟩, fun g hg => (World.ownsRow.lt h1.told g hg).1, h1.but, V', ?_, h1.sub⟩
  · refine ⟨h1.told.1, ?_⟩
    rcases h1.told.2 with g1 | ⟨g, cap, cur, g1, g2, g3⟩
    · exact .inl g1
    · exact .inr ⟨g, cap, cur, g1, Nat.le_trans hb g2, g3⟩
  · obtain ⟨f1, f2⟩ := hf e (h3 e he)
    refine ⟨f1.of_block h1.but.size fun hp => h1.but.block e.g (f1 hp).2.2.1 (f2 hp), fun hp e0 => ?_⟩
    have g1 := (World.ownsRow.lt h1.told e.g e0).1
    have g2 := (f1 hp).2.2.1
    omega
  · exact pair_sub (fun a b h hb ha => (h ha hb).symm) hap ts h3 (by rw [h2]; exact h4.once)
  · have hr := h1.rows
    rw [left_is (ts := ts) fun e he => by rw [h2]; exact h4.told e.x (List.mem_map.2 ⟨e, he, rfl⟩)] at hr
    exact hr

theorem rowSh_at {w : World} {base : Nat} {v : Value} {es : List EnG} (h : RowSh w base v es) {k : Nat} (hk : k < es.length) : ∃ g o cap, v = .slice (some ⟨g, o, none⟩) es.length cap ∧ g < w.heap.size ∧ WrAt w g (o + k * 7) (es.getD k ezG).x (es.getD k ezG).a (es.getD k ezG).cp := by
  rcases h.2 with ⟨h1, h2⟩ | ⟨g, cap, cur, h1, h2, h3, _⟩
  · omega
  · subst h1
    refine ⟨g, 0, cap, rfl, (World.ownsRow.lt h g rfl).2, ?_⟩
    have c : ∀ c, c < 7 → w.cell? ⟨g, 0 + k * 7 + c, none⟩ = (wrValsG (es.getD k ezG))[c]? := fun c hc => by rw [Nat.zero_add, World.ownsRow.cellAt h _ (by omega), valsG_at es k c hk hc]
    exact ⟨c 0 (by omega), c 1 (by omega), c 2 (by omega), c 3 (by omega), c 4 (by omega), c 5 (by omega), c 6 (by omega)⟩

theorem cau_ok {all : List Wr} {ds : List Dp} {t : Nat} (h : CauI all ds t) (h1 : ∀ d ∈ ds, DpR d) (h2 : ∀ y ∈ all, ∀ d ∈ y.xs, DpR d) : ∀ d ∈ cauQ ds (cauRun all ds t), DpR d := fun d hd => by
  unfold cauQ at hd
  rcases List.mem_append.1 hd with hd | hd
  · exact h1 d hd
  · obtain ⟨y, hy, hyd⟩ := List.mem_flatMap.1 hd
    exact h2 y (h.sub y hy) d hyd

/-- Besides, the block of the dependency that is asked. -/
structure AskD (M : Nat) (wc wr : World) (b n base : Nat) (V : Dp → Option Value) (E : Dp → List EnG) (vt vq : Value) (ts : List EnG) (qs : List Dp) (kb : Nat) (o : Obj) : Prop where
  ask : Ask M wc wr b n base V E vt vq ts qs
  box : wr.heap[kb]? = some o
  n1 : vt.ownBlock ≠ some kb
  n2 : vq.ownBlock ≠ some kb

theorem AskD.lt {M : Nat} {wc wr : World} {b n base : Nat} {V : Dp → Option Value} {E : Dp → List EnG} {vt vq : Value} {ts : List EnG} {qs : List Dp} {kb : Nat} {o : Obj} (h : AskD M wc wr b n base V E vt vq ts qs kb o) : kb < wr.heap.size := (Array.getElem?_eq_some_iff.1 h.box).1

theorem AskD.more {M : Nat} {wc wr w' : World} {b n base : Nat} {V : Dp → Option Value} {E : Dp → List EnG} {vt vq : Value} {ts : List EnG} {qs : List Dp} {kb : Nat} {o : Obj} (h : AskD M wc wr b n base V E vt vq ts qs kb o) (hb : Below wr.heap.size wr w') : AskD M wc w' b n base V E vt vq ts qs kb o :=
  ⟨h.ask.more hb, (hb.block kb h.lt).trans h.box, h.n1, h.n2⟩

theorem AskD.tell {M : Nat} {wc wr w' : World} {b n base : Nat} {V : Dp → Option Value} {E : Dp → List EnG} {vt vq v' : Value} {ts ts' : List EnG} {qs : List Dp} {kb : Nat} {o : Obj} (h : AskD M wc wr b n base V E vt vq ts qs kb o) (hr : RowSh w' wc.heap.size v' ts') (hg : wr.grownBy w' vt.ownBlock) (hn : NewOr wr vt v') : AskD M wc w' b n base V E v' vq ts' qs kb o :=
  ⟨h.ask.tell hr hg hn, (hg.block kb h.lt fun e => h.n1 e.symm).trans h.box, fun e => by
    rcases hn kb e with h1 | h1
    · exact h.n1 h1
    · have := h.lt
      omega, h.n2⟩

theorem AskD.queue {M : Nat} {wc wr w' : World} {b n base : Nat} {V : Dp → Option Value} {E : Dp → List EnG} {vt vq v' : Value} {ts : List EnG} {qs qs' : List Dp} {kb : Nat} {o : Obj} (h : AskD M wc wr b n base V E vt vq ts qs kb o) (hr : QRow w' wc.heap.size v' qs') (hg : wr.grownBy w' vq.ownBlock) (hn : NewOr wr vq v') : AskD M wc w' b n base V E vt v' ts qs' kb o :=
  ⟨h.ask.queue hr hg hn, (hg.block kb h.lt fun e => h.n2 e.symm).trans h.box, h.n1, fun e => by
    rcases hn kb e with h1 | h1
    · exact h.n2 h1
    · have := h.lt
      omega⟩

theorem cau_room {gs : List EnG} {ds : List Dp} {t : Nat} {d : Dp} {qs : List Dp} {ts : List EnG} (hn : (gs.map (·.x)).Nodup) (hw : wgt (gs.map (·.x)) ≤ 1048576) (hl : ds.length ≤ 1048576) (hc : CauI (gs.map (·.x)) ds t) (hq : (cauQ ds (cauRun (gs.map (·.x)) ds t)).drop t = d :: qs) (ht : ts.map (·.x) = cauRun (gs.map (·.x)) ds t) :
    ts.length + (leftE gs ((cauQ ds (cauRun (gs.map (·.x)) ds t)).take t) d).length ≤ 1048576 ∧ qs.length + ((leftE gs ((cauQ ds (cauRun (gs.map (·.x)) ds t)).take t) d).flatMap (·.x.xs)).length ≤ 4194304 ∧ ∀ e ∈ leftE gs ((cauQ ds (cauRun (gs.map (·.x)) ds t)).take t) d, e ∈ gs := by
  have hlt : t < (cauQ ds (cauRun (gs.map (·.x)) ds t)).length := by
    rcases Nat.lt_or_ge t (cauQ ds (cauRun (gs.map (·.x)) ds t)).length with h1 | h1
    · exact h1
    · rw [List.drop_eq_nil_of_le h1] at hq
      cases hq
  obtain ⟨c1, c2, c3⟩ := hc.next hn hlt
  have hd : (cauQ ds (cauRun (gs.map (·.x)) ds t)).getD t dz = d := by
    rw [List.drop_eq_getElem_cons hlt] at hq
    injection hq with h1 _
    simp [List.getD, hlt, h1]
  rw [hd] at c1 c2
  have hql : qs.length ≤ (cauQ ds (cauRun (gs.map (·.x)) ds t)).length := by
    have h := congrArg List.length hq
    rw [List.length_drop, List.length_cons] at h
    omega
  have hl1 := c3.len
  have hw1 := c3.wgt
  have hl0 := hc.len
  have hw0 := hc.wgt
  have htl : ts.length = (cauRun (gs.map (·.x)) ds t).length := by rw [← ht, List.length_map]
  by_cases hm : d ∈ (cauQ ds (cauRun (gs.map (·.x)) ds t)).take t
  · have e2 : leftE gs ((cauQ ds (cauRun (gs.map (·.x)) ds t)).take t) d = [] := if_pos hm
    rw [e2]
    refine ⟨?_, ?_, fun e he => by cases he⟩
    · unfold wgt at hw0
      simp only [List.length_nil]
      unfold wgt at hw
      omega
    · simp only [List.flatMap_nil, List.length_nil]
      omega
  · have e1 := c2 hm
    have e2 : leftE gs ((cauQ ds (cauRun (gs.map (·.x)) ds t)).take t) d = rowE gs d := if_neg hm
    rw [e2]
    have e3 : (rowE gs d).length = ((gs.map (·.x)).filter (matchD d)).length := by rw [← rowE_map, List.length_map]
    refine ⟨?_, ?_, fun e he => (List.mem_filter.1 he).1⟩
    · have h1 := congrArg List.length e1
      rw [List.length_append] at h1
      unfold wgt at hw1 hw
      omega
    · rw [flat_map, rowE_map]
      have h1 : (cauQ ds (cauRun (gs.map (·.x)) ds (t + 1))).length = (cauQ ds (cauRun (gs.map (·.x)) ds t)).length + (((gs.map (·.x)).filter (matchD d)).flatMap (·.xs)).length := by rw [e1, cauQ_more, List.length_append]
      omega

set_option maxRecDepth 100000 in
set_option maxHeartbeats 8000000 in
theorem teller_any (M p b n base : Nat) (gs : List EnG) (V0 : Dp → Option Value) (x : Wr) (ad : Option Addr) (cp : Nat) (w : World) (hnd : (gs.map (·.x)).Nodup) (hwg : wgt (gs.map (·.x)) ≤ 1048576) (hxl : x.xs.length ≤ 1048576) (hxd : IsDeps w ad x.xs) (hds : ∀ d ∈ x.xs, DpR d) (hgd : ∀ y ∈ gs.map (·.x), ∀ d ∈ y.xs, DpR d)
    (hf : ∀ e ∈ gs, FreshDeps base w e.a e.g e.x.xs ∧ (0 < e.x.xs.length → e.g ≠ b)) (hap : gs.Pairwise fun e e' => 0 < e.x.xs.length → 0 < e'.x.xs.length → e.g ≠ e'.g) (hbs : base ≤ w.heap.size) (hp : w.cell? ⟨p, 0, none⟩ = some (.map (some b))) (hpb : p ≠ b) (h : RowsIs w b n base V0 (rowE gs)) (hMs : ∀ y, SetS b V0 y → y < M) (hM : M ≤ w.heap.size) :
    Calls Try.prog 47 #[wrOf x ad cp, .pointer (some ⟨p, 0, none⟩)] w fun e w' => ∃ v ts, e = .returned v ∧ ToldC M w w' b n base gs x.xs v ts := by
  have HH := Lib.hid h
  have HMS := Lib.hid hMs
  have HML := Lib.hid hM
  have HXD := Lib.hid hxd
  have HND := Lib.hid hnd
  have HWG := Lib.hid hwg
  have HDS := Lib.hid hds
  have HGD := Lib.hid hgd
  have HF := Lib.hid hf
  have HAP := Lib.hid hap
  have HP := Lib.hid hp
  have hpl : p < w.heap.size := World.block_lt_of_cell? w _ hp
  clear h hMs hM hxd hnd hwg hds hgd hf hap hp
  obtain ⟨i0, hi0, hx0⟩ := Option.map_eq_some_iff.1 infoWr
  simp only [Prod.mk.injEq] at hx0
  have HI0 := Lib.hid hi0
  have HX0 := Lib.hid hx0
  clear hi0 hx0
  obtain ⟨xk, xc, xs', xq, xv, xd, xx⟩ := x
  unfold wrOf
  simp only at hxl HXD HDS ⊢
  obtain ⟨xl, hxx⟩ : ∃ xl, xx.length = xl := ⟨_, rfl⟩
  rw [hxx] at hxl ⊢
  have HXX := Lib.hid hxx
  have HBA : Hid (Below w.heap.size w (w.alloc (.cells #[.int .i64 xk, .int .i64 xc, .int .i64 xs', .int .i64 xq, .int .i64 xv, .bool xd, .slice ad xl cp] 37))) := (Below.refl _ _).alloc (Nat.le_refl _) _
  have HCD := Lib.hid (cloneD_any ad xl cp xx (w.alloc (.cells #[.int .i64 xk, .int .i64 xc, .int .i64 xs', .int .i64 xq, .int .i64 xv, .bool xd, .slice ad xl cp] 37)) hxx hxl (HXD.out.below HBA.out))
  clear hxx
  go_enter Try.func47, Try.ntmps47
  go_wp2_with fail
  refine HCD.out.mono ?_
  rintro e w2 ⟨vq, rfl, hq2, hb2⟩
  have HB2 := Lib.hid (below_step HBA.out HBA.out.size hb2)
  have HT0 : Hid (AskT M w b n base gs xx w2 (.slice none 0 0) vq 0) := askT_start HH.out HMS.out HML.out (by
    rcases hq2 with h | ⟨g, o, cap, cur, h1, h2, h3⟩
    · exact .inl h
    · exact .inr ⟨g, o, cap, cur, h1, Nat.le_trans HBA.out.size h2, h3⟩) HB2.out
  clear hq2 hb2 HCD HBA HB2
  go_wp2
  go_loopw [4, 5] (fun t4 t5 wr => ∃ vt vq : Value, vt = t4 ∧ vq = t5 ∧ Hid (∃ t, AskT M w b n base gs xx wr vt vq t)) (fun t4 t5 wr => leastT (AskT M w b n base gs xx wr t4 t5) (xl + wgt (gs.map (·.x))))
  case atStart => exact ⟨_, _, rfl, rfl, ⟨0, HT0.out⟩⟩
  case round =>
    clear HT0
    obtain ⟨vt, vq, rfl, rfl, HT⟩ := hrel
    obtain ⟨wo, rfl⟩ : ∃ wo : World, wo = wr := ⟨_, rfl⟩
    obtain ⟨t, hA, hme⟩ := least_take (B := xl + wgt (gs.map (·.x))) HT.out
    have HME := Lib.hid hme
    have HA := Lib.hid hA
    clear hme HT
    obtain ⟨V, ts, hask, hts, hsub, hcau⟩ := hA
    have HC := Lib.hid hcau
    have HTS := Lib.hid hts
    have HSUB := Lib.hid hsub
    have HOKD := Lib.hid (cau_ok hcau HDS.out HGD.out)
    have HTL : Hid (t < (cauQ xx (cauRun (gs.map (·.x)) xx t)).length → t < xl + wgt (gs.map (·.x))) := fun h => by
      have h2 := HC.out.len
      rw [HXX.out] at h2
      omega
    cases hqs : (cauQ xx (cauRun (gs.map (·.x)) xx t)).drop t with
    | nil =>
      have HQ0 := Lib.hid hqs
      rw [hqs] at hask
      obtain ⟨aq, cq, rfl⟩ := hask.que.form
      have HEND := Lib.hid (askT_end HA.out HQ0.out HF.out HAP.out hbs)
      clear hqs hask hts hsub hcau HA HC
      go_wp2
      go_ret
      exact ⟨_, rfl, HEND.out⟩
    | cons d qs =>
      rw [hqs] at hask
      have HNX : Hid (∀ (w5 : World) (vt' vq' : Value) (V' : Dp → Option Value), Ask M w w5 b n base V' (updD (leftE gs ((cauQ xx (cauRun (gs.map (·.x)) xx t)).take t)) d []) vt' vq' (ts ++ leftE gs ((cauQ xx (cauRun (gs.map (·.x)) xx t)).take t) d) (qs ++ (leftE gs ((cauQ xx (cauRun (gs.map (·.x)) xx t)).take t) d).flatMap (·.x.xs)) → AskT M w b n base gs xx w5 vt' vq' (t + 1)) := fun w5 vt' vq' V' h => askT_next HND.out HC.out hqs HTS.out HSUB.out h
      have htl : t < xl + wgt (gs.map (·.x)) := HTL.out (by
        rcases Nat.lt_or_ge t (cauQ xx (cauRun (gs.map (·.x)) xx t)).length with h1 | h1
        · exact h1
        · rw [List.drop_eq_nil_of_le h1] at hqs
          cases hqs)
      have hdr : DpR d := HOKD.out d (List.mem_of_mem_drop (i := t) (by rw [hqs]; simp))
      have hok : keyD.ok d := hdr
      have HLEN : Hid (ts.length + (leftE gs ((cauQ xx (cauRun (gs.map (·.x)) xx t)).take t) d).length ≤ 1048576 ∧ qs.length + ((leftE gs ((cauQ xx (cauRun (gs.map (·.x)) xx t)).take t) d).flatMap (·.x.xs)).length ≤ 4194304 ∧ ∀ e ∈ leftE gs ((cauQ xx (cauRun (gs.map (·.x)) xx t)).take t) d, e ∈ gs) := cau_room HND.out HWG.out (by rw [HXX.out]; exact hxl) HC.out hqs HTS.out
      generalize leftE gs ((cauQ xx (cauRun (gs.map (·.x)) xx t)).take t) = E at *
      clear hqs hts hsub hcau HA HC HTS HSUB HOKD HTL
      obtain ⟨gq, oq, cq, rfl, hq1, hq2, hq3, d0, d1, d2, d3, hq4, hq5⟩ := hask.que.first
      have HPOP1 : Hid (cq = 1 → Ask M w wo b n base V E vt (.slice (some ⟨gq, oq, none⟩) 0 0) ts qs) := fun hc => by
        exact hask.pop (hq4 hc) fun g hg => by simpa [Value.ownBlock] using hg
      have HPOP2 : Hid (cq ≠ 1 → Ask M w wo b n base V E vt (.slice (some ⟨gq, oq + 4, none⟩) qs.length (cq - 1)) ts qs) := fun hc => hask.pop (hq5 hc) fun g hg => by simpa [Value.ownBlock] using hg
      have HROW : Hid (∀ W, Below wo.heap.size wo W → RowSh W base (rowV V d) (E d)) := fun W hb => (hask.rows.below hb).theRow d
      have HRLT : Hid (∀ g, (rowV V d).ownBlock = some g → g < w.heap.size ∧ g ≠ b) := fun g hg => by
        obtain ⟨u, u1, u2⟩ := rowV_own hg
        exact ⟨hask.subW g (.inr ⟨d, u, u1, u2⟩), fun e => hask.rows.off d u u1 (by rw [u2, e])⟩
      have HMAP := Lib.hid hask.rows.map
      have hbl : b < w.heap.size := hask.subW b (.inl rfl)
      have hww : w.heap.size ≤ wo.heap.size := hask.but.size
      have hpw : wo.cell? ⟨p, 0, none⟩ = some (.map (some b)) := (World.cell?_of_block (a := ⟨p, 0, none⟩) (hask.but.block p hpl hpb)).trans HP.out
      have hplw : p < wo.heap.size := World.block_lt_of_cell? wo _ hpw
      clear hask hq4 hq5
      obtain ⟨dk, dc, dsn, dq⟩ := d
      simp only at d0 d1 d2 d3
      obtain ⟨ra, rc, hrv⟩ := (HROW.out wo (Below.refl _ _)).form
      have HGV : Hid ((V ⟨dk, dc, dsn, dq⟩).getD (.slice none 0 0) = .slice ra (E ⟨dk, dc, dsn, dq⟩).length rc) := hrv
      obtain ⟨L, hL⟩ : ∃ L, (E ⟨dk, dc, dsn, dq⟩).length = L := ⟨_, rfl⟩
      have HL := Lib.hid hL
      have HBA : Hid (Below wo.heap.size wo (wo.alloc (.cells #[.int .i64 dk, .int .i64 dc, .int .i64 dsn, .int .i64 dq] 55))) := (Below.refl _ _).alloc (Nat.le_refl _) _
      have HM1 := Lib.hid (HMAP.out.below HBA.out)
      have HBX : Hid ((wo.alloc (.cells #[.int .i64 dk, .int .i64 dc, .int .i64 dsn, .int .i64 dq] 55)).heap[wo.heap.size]? = some (.cells #[.int .i64 dk, .int .i64 dc, .int .i64 dsn, .int .i64 dq] 55 (0, 0))) := heap_alloc_new _ _
      rw [hL] at HGV
      have HRVE : Hid (rowV V ⟨dk, dc, dsn, dq⟩ = .slice ra L rc) := by
        show _ = _
        rw [hrv, hL]
      have HLL : Hid (ts.length + L ≤ 1048576) := by
        have h := HLEN.out.1
        rw [hL] at h
        exact h
      have hLb : L ≤ 1048576 := by have h := HLL.out; omega
      have HSD : Hid (∀ (W : World) (e : EnG), e ∈ gs → But (fun x => x = b) w W → IsDeps W e.a e.x.xs) := fun W e he hb => by
        obtain ⟨f1, f2⟩ := HF.out e he
        exact (f1.of_block hb.size fun hp => hb.block e.g (f1 hp).2.2.1 (f2 hp)).isDeps
      have HPV : Hid (∀ W, But (fun x => x = b) w W → W.cell? ⟨p, 0, none⟩ = some (.map (some b))) := fun W hb => (World.cell?_of_block (a := ⟨p, 0, none⟩) (hb.block p hpl hpb)).trans HP.out
      clear hrv hL HMAP HROW HRLT
      cases hcq : decide (cq = 1)
      all_goals first
        | (have hcq1 : cq = 1 := of_decide_eq_true hcq
           subst hcq1
           clear hcq
           have HAK := Lib.hid (HPOP1.out rfl)
           clear HPOP1 HPOP2
           go_wp2_with (at_lookup; refine wpList_lookG1 (K := keyD) (by rfl) _ _ 86 30 (by rfl) Try.underlying86 (setZero _) HM1.out ⟨dk, dc, dsn, dq⟩ hok (by rfl) (by rfl) ?_; simp only [HGV.out]; refine Hid.out ?_)
           refine Lib.hid ?_
           generalize Value.slice (some ⟨gq, oq, none⟩) 0 0 = vn at *)
        | (have hcq1 : cq ≠ 1 := of_decide_eq_false hcq
           clear hcq
           have hq6 : ¬ (cq - 1 = 0) := by omega
           go_wp2_with (at_lookup; refine wpList_lookG1 (K := keyD) (by rfl) _ _ 86 30 (by rfl) Try.underlying86 (setZero _) HM1.out ⟨dk, dc, dsn, dq⟩ hok (by rfl) (by rfl) ?_; simp only [HGV.out]; refine Hid.out ?_)
           refine Lib.hid ?_
           have HAK := Lib.hid (HPOP2.out hcq1)
           clear HPOP1 HPOP2 hq6
           generalize Value.slice (some ⟨gq, oq + 4, none⟩) qs.length (cq - 1) = vn at *)
      all_goals
        have HT1 : Hid (AskD M w (wo.alloc (.cells #[.int .i64 dk, .int .i64 dc, .int .i64 dsn, .int .i64 dq] 55)) b n base V E vt vn (ts ++ (E ⟨dk, dc, dsn, dq⟩).take 0) (qs ++ ((E ⟨dk, dc, dsn, dq⟩).take 0).flatMap (·.x.xs)) wo.heap.size (.cells #[.int .i64 dk, .int .i64 dc, .int .i64 dsn, .int .i64 dq] 55 (0, 0))) := by
          refine ⟨?_, HBX.out, fun e => ?_, fun e => ?_⟩
          · simp only [List.take_zero, List.flatMap_nil, List.append_nil]
            exact HAK.out.more HBA.out
          · have := (World.ownsRow.lt HAK.out.told _ e).2
            omega
          · have := (HAK.out.que.lt _ e).2
            omega
        clear HAK HBX HM1
        generalize wo.alloc (.cells #[.int .i64 dk, .int .i64 dc, .int .i64 dsn, .int .i64 dq] 55) = W1 at *
        go_wp2
        go_loopw [4, 5, 24] (fun t4 t5 i wr => ∃ (j : Nat) (ut uq : Value), j ≤ L ∧ i = .int .i64 j ∧ ut = t4 ∧ uq = t5 ∧ Hid (AskD M w wr b n base V E ut uq (ts ++ (E ⟨dk, dc, dsn, dq⟩).take j) (qs ++ ((E ⟨dk, dc, dsn, dq⟩).take j).flatMap (·.x.xs)) wo.heap.size (.cells #[.int .i64 dk, .int .i64 dc, .int .i64 dsn, .int .i64 dq] 55 (0, 0)))) (fun _ _ i _ => L - (intOf i).toNat)
        case atStart => exact ⟨0, _, _, Nat.zero_le _, rfl, rfl, rfl, HT1⟩
        case round =>
          clear HT1
          obtain ⟨j, ut, uq, hj, rfl, rfl, rfl, HT⟩ := hrel
          by_cases hj' : j < L
          · have hjr : j < (E ⟨dk, dc, dsn, dq⟩).length := by rw [HL.out]; exact hj'
            have i1 : (0 : Int) ≤ (j : Int) := by omega
            have i2 : (j : Int) < (L : Int) := by omega
            have hsh := HT.out.ask.rows.theRow ⟨dk, dc, dsn, dq⟩
            rw [HRVE.out] at hsh
            obtain ⟨gr, or', cr, hra, hz, hat⟩ := rowSh_at hsh hjr
            injection hra with hra hra2 hra3
            subst hra
            clear hra2 hra3 hsh
            have hmem : (E ⟨dk, dc, dsn, dq⟩).getD j ezG ∈ E ⟨dk, dc, dsn, dq⟩ := by simp [List.getD, hjr]
            have HMEM := Lib.hid (HLEN.out.2.2 _ hmem)
            have HTK : Hid ((E ⟨dk, dc, dsn, dq⟩).take (j + 1) = (E ⟨dk, dc, dsn, dq⟩).take j ++ [(E ⟨dk, dc, dsn, dq⟩).getD j ezG]) := by
              show _ = _
              rw [List.take_add_one, List.getElem?_eq_getElem hjr]
              simp [List.getD, hjr]
            have hq8 : (qs ++ ((E ⟨dk, dc, dsn, dq⟩).take j).flatMap (·.x.xs)).length + ((E ⟨dk, dc, dsn, dq⟩).getD j ezG).x.xs.length ≤ 100000000 := by
              have h1 := HLEN.out.2.1
              have h2 : (((E ⟨dk, dc, dsn, dq⟩).take (j + 1)).flatMap (·.x.xs)).length ≤ ((E ⟨dk, dc, dsn, dq⟩).flatMap (·.x.xs)).length := by
                conv => rhs; rw [← List.take_append_drop (j + 1) (E ⟨dk, dc, dsn, dq⟩), List.flatMap_append, List.length_append]
                omega
              rw [HTK.out, List.flatMap_append, List.length_append] at h2
              simp only [List.flatMap_cons, List.flatMap_nil, List.append_nil] at h2
              rw [List.length_append]
              omega
            have ht8 : (ts ++ (E ⟨dk, dc, dsn, dq⟩).take j).length ≤ 1048575 := by
              have hll := HLL.out
              rw [List.length_append, List.length_take]
              omega
            clear hmem
            generalize hy : (E ⟨dk, dc, dsn, dq⟩).getD j ezG = y at *
            obtain ⟨⟨yk, yc, ys, yq, yv, yd, yy⟩, ya, yg, yp⟩ := y
            obtain ⟨e0, e1, e2, e3, e4, e5, e6⟩ := hat
            simp only at e0 e1 e2 e3 e4 e5 e6 hq8
            generalize hts2 : ts ++ (E ⟨dk, dc, dsn, dq⟩).take j = ts2 at *
            generalize hqs2 : qs ++ ((E ⟨dk, dc, dsn, dq⟩).take j).flatMap (·.x.xs) = qs2 at *
            have HTS2 := Lib.hid hts2
            have HQS2 := Lib.hid hqs2
            clear hy hts2 hqs2
            have HB2 : Hid (Below wr.heap.size wr ((wr.alloc (.cells #[.int .i64 yk, .int .i64 yc, .int .i64 ys, .int .i64 yq, .int .i64 yv, .bool yd, .slice ya yy.length yp] 37)).alloc (.cells #[.int .i64 yk, .int .i64 yc, .int .i64 ys, .int .i64 yq, .int .i64 yv, .bool yd, .slice ya yy.length yp] 37))) := ((Below.refl _ _).alloc (Nat.le_refl _) _).alloc (by simp) _
            have HT2 := Lib.hid (HT.out.more HB2.out)
            have HN2 := Lib.hid (heap_alloc2_new wr (.cells #[.int .i64 yk, .int .i64 yc, .int .i64 ys, .int .i64 yq, .int .i64 yv, .bool yd, .slice ya yy.length yp] 37) (.cells #[.int .i64 yk, .int .i64 yc, .int .i64 ys, .int .i64 yq, .int .i64 yv, .bool yd, .slice ya yy.length yp] 37))
            have HN1 : Hid (((wr.alloc (.cells #[.int .i64 yk, .int .i64 yc, .int .i64 ys, .int .i64 yq, .int .i64 yv, .bool yd, .slice ya yy.length yp] 37)).alloc (.cells #[.int .i64 yk, .int .i64 yc, .int .i64 ys, .int .i64 yq, .int .i64 yv, .bool yd, .slice ya yy.length yp] 37)).heap[wr.heap.size]? = some (.cells #[.int .i64 yk, .int .i64 yc, .int .i64 ys, .int .i64 yq, .int .i64 yv, .bool yd, .slice ya yy.length yp] 37 (0, 0))) := by
              show _ = _
              rw [Go.Deep.blk_alloc_lt _ _ _ (by simp)]
              exact heap_alloc_new _ _
            have HS2 : Hid (((wr.alloc (.cells #[.int .i64 yk, .int .i64 yc, .int .i64 ys, .int .i64 yq, .int .i64 yv, .bool yd, .slice ya yy.length yp] 37)).alloc (.cells #[.int .i64 yk, .int .i64 yc, .int .i64 ys, .int .i64 yq, .int .i64 yv, .bool yd, .slice ya yy.length yp] 37)).heap.size = wr.heap.size + 2) := by show _ = _; simp
            have HUT : Hid (∀ g, ut.ownBlock = some g → g < wr.heap.size) := fun g hg => (World.ownsRow.lt HT.out.ask.told g hg).2
            have hwr : w.heap.size ≤ wr.heap.size := HT.out.ask.but.size
            clear HT
            go_wp2_with (at_builtin; refine wpList_append_lies _ (by rfl) _ _ _ (by rfl) w.heap.size 37 i0 (wrV 0 0 0 0 0 false none 0 0) 7 72 Try.underlying30 HI0.out HX0.out.1 HX0.out.2.1 HX0.out.2.2 (by rfl) (by omega) ut ts2.length (ts2.flatMap wrValsG) (by rfl) HT2.out.ask.told ⟨wr.heap.size + 1, 0, none⟩ 1 1 (wrValsG ⟨⟨yk, yc, ys, yq, yv, yd, yy⟩, ya, yg, yp⟩) (by rfl) (by rfl) (news_cells (e := ⟨⟨yk, yc, ys, yq, yv, yd, yy⟩, ya, yg, yp⟩) HN2.out) (by simpa using valsG_one [⟨⟨yk, yc, ys, yq, yv, yd, yy⟩, ya, yg, yp⟩]) (by omega) (by unfold maxLen; omega) (by omega) (by rw [HS2.out]; omega) _ rfl ?_; intro g3 cp3 w6 hown hgrow hg3 _; refine Hid.out ?_)
            refine Lib.hid ?_
            have HT6 : Hid (AskD M w w6 b n base V E (.slice (some ⟨g3, 0, none⟩) (ts2.length + 1) cp3) uq (ts2 ++ [⟨⟨yk, yc, ys, yq, yv, yd, yy⟩, ya, yg, yp⟩]) qs2 wo.heap.size (.cells #[.int .i64 dk, .int .i64 dc, .int .i64 dsn, .int .i64 dq] 55 (0, 0))) := HT2.out.tell (by
              show World.ownsRow _ _ _ _ _ _ _
              rw [List.length_append, List.flatMap_append]
              simpa using hown) hgrow (newOr_app hg3 _ _)
            have hsz6 := hgrow.size
            rw [HS2.out] at hsz6
            have q6 := (hgrow.block wr.heap.size (by rw [HS2.out]; omega) fun e => by have := HUT.out _ e.symm; omega).trans HN1.out
            have c6 := cell_of_row w6 wr.heap.size 6 _ _ _ q6
            simp at c6
            obtain ⟨v7, w7, r1, r2, r3, r4⟩ := HT6.out.ask.que.app ya yp yy (HSD.out w6 _ HMEM.out HT6.out.ask.but) hq8 (by omega) 35
            have HT7 : Hid (AskD M w w7 b n base V E (.slice (some ⟨g3, 0, none⟩) (ts2.length + 1) cp3) v7 (ts ++ (E ⟨dk, dc, dsn, dq⟩).take (j + 1)) (qs ++ ((E ⟨dk, dc, dsn, dq⟩).take (j + 1)).flatMap (·.x.xs)) wo.heap.size (.cells #[.int .i64 dk, .int .i64 dc, .int .i64 dsn, .int .i64 dq] 55 (0, 0))) := by
              have h := HT6.out.queue r2 r3 r4
              refine Lib.hid ?_
              rw [HTK.out, List.flatMap_append, ← List.append_assoc, ← List.append_assoc, HTS2.out, HQS2.out]
              simpa using h
            clear r2 r3 r4 q6 hown hgrow hg3 HT6 HT2 HN1 HN2 HB2
            go_wp2_with (at_builtin; refine Lib.wpList_append_run _ rfl _ _ _ _ rfl _ _ rfl rfl _ _ r1 ?_)
            exact ⟨⟨j + 1, _, _, by omega, by go_num, rfl, rfl, HT7⟩, by simp [intOf]; omega⟩
          · obtain rfl : j = L := by omega
            have HTE : Hid (AskD M w wr b n base V E ut uq (ts ++ E ⟨dk, dc, dsn, dq⟩) (qs ++ (E ⟨dk, dc, dsn, dq⟩).flatMap (·.x.xs)) wo.heap.size (.cells #[.int .i64 dk, .int .i64 dc, .int .i64 dsn, .int .i64 dq] 55 (0, 0))) := by
              have h := HT.out
              rw [List.take_of_length_le (by rw [HL.out]; exact Nat.le_refl _)] at h
              exact h
            have hpw2 := HPV.out wr HTE.out.ask.but
            have q2 := HTE.out.box
            have d0 := cell_of_row wr wo.heap.size 0 _ _ _ q2
            have d1 := cell_of_row wr wo.heap.size 1 _ _ _ q2
            have d2 := cell_of_row wr wo.heap.size 2 _ _ _ q2
            have d3 := cell_of_row wr wo.heap.size 3 _ _ _ q2
            simp at d0 d1 d2 d3
            have HMP := Lib.hid HTE.out.ask.rows.map
            clear q2 HT
            go_wp2_with (at_delete; refine wpList_delG (K := keyD) (by rfl) _ _ 86 30 (by rfl) Try.underlying86 HMP.out ⟨dk, dc, dsn, dq⟩ hok (by rfl) (by rfl) ?_; intro w5 hm5 ht5; refine Hid.out ?_)
            refine Lib.hid ?_
            have HN5 := Lib.hid (HNX.out w5 ut uq _ (HTE.out.ask.del hm5 ht5.grown))
            clear hm5 ht5 HTE HMP
            have hmz := least_le (B := xl + wgt (gs.map (·.x))) HN5.out
            have HMZ := Lib.hid hmz
            clear hmz
            go_wp2
            exact ⟨⟨_, _, rfl, rfl, ⟨_, HN5.out⟩⟩, Nat.lt_of_le_of_lt HMZ.out (Nat.lt_of_lt_of_eq (by omega) HME.out.symm)⟩

end Go.Proofs.Ytomndnopbpbblaa

/- Causes: the contract of impl.CausesOf. -/
namespace Go.Proofs.Ytomndnopbpbblaa
open Go.ChangeShapes Go.WideShapes Go.ChangeAt Go.RowKit Go.Joins Go.Maps
attribute [local go_sem ↓] Go.wp_at_zero Go.wp_at_succ

theorem addW_nodup {out : List Wr} {x : Wr} (h : out.Nodup) : (addW out x).Nodup := by
  cases hb : hasW out x with
  | true => rw [addW_has hb]; exact h
  | false =>
    rw [addW_not hb]
    refine List.nodup_append.2 ⟨h, by simp, fun y hy z hz e => ?_⟩
    have hz' : z = x := by simpa using hz
    subst hz'
    subst e
    rw [(hasW_iff out y).2 hy] at hb
    cases hb

theorem adds_nodup : ∀ (ws out : List Wr), out.Nodup → (ws.foldl addW out).Nodup
  | [], _, h => h
  | _ :: r, _, h => adds_nodup r _ (addW_nodup h)

theorem addEs_nodup : ∀ (es : List Ev) (out : List Wr), out.Nodup → (es.foldl addE out).Nodup
  | [], _, h => h
  | _ :: r, _, h => addEs_nodup r _ (by
    unfold addE
    split
    · exact h
    · exact adds_nodup _ _ h)

theorem written_nodup (es : List Ev) : (writtenL es).Nodup := addEs_nodup es [] (by simp)

theorem addW_all {P : Wr → Prop} {out : List Wr} {x : Wr} (h : ∀ y ∈ out, P y) (hx : P x) : ∀ y ∈ addW out x, P y := by
  unfold addW
  split
  · exact h
  · intro y hy
    rcases List.mem_append.1 hy with hy | hy
    · exact h y hy
    · have e : y = x := by simpa using hy
      subst e
      exact hx

theorem adds_all {P : Wr → Prop} : ∀ (ws out : List Wr), (∀ y ∈ out, P y) → (∀ y ∈ ws, P y) → ∀ y ∈ ws.foldl addW out, P y
  | [], _, h, _ => h
  | x :: r, _, h, hx => adds_all r _ (addW_all h (hx x (by simp))) fun y hy => hx y (by simp [hy])

theorem addEs_all {P : Wr → Prop} : ∀ (es : List Ev) (out : List Wr), (∀ y ∈ out, P y) → (∀ e ∈ es, ∀ y ∈ e.ws, P y) → ∀ y ∈ es.foldl addE out, P y
  | [], _, h, _ => h
  | e :: r, _, h, hx => addEs_all r _ (by
    unfold addE
    split
    · exact h
    · exact adds_all _ _ h (hx e (by simp))) fun z hz => hx z (by simp [hz])

theorem mem_getDe {α : Type} {l : List α} {x : α} (d : α) (h : x ∈ l) : ∃ k, k < l.length ∧ l.getD k d = x := by
  obtain ⟨k, hk, e⟩ := List.getElem_of_mem h
  exact ⟨k, hk, by simp [List.getD, hk, e]⟩

theorem written_R {es : List Ev} (h : EsR es) : ∀ y ∈ writtenL es, WrR y := addEs_all es [] (fun y hy => by cases hy) fun e he y hy => by
  obtain ⟨k, hk, rfl⟩ := mem_getDe evz he
  obtain ⟨j, hj, rfl⟩ := mem_getDe wz hy
  exact (h k hk).2.2 j hj

theorem wr_deps {y : Wr} (h : WrR y) : ∀ d ∈ y.xs, DpR d := fun d hd => by
  obtain ⟨j, hj, rfl⟩ := mem_getDe dz hd
  exact h.2.2.2.2.2 j hj

/-- What causeTeller has handed over. -/
def CauF (w1 : World) (ws : List Wr) : Fact := fun v w => ∃ (W : World) (gs : List EnG) (vv : Value), Below w1.heap.size w1 W ∧ v = .func (.func 47) #[] #[.pointer (some ⟨W.heap.size + 1, 0, none⟩)] ∧ gs.map (·.x) = ws ∧ Te W w (W.heap.size + 1) W.heap.size gs.length vv gs

theorem lasts_cauF (w1 : World) (ws : List Wr) : lasts (fun w w' => Below w.heap.size w w') (CauF w1 ws) := by
  rintro v w w' ⟨W, gs, vv, h1, h2, h3, V, h4⟩ hb
  exact ⟨W, gs, vv, h1, h2, h3, V, h4.more hb⟩

set_option maxRecDepth 100000 in
set_option maxHeartbeats 8000000 in
theorem implCauses_any (a : Option Addr) (n cap : Nat) (es : List Ev) (x : Wr) (ad : Option Addr) (cp : Nat) (w : World) (hn : es.length = n) (hm : n ≤ 1048576) (hx : FewE es) (hh : heftB (evW es) ≤ 1048576) (hr : EsR es) (hi : IsEs w a es) (hxl : x.xs.length ≤ 1048576) (hxr : WrR x) (hxd : IsDeps w ad x.xs) :
    Calls Try.prog 10 #[.slice a n cap, wrOf x ad cp] w fun e w' => ∃ v ts, e = .returned v ∧ ts.map (·.x) = causesL (writtenL es) x.xs ∧ RowG w' w.heap.size v ts ∧ Below w.heap.size w w' := by
  have HI := Lib.hid hi
  have HN := Lib.hid hn
  have HX := Lib.hid hx
  have HHE := Lib.hid hh
  have HR := Lib.hid hr
  have HXD := Lib.hid hxd
  have HXR := Lib.hid hxr
  have HWR : Hid (WsR (writtenL es)) := fun j hj => written_R HR.out _ (by simp [List.getD, hj])
  have HWG : Hid (wgt (writtenL es) ≤ 1048576) := Nat.le_trans (written_wgt es) HHE.out
  clear hi hn hx hh hr hxd hxr
  have HTEL : Hid (∀ (w1 W w2 : World) (gs : List EnG) (vv : Value), Below w.heap.size w w1 → Below w1.heap.size w1 W → gs.map (·.x) = writtenL es → Te W w2 (W.heap.size + 1) W.heap.size gs.length vv gs → Calls Try.prog 47 #[wrOf x ad cp, .pointer (some ⟨W.heap.size + 1, 0, none⟩)] w2 fun e w' => ∃ v ts, e = .returned v ∧ ts.map (·.x) = causesL (writtenL es) x.xs ∧ RowG w' w.heap.size v ts ∧ Below w.heap.size w w') := fun w1 W w2 gs vv hb1 hbW hgs hte => by
    obtain ⟨V, hT⟩ := hte
    have hbw : Below w.heap.size w W := below_step hb1 hb1.size hbW
    have hb2 : Below w.heap.size w w2 := below_step hbw hbw.size hT.below
    have hrows := hT.rows
    rw [List.take_of_length_le (Nat.le_refl _)] at hrows
    refine (teller_any w2.heap.size (W.heap.size + 1) W.heap.size gs.length W.heap.size gs V x ad cp w2 (by rw [hgs]; exact written_nodup es) (by rw [hgs]; exact HWG.out) hxl (HXD.out.below hb2) (wr_deps HXR.out) (fun y hy => wr_deps (written_R HR.out y (by rw [← hgs]; exact hy))) (fun e he => ⟨(hT.row.deps e he).1, fun hp e0 => hT.dis2 e he hp (.inl e0)⟩) hT.row.apart hT.below.size hT.box (by omega) hrows hrows.lt (Nat.le_refl _)).mono ?_
    rintro e w' ⟨v, ts, rfl, h⟩
    exact ⟨v, ts, rfl, by rw [h.is, hgs], h.row.mono hbw.size, Below.butOn hb2 h.but hb2.size fun y hy => by rw [hy]; exact hbw.size⟩
  obtain ⟨xk, xc, xs', xq, xv, xd, xx⟩ := x
  unfold wrOf at HTEL ⊢
  simp only at hxl HXD HTEL ⊢
  have HBA : Hid (Below w.heap.size w (w.alloc (.cells #[.int .i64 xk, .int .i64 xc, .int .i64 xs', .int .i64 xq, .int .i64 xv, .bool xd, .slice ad xx.length cp] 37))) := (Below.refl _ _).alloc (Nat.le_refl _) _
  have HBX : Hid ((w.alloc (.cells #[.int .i64 xk, .int .i64 xc, .int .i64 xs', .int .i64 xq, .int .i64 xv, .bool xd, .slice ad xx.length cp] 37)).heap[w.heap.size]? = some (.cells #[.int .i64 xk, .int .i64 xc, .int .i64 xs', .int .i64 xq, .int .i64 xv, .bool xd, .slice ad xx.length cp] 37 (0, 0))) := heap_alloc_new _ _
  have HSZ : Hid (w.heap.size < (w.alloc (.cells #[.int .i64 xk, .int .i64 xc, .int .i64 xs', .int .i64 xq, .int .i64 xv, .bool xd, .slice ad xx.length cp] 37)).heap.size) := by show _ < _; simp
  go_enter Try.func10, Try.ntmps10
  go_wp2_with fail
  generalize w.alloc (.cells #[.int .i64 xk, .int .i64 xc, .int .i64 xs', .int .i64 xq, .int .i64 xv, .bool xd, .slice ad xx.length cp] 37) = w1 at *
  have HCL : Hid (∀ w', Below w1.heap.size w1 w' → w'.cell? ⟨w.heap.size, 0, none⟩ = some (.int .i64 xk) ∧ w'.cell? ⟨w.heap.size, 1, none⟩ = some (.int .i64 xc) ∧ w'.cell? ⟨w.heap.size, 2, none⟩ = some (.int .i64 xs') ∧ w'.cell? ⟨w.heap.size, 3, none⟩ = some (.int .i64 xq) ∧ w'.cell? ⟨w.heap.size, 4, none⟩ = some (.int .i64 xv) ∧ w'.cell? ⟨w.heap.size, 5, none⟩ = some (.bool xd) ∧ w'.cell? ⟨w.heap.size, 6, none⟩ = some (.slice ad xx.length cp)) := fun w' hG => by
    have q := (hG.block w.heap.size HSZ.out).trans HBX.out
    refine ⟨?_, ?_, ?_, ?_, ?_, ?_, ?_⟩ <;> (rw [cell_of_row _ _ _ _ _ (0, 0) q]; rfl)
  refine wp_region_slots 3 [[(0, false)], [(5, true)], [(3, false)]] (fun w' => Below w1.heap.size w1 w') (fun w w' => Below w.heap.size w w') (by kernel_rfl) (by kernel_rfl) (by rfl) ((Below.refl _ _).drew) (fun _ _ h hb => below_step h h.size hb) ?_
  apply slot_eq
  · intro ρ w' ⟨p1, p2, p3⟩ hG hn
    simp at hn
    go_simp
    exact ⟨Below.refl _ _, rfl⟩
  refine slot_fact (CauF w1 (writtenL es)) (lasts_cauF _ _) ?_ ?_
  · intro ρ w' ⟨p1, p2, p3⟩ hG hn
    simp at hn
    go_simp
    exact got_call (causeTeller_any a n cap es w' HN.out hm HX.out HHE.out HR.out HWR.out (HI.out.below (below_step HBA.out HBA.out.size hG))) fun e w'' ⟨v, gs, he, h1, h2⟩ => ⟨_, he, (by obtain ⟨V, h⟩ := h2; exact h.below), w', gs, v, hG, rfl, h1, h2⟩
  apply slot_eq
  · intro ρ w' ⟨p1, p2, p3⟩ hG hn
    obtain ⟨c0, c1, c2, c3, c4, c5, c6⟩ := HCL.out w' hG
    simp at hn
    go_simp
    exact ⟨Below.refl _ _, rfl⟩
  refine slot_end ?_
  rintro tv w4 hG hF
  simp at hF
  obtain ⟨f7, hcf, f5⟩ := hF
  obtain ⟨W, gs, vv, hbW, f6, hgs, hte⟩ := hcf
  have HTE := Lib.hid (HTEL.out w1 W w4 gs vv HBA.out hbW hgs hte)
  clear hbW hgs hte hG HTEL HCL HBX HSZ HBA
  simp only [List.take_succ_cons, List.take_zero, List.drop_succ_cons, List.drop_zero, putAll, f7, f6, f5]
  clear f7 f6 f5
  simp only [Act.put, List.setIfInBounds_toArray, List.set_cons_succ, List.set_cons_zero]
  go_wp2_with fail
  refine HTE.out.mono ?_
  rintro e w5 ⟨v, ts, rfl, h1, h2, h3⟩
  have H1 := Lib.hid h1
  have H2 := Lib.hid h2
  have H3 := Lib.hid h3
  clear h1 h2 h3
  go_wp2
  go_ret
  exact ⟨_, ts, rfl, H1.out, H2.out, H3.out⟩

end Go.Proofs.Ytomndnopbpbblaa
