import Derived.Test.YteladgfdedlmjaaGreatDoorPack12
import Derived.Test.YteladgfdedlmjaaGreatDoorPack11
import Derived.Test.YteladgfdedlmjaaGreatDoorPack19
import Derived.Test.YteladgfdedlmjaaGreatDoorPack7
import Derived.Test.YteladgfdedlmjaaGreatDoorPack18
import Derived.Deep.DeepCutAuto
import Derived.Shelf.SlGeneric
import Derived.Shelf.SlSortCmp.WholeK
import Derived.Ground.SlsfProg
import Derived.Test.YteladgfdedlmjaaGreatDoorProg
import Derived.Test.YteladgfdedlmjaaGreatDoorPack3
import Derived.Sort.Grow
import Derived.Test.YteladgfdedlmjaaGreatDoorPack6
import Derived.Test.YteladgfdedlmjaaGreatDoorPack4
namespace Go.Proofs.YteladgfdedlmjaaGreatDoor
open Go.ChangeShapes Go.WideShapes Go.ChangeAt Go.RowKit Go.Joins
set_option maxRecDepth 100000
theorem those_mem (vs : List Wr) (st : Nat → Bool) (fit : Bool) : ∀ k, k ≤ vs.length → ∀ x ∈ thoseTo vs st fit k, x ∈ vs
 | 0, _, x, hx => by simp [thoseTo] at hx
 | k + 1, hk, x, hx => by
  unfold thoseTo at hx
  split at hx
  ·rcases List.mem_append.1 hx with h | h
   ·exact those_mem vs st fit k (by omega) x h
   ·have : x = vs.getD k wz := by simpa using h
    rw [this]
    have e : vs.getD k wz = vs[k] := by simp [List.getD, show k < vs.length by omega]
    rw [e]
    exact List.getElem_mem (by omega)
  ·exact those_mem vs st fit k (by omega) x hx
theorem fitL_mem {us vs : List Wr} {fit : Bool} {x : Wr} (h : x ∈ fitL us vs fit) : x ∈ vs := by
 unfold fitL at h
 cases hr : rightB us vs
 ·rw [hr] at h
  simp at h
 ·rw [hr] at h
  exact those_mem vs _ fit _ (Nat.le_refl _) x h
theorem fitL_len (us vs : List Wr) (fit : Bool) : (fitL us vs fit).length ≤ vs.length := by
 unfold fitL
 cases rightB us vs
 ·exact Nat.zero_le _
 ·exact those_len vs _ fit _
theorem fitL_few {us vs : List Wr} (hy : Few vs) (fit : Bool) : Few (fitL us vs fit) := fun i hi => by
 have hm : (fitL us vs fit).getD i wz ∈ fitL us vs fit := by
  have e : (fitL us vs fit).getD i wz = (fitL us vs fit)[i] := by simp [List.getD, hi]
  rw [e]
  exact List.getElem_mem hi
 obtain ⟨j, hj, e⟩ := List.mem_iff_getElem.1 (fitL_mem hm)
 have := hy j hj
 rw [← e]
 simpa [List.getD, hj] using this
theorem right_parts {us vs : List Wr} (h : rightB us vs = true) : Rise us ∧ (∀ x ∈ us, okW x = true) ∧ ∀ x ∈ vs, okW x = true := by
 unfold rightB at h
 rw [Bool.and_eq_true] at h
 exact ⟨((mapOk_iff us).1 h.1).2, ((mapOk_iff us).1 h.1).1, fun x hx => List.all_eq_true.1 h.2 x hx⟩
theorem fitL_right {us vs : List Wr} (h : rightB us vs = true) (fit : Bool) : fitL us vs fit = thoseTo vs (fixS us vs) fit vs.length := by
 unfold fitL
 rw [h]
theorem fitL_wrong {us vs : List Wr} (h : rightB us vs = false) (fit : Bool) : fitL us vs fit = [] := by
 unfold fitL
 rw [h]
end Go.Proofs.YteladgfdedlmjaaGreatDoor
namespace Go.Proofs.YteladgfdedlmjaaGreatDoor
open Go.ChangeShapes Go.WideShapes Go.ChangeAt Go.RowKit Go.Joins
set_option maxRecDepth 100000
attribute [local go_sem ↓] Go.wp_at_zero Go.wp_at_succ
def widL (us vs : List Wr) : List Wr := match rightB us vs with
 | true => joinW us (fitL us vs true)
 | false => []
theorem widL_right {us vs : List Wr} (h : rightB us vs = true) : widL us vs = joinW us (fitL us vs true) := by
 unfold widL
 rw [h]
theorem widL_wrong {us vs : List Wr} (h : rightB us vs = false) : widL us vs = [] := by
 unfold widL
 rw [h]
theorem widL_mapOk (us vs : List Wr) : mapOkB (widL us vs) = true := by
 cases h : rightB us vs
 ·rw [widL_wrong h]
  rfl
 ·rw [widL_right h]
  obtain ⟨h1, h2, h3⟩ := right_parts h
  obtain ⟨j1, j2, -⟩ := join_spec (fitL us vs true) us h1
  refine (mapOk_iff _).2 ⟨fun x hx => ?_, j1⟩
  rcases j2 x hx with hx | hx
  ·exact h2 x hx
  ·exact h3 x (fitL_mem hx)
set_option maxHeartbeats 2000000 in
theorem specWidest_any (a b : Option Addr) (n m cap cap' : Nat) (us vs : List Wr) (w : World) (hn : us.length = n) (hm : vs.length = m) (hs : n + m ≤ 1048576) (hx : Few us) (hy : Few vs) (hi : IsWs w a us) (hj : IsWs w b vs) :
  Calls Tryz.prog 126 #[.slice a n cap, .slice b m cap'] w fun e w' => ∃ g cp es L, e = .returned (.slice (some ⟨g, 0, none⟩) L cp) ∧ es.length = L ∧ es.map (·.x) = widL us vs ∧ RowEs w' w.heap.size g cp es ∧ Below w.heap.size w w' := by
 have HI := Lib.hid hi
 have HJ := Lib.hid hj
 have HN := Lib.hid hn
 have HM := Lib.hid hm
 have HX := Lib.hid hx
 have HY := Lib.hid hy
 have HC := Lib.hid (l03Right_any a b n m cap cap' us vs w hn hm (by omega) (by omega) hx hy hi hj)
 clear hi hj hn hm hx hy
 cases hr : rightB us vs
 ·have HF := Lib.hid (widL_wrong hr)
  rw [hr] at HC
  clear hr
  go_enter Tryz.func126, Tryz.ntmps126
  go_wp2_with fail
  refine HC.out.mono ?_
  rintro e w1 ⟨rfl, hb⟩
  have HB1 : Hid (Below w.heap.size w (w1.alloc (.cells #[] 33))) := hb.alloc hb.size _
  have HR1 : Hid (RowEs (w1.alloc (.cells #[] 33)) w.heap.size w1.heap.size 0 []) := rowEs_start w1 _ hb.size
  clear hb HC
  go_wp2
  go_ret
  exact ⟨_, _, [], 0, rfl, rfl, HF.out.symm, HR1.out, HB1.out⟩
 ·have HF := Lib.hid (widL_right hr)
  rw [hr] at HC
  clear hr
  go_enter Tryz.func126, Tryz.ntmps126
  go_wp2_with fail
  refine HC.out.mono ?_
  rintro e w1 ⟨rfl, hb⟩
  have HB1 := Lib.hid hb
  clear hb HC
  go_wp2_with fail
  refine (specFitting_any a b n m cap cap' us vs _ HN.out HM.out hs HX.out HY.out (HI.out.below HB1.out) (HJ.out.below HB1.out)).mono ?_
  rintro e w2 ⟨g, cp, es, L, rfl, hl, he, hrow, hb⟩
  have HB2 := Lib.hid (below_step HB1.out HB1.out.size hb)
  have HFF := Lib.hid (fitL_few (us := us) HY.out true)
  have HFW : Hid (IsWs w2 (some ⟨g, 0, none⟩) (fitL us vs true)) := (hrow.holds he).isWs HFF.out
  have HFL : Hid ((fitL us vs true).length = L) := by
   rw [← he, List.length_map]
   exact hl
  have hLm : L ≤ m := by
   have := fitL_len us vs true
   rw [HFL.out, HM.out] at this
   exact this
  clear hb hl he hrow HB1
  go_wp2_with fail
  refine (l02Join_gen a _ n L cap cp us (fitL us vs true) _ HN.out HFL.out (by omega) HX.out HFF.out (HI.out.below HB2.out) HFW.out).mono ?_
  rintro e w3 ⟨g3, cp3, es3, L3, rfl, hl, he, hrow, hb⟩
  have HB3 := Lib.hid (below_step HB2.out HB2.out.size hb)
  have HA := Lib.hid (And.intro hl (And.intro (he.trans HF.out.symm) (hrow.mono HB2.out.size)))
  clear hl he hrow hb
  go_wp2
  go_ret
  exact ⟨g3, cp3, es3, L3, rfl, HA.out.1, HA.out.2.1, HA.out.2.2, HB3.out⟩
end Go.Proofs.YteladgfdedlmjaaGreatDoor
namespace Go.Proofs.YteladgfdedlmjaaGreatDoor
open Go.ChangeShapes Go.WideShapes Go.ChangeAt Go.RowKit Go.Joins
theorem le_trans' {a b c : List Wr} (ha : OkM a) (hb : OkM b) (hc : OkM c) (h : joinW a b = b) (h' : joinW b c = c) : joinW a c = c := by
 have := join_assoc ha hb hc
 rw [h, h'] at this
 exact this.symm
theorem le_sup {a b : List Wr} (ha : OkM a) (hb : OkM b) : joinW a (joinW a b) = joinW a b := by
 rw [← join_assoc ha ha hb, join_self ha]
theorem okM_one {x : Wr} (h : 0 ≤ x.k ∧ x.k ≤ 5) : OkM [x] := ⟨List.pairwise_singleton _ _, fun y hy => by
 have : y = x := by simpa using hy
 rw [this]
 exact h⟩
theorem put_join (a : List Wr) (x : Wr) : putW a x = joinW a [x] := rfl
theorem allTo_okM {us vs : List Wr} {st : Nat → Bool} (hu : OkM us) (hv : ∀ x ∈ vs, 0 ≤ x.k ∧ x.k ≤ 5) : ∀ k, k ≤ vs.length → OkM (allTo us vs st k)
 | 0, _ => hu
 | k + 1, hk => by
  have ih := allTo_okM hu hv (st := st) k (by omega)
  have hm : vs.getD k wz ∈ vs := by
   have e : vs.getD k wz = vs[k] := by simp [List.getD, show k < vs.length by omega]
   rw [e]
   exact List.getElem_mem (by omega)
  cases hb : st k
  ·rw [allTo_no hb]
   exact ih
  ·rw [allTo_yes hb, put_join]
   exact ih.join (okM_one (hv _ hm))
theorem le_allTo {us vs : List Wr} {st : Nat → Bool} (hu : OkM us) (hv : ∀ x ∈ vs, 0 ≤ x.k ∧ x.k ≤ 5) : ∀ k, k ≤ vs.length → joinW us (allTo us vs st k) = allTo us vs st k
 | 0, _ => join_self hu
 | k + 1, hk => by
  have ih := le_allTo hu hv (st := st) k (by omega)
  have ho := allTo_okM hu hv (st := st) k (by omega)
  have hm : vs.getD k wz ∈ vs := by
   have e : vs.getD k wz = vs[k] := by simp [List.getD, show k < vs.length by omega]
   rw [e]
   exact List.getElem_mem (by omega)
  cases hb : st k
  ·rw [allTo_no hb]
   exact ih
  ·rw [allTo_yes hb, put_join]
   have h1 := okM_one (hv _ hm)
   exact le_trans' hu ho (ho.join h1) ih (le_sup ho h1)
theorem wid_all {us vs : List Wr} (h : rightB us vs = true) : widL us vs = allOf us vs (fixS us vs) := by
 rw [widL_right h, fitL_right h]
 unfold allOf
 rw [allTo_join]
theorem right_keys {us vs : List Wr} (h : rightB us vs = true) : OkM us ∧ (∀ x ∈ vs, 0 ≤ x.k ∧ x.k ≤ 5) ∧ mapOkB us = true := by
 obtain ⟨h1, h2, h3⟩ := right_parts h
 exact ⟨⟨h1, fun x hx => okW_key (h2 x hx)⟩, fun x hx => okW_key (h3 x hx), (mapOk_iff us).2 ⟨h2, h1⟩⟩
end Go.Proofs.YteladgfdedlmjaaGreatDoor
namespace Go.Proofs.YteladgfdedlmjaaGreatDoor
open Go.ChangeShapes Go.WideShapes Go.ChangeAt Go.RowKit Go.Joins
theorem wid_has {us vs : List Wr} (h : rightB us vs = true) : withinB us (widL us vs) = true := by
 obtain ⟨hu, hv, hm⟩ := right_keys h
 refine (within_iff _ _).2 ⟨hm, widL_mapOk _ _, ?_⟩
 rw [wid_all h]
 exact le_allTo hu hv _ (Nat.le_refl _)
end Go.Proofs.YteladgfdedlmjaaGreatDoor
namespace Go.Proofs.YteladgfdedlmjaaGreatDoor
open Go.ChangeShapes Go.WideShapes Go.ChangeAt Go.RowKit Go.Joins
def seeFr (x : Sm) (vs : List Wr) : List Wr := (widL x.ws vs).filter (lackB (findW x.ws))
def seeLog (x : Sm) (vs : List Wr) : ByteArray := x.t ++ str (batchT (seeFr x vs))
def seeXs (x : Sm) (vs : List Wr) : Sm := ⟨x.si, max x.cl (clockL (widL x.ws vs)), x.sq, x.la, widL x.ws vs, seeLog x vs⟩
def seeGo (x : Sm) (vs : List Wr) : Sm × Int := if (seeLog x vs).size ≤ 60000 then (seeXs x vs, 0) else (smz, 2)
noncomputable def seeAns (x : Sm) (vs : List Wr) : Sm × Int := if (smOkB x && rightB x.ws vs) = true then seeGo x vs else (smz, 1)
theorem wid_ok (us vs : List Wr) : mapOkB (widL us vs) = true := widL_mapOk us vs
theorem take_filter {P : Wr → Bool} {ms : List Wr} {k : Nat} (h : k < ms.length) : (ms.take (k + 1)).filter P = (ms.take k).filter P ++ (if P (ms.getD k wz) = true then [ms.getD k wz] else []) := by
 rw [List.take_add_one, List.getElem?_eq_getElem h, List.filter_append]
 have e : ms.getD k wz = ms[k] := by simp [List.getD, h]
 rw [e]
 simp only [Option.toList_some, List.filter_cons, List.filter_nil]
end Go.Proofs.YteladgfdedlmjaaGreatDoor
namespace Go.Proofs.YteladgfdedlmjaaGreatDoor
open Go.ChangeShapes Go.WideShapes Go.ChangeAt Go.RowKit Go.Joins
theorem rise_filter {P : Wr → Bool} {ms : List Wr} (h : Rise ms) : Rise (ms.filter P) := List.Pairwise.filter _ h
theorem find_filter {P : Wr → Bool} {ms : List Wr} (h : Rise ms) (key : Int) : findW (ms.filter P) key = (findW ms key).filter P := by
 cases hf : findW ms key with
 | none =>
  cases hg : findW (ms.filter P) key with
  | none => rfl
  | some y =>
   exfalso
   have h1 := (List.mem_filter.1 (findW_mem hg)).1
   have h2 := findW_mem_rise h h1
   rw [findW_key hg, hf] at h2
   cases h2
 | some y =>
  have hk := findW_key hf
  cases hp : P y with
  | true =>
   have h1 : y ∈ ms.filter P := List.mem_filter.2 ⟨findW_mem hf, hp⟩
   have h2 := findW_mem_rise (rise_filter h) h1
   rw [hk] at h2
   rw [h2]
   simp [Option.filter, hp]
  | false =>
   cases hg : findW (ms.filter P) key with
   | none => simp [Option.filter, hp]
   | some z =>
    exfalso
    have h1 := List.mem_filter.1 (findW_mem hg)
    have h2 := findW_mem_rise h h1.1
    rw [findW_key hg, hf] at h2
    rw [Option.some.inj h2, h1.2] at hp
    cases hp
theorem see_told {us vs : List Wr} (h : rightB us vs = true) : toldM (((widL us vs).filter (lackB (findW us))).foldl regPut (findW us)) = widL us vs := by
 have hw := (within_iff _ _).1 (wid_has h)
 have hu := (mapOk_iff us).1 hw.1
 have hm := (mapOk_iff (widL us vs)).1 hw.2.1
 have hfun : ((widL us vs).filter (lackB (findW us))).foldl regPut (findW us) = findW (widL us vs) := by
  funext key
  rw [← (join_spec _ us hu.2).2.2 key, find_join hu.2 (rise_filter hm.2), find_filter hm.2]
  have e : findW (widL us vs) key = later2 (findW us key) (findW (widL us vs) key) := by
   rw [← find_join hu.2 hm.2, hw.2.2]
  cases hf : findW (widL us vs) key with
  | none =>
   rw [hf] at e
   exact e.symm
  | some y =>
   rw [hf] at e
   cases hl : lackB (findW us) y with
   | true =>
    simp only [Option.filter, hl, if_true]
    exact e.symm
   | false =>
    have hk := findW_key hf
    unfold lackB at hl
    rw [hk] at hl
    cases hx : findW us key with
    | none => rw [hx] at hl; cases hl
    | some x =>
     rw [hx] at hl
     simp only [Bool.not_eq_false', beq_iff_eq] at hl
     have := cmpW_zero hl
     subst this
     simp [Option.filter, lackB, hk, hx, cmpW_self, later2]
 rw [hfun]
 exact told_find hm.2 (mapOk_keys hw.2.1)
end Go.Proofs.YteladgfdedlmjaaGreatDoor
namespace Go.Proofs.YteladgfdedlmjaaGreatDoor
open Go.ChangeShapes Go.WideShapes Go.ChangeAt Go.RowKit Go.Joins
def Turn (B : Nat) (w w' : World) : Prop := ∃ b, B ≤ b ∧ (∃ es c, w.heap[b]? = some (.map es c)) ∧ Hole b w w'
theorem map_no_cell {w : World} {b o : Nat} {es : _} {c : _} (h : w.heap[b]? = some (.map es c)) : w.cell? ⟨b, o, none⟩ = none := by
 simp [World.cell?, h]
theorem map_ne_deps {w : World} {b g o : Nat} {xs : List Dp} (hm : ∃ es c, w.heap[b]? = some (.map es c)) (hp : 0 < xs.length) (h : HoldsDeps w g o xs) : g ≠ b := by
 rintro rfl
 obtain ⟨es, c, hm⟩ := hm
 obtain ⟨h0, -⟩ := h 0 hp
 rw [map_no_cell hm] at h0
 cases h0
theorem map_ne_cells {w : World} {b g : Nat} {cs : Array Value} {t : Nat} {fr : Nat × Nat} (hm : ∃ es c, w.heap[b]? = some (.map es c)) (h : w.heap[g]? = some (.cells cs t fr)) : g ≠ b := by
 rintro rfl
 obtain ⟨es, c, hm⟩ := hm
 rw [hm] at h
 cases h
theorem RowG.turn {w w' : World} {B base : Nat} {v : Value} {es : List EnG} (h : RowG w base v es) (ht : Turn B w w') : RowG w' base v es := by
 obtain ⟨b, -, hm, hh⟩ := ht
 refine h.aside hh ⟨?_, fun e he hp => map_ne_deps hm hp ((h.deps e he).1 hp).2.2.2.1⟩
 intro e
 rcases h.own.2 with ⟨h1, -⟩ | ⟨g, cap, cur, h1, -, h3, -⟩
 ·rw [h1] at e
  simp [Value.ownBlock] at e
 ·rw [h1] at e
  have e2 : g = b := by simpa [Value.ownBlock] using e
  exact map_ne_cells hm h3 e2
theorem shim_turn (B lo : Nat) : lasts (Turn B) (ShimF lo) := by
 rintro v w w' ⟨b, h1, h2, h3⟩ ⟨m, -, hm, hh⟩
 exact ⟨b, h1, h2, (hh.block b (Array.getElem?_eq_some_iff.1 h3).1 (map_ne_cells hm h3)).trans h3⟩
theorem ws0_away {w : World} {b : Nat} {a : Option Addr} {ws : List Wr} (h : IsWs0 w a ws) (hm : ∃ es c, w.heap[b]? = some (.map es c)) : IsWsX b w a ws := by
 rcases h with h | ⟨g, o, ha, hlt, hh⟩
 ·exact .inl h
 ·by_cases hp : 0 < ws.length
  ·refine .inr ⟨g, o, ha, ?_, hlt, fun i hi => ?_⟩
   ·rintro rfl
    obtain ⟨a', cap, ⟨h1, -⟩, -⟩ := hh 0 hp
    obtain ⟨es, c, hm⟩ := hm
    rw [map_no_cell hm] at h1
    cases h1
   ·obtain ⟨a', cap, h1, h2⟩ := hh i hi
    refine ⟨a', cap, h1, ?_⟩
    rcases h2 with h2 | ⟨g2, h3, h4, h5⟩
    ·exact .inl h2
    ·by_cases hq : 0 < (ws.getD i wz).xs.length
     ·exact .inr ⟨g2, 0, h3, map_ne_deps hm hq h5, h4, h5⟩
     ·exact .inl (List.length_eq_zero_iff.1 (by omega))
  ·exact .inl (List.length_eq_zero_iff.1 (by omega))
theorem RegsX.isMap {w0 w : World} {b n : Nat} {M : Int → Option Wr} (h : RegsX w0 w b n M) : ∃ es c, w.heap[b]? = some (.map es c) := by
 obtain ⟨f, ⟨D, ⟨es, c, h1, -⟩, -⟩, -⟩ := h
 exact ⟨es, c, h1⟩
def KeF (base : Nat) (si cl sq la : Int) (t : ByteArray) (m : List Wr) : Fact := fun v w => ∃ a' n' cp' es, v = .tuple #[shV si cl sq la a' n' cp' t, .bool true] ∧ es.length = n' ∧ es.map (·.x) = m ∧ RowG w base (.slice a' n' cp') es
def KsF (base : Nat) (si cl sq la : Int) (t : ByteArray) (m : List Wr) : Fact := fun v w => ∃ a' n' cp' es, v = shV si cl sq la a' n' cp' t ∧ es.length = n' ∧ es.map (·.x) = m ∧ RowG w base (.slice a' n' cp') es
theorem lasts_ke (base : Nat) (si cl sq la : Int) (t : ByteArray) (m : List Wr) : lasts (fun w w' => Below w.heap.size w w') (KeF base si cl sq la t m) := by
 rintro v w w' ⟨a', n', cp', es, h1, h2, h3, h4⟩ hr
 exact ⟨a', n', cp', es, h1, h2, h3, h4.below hr⟩
theorem turn_ke (B base : Nat) (si cl sq la : Int) (t : ByteArray) (m : List Wr) : lasts (Turn B) (KeF base si cl sq la t m) := by
 rintro v w w' ⟨a', n', cp', es, h1, h2, h3, h4⟩ hr
 exact ⟨a', n', cp', es, h1, h2, h3, h4.turn hr⟩
theorem lasts_ks (base : Nat) (si cl sq la : Int) (t : ByteArray) (m : List Wr) : lasts (fun w w' => Below w.heap.size w w') (KsF base si cl sq la t m) := by
 rintro v w w' ⟨a', n', cp', es, h1, h2, h3, h4⟩ hr
 exact ⟨a', n', cp', es, h1, h2, h3, h4.below hr⟩
theorem turn_ks (B base : Nat) (si cl sq la : Int) (t : ByteArray) (m : List Wr) : lasts (Turn B) (KsF base si cl sq la t m) := by
 rintro v w w' ⟨a', n', cp', es, h1, h2, h3, h4⟩ hr
 exact ⟨a', n', cp', es, h1, h2, h3, h4.turn hr⟩
end Go.Proofs.YteladgfdedlmjaaGreatDoor
namespace Go.Proofs.YteladgfdedlmjaaGreatDoor
def sealL (ops : Array Oper) (m lo : Nat) : Bool :=
 (List.range ops.size).all fun i => decide (i < m) || (match ops[i]? with
  | some o => (List.range i).all fun j => decide (j = lo) || (cover ops (List.range i).reverse ((o.after.toList.filter fun e => Region.binds .any e).map (·.on))).contains j
  | none => false)
theorem sealedL {ops : Array Oper} {m lo : Nat} (h : sealL ops m lo = true) {listed : Array Bool} (hdown : ∀ (i : Nat) (o : Oper), ops[i]? = some o → listed.getD i false = true → ∀ e ∈ o.after, Region.binds .any e = true → listed.getD e.on false = true)
  {i : Nat} {o : Oper} (ho : ops[i]? = some o) (hi : m ≤ i) (hall : ∀ e ∈ o.after, Region.binds .any e = true → listed.getD e.on false = true) {j : Nat} (hj : j < i) (hne : j ≠ lo) : listed.getD j false = true := by
 have hlt := (Array.getElem?_eq_some_iff.1 ho).1
 have h1 := List.all_eq_true.1 h i (List.mem_range.2 hlt)
 simp only [ho, Bool.or_eq_true, decide_eq_true_eq] at h1
 rcases h1 with h1 | h1
 ·omega
 ·have h2 := List.all_eq_true.1 h1 j (List.mem_range.2 hj)
  simp only [Bool.or_eq_true, decide_eq_true_eq] at h2
  rcases h2 with h2 | h2
  ·exact absurd h2 hne
  ·refine cover_listed hdown _ _ (fun x hx => ?_) j (by simpa using h2)
   simp only [List.mem_map, List.mem_filter, Array.mem_toList_iff] at hx
   obtain ⟨e, ⟨he, hb⟩, rfl⟩ := hx
   exact hall e he hb
def tidyL (ops : Array Oper) (m lo : Nat) (N : List (List (Tmp × Bool))) : Bool :=
 distB (ops.toList.take m) [] && ((ops.toList.take m).all fun o => o.guard.isNone) && (N.length == m) && decide (m < ops.size) && decide (lo < m) && sealL ops m lo && sealB ops (m + 1) &&
 ((List.range ops.size).all fun j => match ops[j]? with
  | some o => (o.after.all fun e => !Region.binds .any e || decide (e.on < j)) && (match N[j]? with | some n => tabRowB ops j o n | none => true)
  | _ => false)
theorem op_of_list {P : Program} {ops : Array Oper} {Q : Exit → Act → World → Prop} {j : Nat} {o : Oper} (ho : ops[j]? = some o) {rest : List Oper} {K : Act → World → Prop} {a : Act} {w : World} (h : wpList P ops Q (o :: rest) a w) (key : ∀ a' w', wpList P ops Q rest a' w' → K a' w') : wpOp P ops Q j K a w := by
 unfold wpOp
 rw [ho]
 unfold wpList at h
 split at h
 ·rename_i hw
  simp only [hw, if_true]
  exact h.imp (Oper.wp_mono key) id
 ·rename_i hw
  simp only [hw]
  exact key _ _ h
theorem inv_stepV {E : Option Tmp → World → Prop} {U : Tmp → Option Tmp} {ops : Array Oper} {a0 : Act} {S S' : World → Prop} {R : ReachU} {Tf : Facts} {j : Nat} {o : Oper} (hS : ∀ w w', S w → R o.dst w w' → S' w') (hE : ∀ (i : Nat) (oi : Oper), ops[i]? = some oi → i ≠ j → (∀ e ∈ o.after, Region.binds .any e = true → e.on ≠ i) → ∀ w w', E oi.dst w → R o.dst w w' → E oi.dst w') (hl : ∀ d p, Tf.lookup d = some p → lastsU U R (some d) p)
  (hbd : ∀ (i : Nat) (o : Oper) (d : Tmp), ops[i]? = some o → o.dst = some d → d < a0.tmps.size) {listed : Array Bool} {a : Act} {w w' : World} (hI : InvU E U ops a0 S Tf listed a w) (hj : ops[j]? = some o)
  (hall : ∀ e ∈ o.after, Region.binds .any e = true → listed.getD e.on false = true) {T : Fact} (hT : ∀ d, o.dst = some d → Tf.lookup d = some T) {v : Value} (hR : R o.dst w w') (hv : T v w') :
  InvU E U ops a0 S' Tf (listed.setIfInBounds j true) (a.put o.dst v) w' := by
 have hI0 : InvU (fun _ _ => True) U ops a0 S Tf listed a w := ⟨hI.size, hI.ok, fun _ _ _ _ => trivial, hI.defers, hI.len, hI.down, hI.fresh, hI.old⟩
 have h := inv_stepU (E := fun _ _ => True) hS (fun _ _ _ _ _ _ _ _ => trivial) hl hbd hI0 hj hall hT hR hv
 refine ⟨h.size, h.ok, fun i oi hoi hli => ?_, h.defers, h.len, h.down, h.fresh, h.old⟩
 by_cases e : j = i
 ·subst e
  have hlt : j < listed.size := by rw [hI.size]; exact (Array.getElem?_eq_some_iff.1 hj).1
  simp [hlt] at hli
 ·rw [getD_set_ne false e] at hli
  refine hE i oi hoi (Ne.symm e) (fun ed he hb heq => ?_) _ _ (hI.ex i oi hoi hli) hR
  have := hall ed he hb
  rw [heq, hli] at this
  cases this
def waitB (all : List Oper) (wt : Tmp × Tmp) : Bool :=
 (List.range all.length).all fun j => match all[j]? with
  | some o => (o.dst != some wt.1) || (List.range all.length).all (fun i => match all[i]? with
   | some oi => (oi.dst != some wt.2) || o.after.any (fun e => Region.binds .any e && e.on == i)
   | none => true)
  | none => true
theorem waits_for {all : List Oper} {wt : Tmp × Tmp} (h : waitB all wt = true) {j i : Nat} {o oi : Oper} (hj : all[j]? = some o) (hi : all[i]? = some oi) (h1 : o.dst = some wt.1) (h2 : oi.dst = some wt.2) : ∃ e ∈ o.after, Region.binds .any e = true ∧ e.on = i := by
 have hjl := (List.getElem?_eq_some_iff.1 hj).1
 have hil := (List.getElem?_eq_some_iff.1 hi).1
 have h3 := List.all_eq_true.1 h j (List.mem_range.2 hjl)
 simp only [hj, h1, bne_self_eq_false, Bool.false_or] at h3
 have h4 := List.all_eq_true.1 h3 i (List.mem_range.2 hil)
 simp only [hi, h2, bne_self_eq_false, Bool.false_or] at h4
 obtain ⟨e, he, hb⟩ := Array.any_eq_true'.1 h4
 simp only [Bool.and_eq_true, beq_iff_eq] at hb
 exact ⟨e, he, hb.1, hb.2⟩
theorem any_slotsV {P : Program} {E : Option Tmp → World → Prop} {U : Tmp → Option Tmp} {ops : Array Oper} {a0 : Act} {S SF : World → Prop} {SS : Nat → World → Prop} {R : ReachU} {Tf : Facts} {Q : Exit → Act → World → Prop} {m lo : Nat} (hmlt : m < ops.size) (hlo : lo < m) (hseal : sealL ops m lo = true) (hseal2 : sealB ops (m + 1) = true) (hstep : ∀ d f w w', SS (f + 1) w → R d w w' → SS f w') (hSS : ∀ f w, f < ops.size → SS (f + 1) w → S w) (hF : ∀ f w, f ≤ ops.size → SS f w → SF w) (hE : ∀ (j : Nat) (o : Oper), ops[j]? = some o → ∀ (i : Nat) (oi : Oper), ops[i]? = some oi → i ≠ j → (∀ e ∈ o.after, Region.binds .any e = true → e.on ≠ i) → ∀ w w', E oi.dst w → R o.dst w w' → E oi.dst w') (hl : ∀ d p, Tf.lookup d = some p → lastsU U R (some d) p)
  (hbd : ∀ (i : Nat) (o : Oper) (d : Tmp), ops[i]? = some o → o.dst = some d → d < a0.tmps.size) (hg : ∀ (i : Nat) (o : Oper), i < m → ops[i]? = some o → o.guard = none) (hlt : ∀ (i : Nat) (o : Oper), ops[i]? = some o → ∀ e ∈ o.after, Region.binds .any e = true → e.on < i)
  (hobl : ∀ (j : Nat) (o : Oper), j < m → ops[j]? = some o → ∃ n T, tabRowB ops j o n = true ∧ (∀ x, (x, true) ∈ n → ∀ u, U x = some u → ∀ (i : Nat) (o' : Oper), ops[i]? = some o' → o'.dst = some u → i = j) ∧ oblU P a0 S E R n o Tf T ∧ ∀ d, o.dst = some d → Tf.lookup d = some T)
  (hfin : ∀ a w, SF w → a.defers = a0.defers → a.tmps.size = a0.tmps.size → (∀ (i : Nat) (o : Oper) (d : Tmp) p, i < m → ops[i]? = some o → o.dst = some d → Tf.lookup d = some p → U d = none → p (a.eval (.tmp d)) w) → (∀ x, (∀ (i : Nat) (o : Oper), i < m → ops[i]? = some o → o.dst ≠ some x) → a.eval (.tmp x) = a0.eval (.tmp x)) → wpList P ops Q (ops.toList.drop m) a w)
  (hfin2 : ∀ a w, SF w → a.defers = a0.defers → a.tmps.size = a0.tmps.size → (∀ (i : Nat) (o : Oper) (d : Tmp) p, i < m → i ≠ lo → ops[i]? = some o → o.dst = some d → Tf.lookup d = some p → U d = none → p (a.eval (.tmp d)) w) → (∀ x, (∀ (i : Nat) (o : Oper), i < m → i ≠ lo → ops[i]? = some o → o.dst ≠ some x) → a.eval (.tmp x) = a0.eval (.tmp x)) → wpList P ops Q (ops[m] :: (ops[lo]'(by omega)) :: ops.toList.drop (m + 1)) a w) :
  ∀ (fuel : Nat) (listed : Array Bool) (a : Act) (w : World), listed.toList.count false = fuel → (∀ j, m ≤ j → j < ops.size → listed.getD j true = false) → InvU E U ops a0 (SS fuel) Tf listed a w → wpAny P .any ops Q fuel listed a w := by
 have hmo : ops[m]? = some ops[m] := by simp [hmlt]
 have hlol : lo < ops.size := by omega
 have hloo : ops[lo]? = some ops[lo] := by simp [hlol]
 have hdr : ops.toList.drop m = ops[m] :: ops.toList.drop (m + 1) := by
  rw [List.drop_eq_getElem_cons (by simpa using hmlt)]
  simp
 intro fuel
 induction fuel with
 | zero =>
  intro listed a w hc hm2 hI
  exfalso
  have hi' : m < listed.size := by rw [hI.size]; exact hmlt
  have h1 := hm2 m (Nat.le_refl _) hmlt
  have h2 : listed[m] = false := by simpa [hi'] using h1
  exact List.count_eq_zero.1 hc (by rw [← h2]; simp)
 | succ fuel ih =>
  intro listed a w hc hm2 hI
  have hcl : fuel + 1 ≤ ops.size := by have := List.count_le_length (a := false) (l := listed.toList); rw [hc, Array.length_toList, hI.size] at this; exact this
  have hml : listed.getD m false = false := listed_ne hI.size hmlt (hm2 m (Nat.le_refl _) hmlt)
  have hsz := hI.size
  have hcnt : ∀ j, j < listed.size → listed.getD j true = false → (listed.setIfInBounds j true).toList.count false = fuel := fun j h1 h2 => by
   have := count_set h1 h2
   omega
  -- an operation among the first comes
  have hgo : ∀ (j : Nat) (o : Oper), j < m → ops[j]? = some o → listed.getD j true = false → (∀ e ∈ o.after, Region.binds .any e = true → listed.getD e.on false = true) → wpOp P ops Q j (wpAny P .any ops Q fuel (listed.setIfInBounds j true)) a w := by
   intro j o hjm ho h0 hall
   have hjlt := (Array.getElem?_eq_some_iff.1 ho).1
   obtain ⟨n, T, htab, huse, hob, hT⟩ := hobl j o hjm ho
   have hun := listed_ne hI.size hjlt h0
   have hgot := hob a.eval w (plain_eval a) (hSS fuel w (by omega) hI.ok) (hI.ex j o ho hun) (needs_iff.2 (needs_ofU hI ho hun hall n htab (fun x hx u hu i' o' ho' hd' => by rw [huse x hx u hu i' o' ho' hd']; exact hun)))
   unfold wpOp
   simp only [ho]
   rw [if_pos (by simp [Region.wanted, hg j o hjm ho])]
   refine .inl (upon_of_got (got_mono (fun v w' ⟨hR, hv⟩ => ?_) hgot))
   have hI' := inv_stepV (hstep o.dst fuel) (hE j o ho) hl hbd hI ho hall hT hR hv
   exact ih _ _ _ (hcnt j (by rw [hsz]; exact hjlt) h0) (fun i hi hi2 => by rw [getD_set_ne true (by omega)]; exact hm2 i hi hi2) hI'
  have hfacts : (∀ j, j < m → j ≠ lo → listed.getD j false = true) → (∀ (i : Nat) (o : Oper) (d : Tmp) p, i < m → i ≠ lo → ops[i]? = some o → o.dst = some d → Tf.lookup d = some p → U d = none → p (a.eval (.tmp d)) w) := fun hdone i o d p hi hne ho hd hp hu => hI.fresh i o d p ho (hdone i hi hne) hd hp (fun u h => by rw [hu] at h; cases h)
  have hlt2 : ∀ (i : Nat) (o : Oper), ops[i]? = some o → listed.getD i false = true → i < m := fun i o ho hli => by
   rcases Nat.lt_or_ge i m with h' | h'
   ·exact h'
   ·have hil := (Array.getElem?_eq_some_iff.1 ho).1
    rw [listed_ne hI.size hil (hm2 i h' hil)] at hli
    cases hli
  by_cases hdone : ∀ j, j < m → j ≠ lo → listed.getD j false = true
  ·by_cases hll : listed.getD lo false = true
   ·-- all the first have come
    have hall1 : ∀ j, j < m → listed.getD j false = true := fun j hj => by
     by_cases e : j = lo
     ·rw [e]; exact hll
     ·exact hdone j hj e
    have hcount := count_drop hI.size (by omega) hall1 hm2
    have hlist := hfin a w (hF _ w hcl hI.ok) hI.defers hI.len (fun i o d p hi ho hd hp hu => hI.fresh i o d p ho (hall1 i hi) hd hp (fun u h => by rw [hu] at h; cases h)) (fun x hx => hI.old x fun i o ho hli => hx i o (hlt2 i o ho hli) ho)
    rw [hdr] at hlist
    refine ⟨fun hr => ?_, fun j hj => ?_⟩
    ·exfalso
     have hmem : m ∈ Region.ready .any ops listed := mem_ready.2 ⟨hm2 m (Nat.le_refl _) hmlt, _, hmo, fun e he hb => hall1 _ (hlt m _ hmo e he hb)⟩
     rw [hr] at hmem
     cases hmem
    ·obtain ⟨h0, o, ho, hall⟩ := mem_ready.1 hj
     have hjlt := (Array.getElem?_eq_some_iff.1 ho).1
     have hjm : j = m := by
      rcases Nat.lt_trichotomy j m with h' | h' | h'
      ·have h3 := hall1 j h'
       rw [listed_ne hsz hjlt h0] at h3
       cases h3
      ·exact h'
      ·have h3 := sealed hseal2 hI.down ho h' hall h'
       rw [hml] at h3
       cases h3
     subst hjm
     refine op_of_list hmo hlist fun a' w' h' => ?_
     refine any_tail hseal2 hlt fuel (j + 1) _ a' w' (Nat.le_refl _) (by omega) (by simpa using hsz) (fun i hi => ?_) (fun i hi hi2 => by rw [getD_set_ne true (by omega)]; exact hm2 i (by omega) hi2) h'
     by_cases hij : j = i
     ·subst hij
      simp [hsz, hjlt]
     ·rw [getD_set_ne false hij]
      exact hall1 i (by omega)
   ·-- all but the loose one
    have hll' : listed.getD lo false = false := by simpa using hll
    have hllt : listed.getD lo true = false := by
     have : lo < listed.size := by rw [hsz]; exact hlol
     simp [this] at hll' ⊢
     exact hll'
    have hcount : ops.size = m + fuel := by
     have h1 := hcnt lo (by rw [hsz]; exact hlol) hllt
     have h2 := count_drop (listed := listed.setIfInBounds lo true) (p := m) (n := ops.size) (by simpa using hsz) (by omega) (fun j hj => by
      by_cases e : lo = j
      ·subst e
       simp [hsz, hlol]
      ·rw [getD_set_ne false e]
       exact hdone j hj (Ne.symm e)) (fun j h1 h2 => by rw [getD_set_ne true (by omega)]; exact hm2 j h1 h2)
     omega
    have hlist := hfin2 a w (hF _ w hcl hI.ok) hI.defers hI.len (hfacts hdone) (fun x hx => hI.old x fun i o ho hli => hx i o (hlt2 i o ho hli) (fun e => by rw [e, hll'] at hli; cases hli) ho)
    refine ⟨fun hr => ?_, fun j hj => ?_⟩
    ·exfalso
     have hmem : lo ∈ Region.ready .any ops listed := mem_ready.2 ⟨hllt, _, hloo, fun e he hb => hdone _ (by have := hlt lo _ hloo e he hb; omega) (by have := hlt lo _ hloo e he hb; omega)⟩
     rw [hr] at hmem
     cases hmem
    ·obtain ⟨h0, o, ho, hall⟩ := mem_ready.1 hj
     have hjlt := (Array.getElem?_eq_some_iff.1 ho).1
     rcases Nat.lt_trichotomy j m with h' | h' | h'
     ·exact hgo j o h' ho h0 hall
     ·subst h'
      refine op_of_list hmo hlist fun a' w' h' => ?_
      -- the loose one comes next
      match fuel, hcount, hcnt, hcl with
      | 0, hcount, _, _ => exfalso; omega
      | fuel + 1, hcount, hcnt, hcl =>
       have hs2 : (listed.setIfInBounds j true).size = ops.size := by simpa using hsz
       have hnl : (listed.setIfInBounds j true).getD lo true = false := by rw [getD_set_ne true (by omega)]; exact hllt
       refine ⟨fun hr => ?_, fun i hi => ?_⟩
       ·exfalso
        have hmem : lo ∈ Region.ready .any ops (listed.setIfInBounds j true) := mem_ready.2 ⟨hnl, _, hloo, fun e he hb => getD_set_true (hdone _ (by have := hlt lo _ hloo e he hb; omega) (by have := hlt lo _ hloo e he hb; omega))⟩
        rw [hr] at hmem
        cases hmem
       ·obtain ⟨g0, oi, hoi, gall⟩ := mem_ready.1 hi
        have hilt := (Array.getElem?_eq_some_iff.1 hoi).1
        have hilo : i = lo := by
         by_cases e : i = lo
         ·exact e
         ·exfalso
          rcases Nat.lt_trichotomy i j with h4 | h4 | h4
          ·have h3 := hdone i h4 e
           rw [getD_set_ne true (by omega)] at g0
           rw [listed_ne hsz hilt g0] at h3
           cases h3
          ·subst h4
           simp [hsz, hilt] at g0
          ·have hd2 : ∀ (i' : Nat) (o' : Oper), ops[i']? = some o' → (listed.setIfInBounds j true).getD i' false = true → ∀ e ∈ o'.after, Region.binds .any e = true → (listed.setIfInBounds j true).getD e.on false = true := by
            intro i' o' ho' hl' e' he' hb'
            by_cases hij : j = i'
            ·subst hij
             obtain rfl := Option.some.inj (ho.symm.trans ho')
             exact getD_set_true (hall e' he' hb')
            ·rw [getD_set_ne false hij] at hl'
             exact getD_set_true (hI.down i' o' ho' hl' e' he' hb')
           have h3 := sealed hseal2 hd2 hoi (by omega) gall (j := lo) (by omega)
           rw [listed_ne hs2 hlol hnl] at h3
           cases h3
        subst hilo
        refine op_of_list hloo h' fun a2 w2 h2 => ?_
        refine any_tail hseal2 hlt fuel (j + 1) _ a2 w2 (Nat.le_refl _) (by omega) (by simpa using hsz) (fun i' hi' => ?_) (fun i' h1 h2 => by rw [getD_set_ne true (by omega), getD_set_ne true (by omega)]; exact hm2 i' (by omega) h2) h2
        by_cases e1 : i = i'
        ·subst e1
         simp [hsz, hlol]
        ·rw [getD_set_ne false e1]
         by_cases e2 : j = i'
         ·subst e2
          simp [hsz, hjlt]
         ·rw [getD_set_ne false e2]
          exact hdone i' (by omega) (Ne.symm e1)
     ·exfalso
      have h3 := sealed hseal2 hI.down ho h' hall h'
      rw [hml] at h3
      cases h3
  ·refine ⟨fun hr => absurd ?_ hdone, fun j hj => ?_⟩
   ·have hall : ∀ k, k ≤ m → ∀ i, i < k → listed.getD i false = true := by
     intro k
     induction k with
     | zero => intro _ i hi; omega
     | succ k ihk =>
      intro hk i hi
      by_cases hik : i < k
      ·exact ihk (by omega) i hik
      ·have : i = k := by omega
       subst this
       have hi' : i < ops.size := by omega
       cases hb : listed.getD i true with
       | true =>
        have hi2 : i < listed.size := by rw [hI.size]; exact hi'
        simpa [hi2] using hb
       | false =>
        have hmem : i ∈ Region.ready .any ops listed := mem_ready.2 ⟨hb, ops[i], by simp [hi'], fun e he hbi => ihk (by omega) e.on (hlt i _ (by simp [hi']) e he hbi)⟩
        rw [hr] at hmem
        cases hmem
    exact fun j hj _ => hall m (Nat.le_refl _) j hj
   ·obtain ⟨h0, o, ho, hall⟩ := mem_ready.1 hj
    have hjm : j < m := by
     rcases Nat.lt_or_ge j m with h' | h'
     ·exact h'
     ·exact absurd (fun i hi hne => sealedL hseal hI.down ho h' hall (Nat.lt_of_lt_of_le hi h') hne) hdone
    exact hgo j o hjm ho h0 hall
theorem wp_region_slots_v {P : Program} {id : Nat} {Q : Exit → Act → World → Prop} {a0 : Act} {w0 : World} {all : List Oper} (m lo : Nat) (wt : Tmp × Tmp) (N : List (List (Tmp × Bool))) (S SF : World → Prop) (SS : Nat → World → Prop) (E : Option Tmp → World → Prop) (U : Tmp → Option Tmp) (R : ReachU)
  (hm : P.follows .mixedOrders = true) (hB : tidyL all.toArray m lo N = true) (hz : (all.all fun o => match o.dst with | some d => decide (d < a0.tmps.size) | none => true) = true)
  (h0 : SS all.length w0.drew) (hD : distB all [] = true) (hE0 : ∀ d, E d w0.drew) (hEn : ∀ w, E none w) (hW : waitB all wt = true) (hE : ∀ d d', d ≠ d' → ¬ (d = some wt.1 ∧ d' = some wt.2) → ∀ w w', E d' w → R d w w' → E d' w') (hU : ∀ (j : Nat) (n : List (Tmp × Bool)), N[j]? = some n → ∀ x, (x, true) ∈ n → ∀ u, U x = some u → ∀ (i : Nat) (o' : Oper), all[i]? = some o' → o'.dst = some u → i = j) (hstep : ∀ d f w w', SS (f + 1) w → R d w w' → SS f w') (hSS : ∀ f w, f < all.length → SS (f + 1) w → S w) (hF : ∀ f w, f ≤ all.length → SS f w → SF w)
  (h : wpSlotsU P a0 S E U R (fun Ts => ∀ vs w, SF w → (factsAtU U vs w Ts → wpList P all.toArray Q (all.drop m) (putAll vs (all.take m) a0) w) ∧ (factsAtU (fun d => if (all[lo]?.bind (·.dst)) = some d then some 0 else U d) vs w Ts → wpList P all.toArray Q ((all[m]?.toList ++ all[lo]?.toList) ++ all.drop (m + 1)) (putAll vs ((all.take m).eraseIdx lo) a0) w)) N (all.take m) []) : (Code.region id all.toArray true).wp P Q a0 w0 := by
 simp only [tidyL, Bool.and_eq_true, beq_iff_eq, decide_eq_true_eq] at hB
 obtain ⟨⟨⟨⟨⟨⟨⟨hdist, hguard⟩, hlen⟩, hmlt⟩, hlo⟩, hseal⟩, hseal2⟩, htab⟩ := hB
 have hops : ∀ (i : Nat) (o : Oper), all.toArray[i]? = some o → all[i]? = some o := fun i o h => by simpa using h
 have hmemo : ∀ (i : Nat) (o : Oper), all.toArray[i]? = some o → o ∈ all := fun i o h => List.mem_of_getElem? (hops i o h)
 have htk : ∀ (i : Nat) (o : Oper), i < m → all.toArray[i]? = some o → (all.take m)[i]? = some o := fun i o hi h => by rw [List.getElem?_take_of_lt hi]; exact hops i o h
 have hbd : ∀ (i : Nat) (o : Oper) (d : Tmp), all.toArray[i]? = some o → o.dst = some d → d < a0.tmps.size := fun i o d ho hd => by
  have := List.all_eq_true.1 hz o (hmemo i o ho)
  simpa [hd] using this
 obtain ⟨Tf, hfin, _, hmem, hall⟩ := collectU N (all.take m) [] h (by simpa using hdist)
 have hrow : ∀ (j : Nat) (o : Oper), all.toArray[j]? = some o → (∀ e ∈ o.after, Region.binds .any e = true → e.on < j) ∧ (j < m → ∃ n, N[j]? = some n ∧ tabRowB all.toArray j o n = true) := fun j o ho => by
  have hj := (Array.getElem?_eq_some_iff.1 ho).1
  have h1 := List.all_eq_true.1 htab j (List.mem_range.2 hj)
  rw [ho] at h1
  simp only [Bool.and_eq_true] at h1
  refine ⟨fun e he hb => ?_, fun hjm => ?_⟩
  ·have h2 := Array.all_eq_true'.1 h1.1 e he
   simpa [hb] using h2
  ·have hjN : j < N.length := by rw [hlen]; exact hjm
   have h2 := h1.2
   rw [List.getElem?_eq_getElem hjN] at h2
   exact ⟨_, List.getElem?_eq_getElem hjN, h2⟩
 have hback : ∀ (k : Nat) (o : Oper), (all.take m)[k]? = some o → k < m ∧ all.toArray[k]? = some o := fun k o hk => by
  have hkl := (List.getElem?_eq_some_iff.1 hk).1
  have hkm : k < m := by
   rw [List.length_take] at hkl
   omega
  rw [List.getElem?_take_of_lt hkm] at hk
  exact ⟨hkm, by simpa using hk⟩
 refine wp_region_any hm ?_
 refine any_slotsV (E := E) (U := U) (m := m) (lo := lo) (Tf := Tf) (a0 := a0) (SS := SS) (S := S) (SF := SF) hmlt hlo hseal hseal2 hstep (fun f w hf => hSS f w (by simpa using hf)) (fun f w hf => hF f w (by simpa using hf)) (fun j o ho i oi hoi hne hnw w w' h1 h2 => ?_) (fun d p hp => ?_) hbd (fun i o hi ho => ?_) (fun i o ho => (hrow i o ho).1) (fun j o hj ho => ?_) (fun a w hSw hdef hsz hfr hold => ?_) (fun a w hSw hdef hsz hfr hold => ?_) _ _ _ _ ?_ ?_ ?_
 ·by_cases hd : oi.dst = none
  ·rw [hd]
   exact hEn _
  ·refine hE o.dst oi.dst (fun e => ?_) (fun ⟨e1, e2⟩ => ?_) _ _ h1 h2
   ·obtain ⟨d, hd'⟩ := Option.ne_none_iff_exists'.1 hd
    exact hne (dist_inj all [] hD i j oi o d (hops i oi hoi) (hops j o ho) hd' (e.trans hd'))
   ·obtain ⟨ed, he, hb, heq⟩ := waits_for hW (hops j o ho) (hops i oi hoi) e1 e2
    exact hnw ed he hb heq
 ·-- each fact lasts
  rcases hmem d p (lookup_mem hp) with h1 | ⟨_, k, o, hk, hod⟩
  ·cases h1
  ·obtain ⟨hkm, hk'⟩ := hback k o hk
   obtain ⟨n, hn, _⟩ := (hrow k o hk').2 hkm
   obtain ⟨T, hT, _, hT2⟩ := hall k n o hn hk
   obtain rfl := Option.some.inj ((hT2 d hod).symm.trans hp)
   rw [← hod]
   exact hT
 ·have := List.all_eq_true.1 hguard o (List.mem_of_getElem? (htk i o hi ho))
  simpa using this
 ·obtain ⟨n, hn, h1⟩ := (hrow j o ho).2 hj
  obtain ⟨T, _, hT1, hT2⟩ := hall j n o hn (htk j o hj ho)
  exact ⟨n, T, h1, fun x hx u hu i o' ho' hd' => hU j n hn x hx u hu i o' (hops i o' ho') hd', hT1, hT2⟩
 ·obtain ⟨p1, p2, p3⟩ := putAll_spec (fun d => a.eval (.tmp d)) (all.take m) a0 (fun o ho d hd => by
   obtain ⟨i, hi, he⟩ := List.getElem_of_mem ho
   obtain ⟨_, hi'⟩ := hback i o (by rw [List.getElem?_eq_getElem hi, he])
   exact hbd i o d hi' hd)
  have e : a = putAll (fun d => a.eval (.tmp d)) (all.take m) a0 := by
   refine act_ext (hdef.trans p1.symm) (hsz.trans p2.symm) fun x => ?_
   by_cases hx : ∃ o ∈ all.take m, o.dst = some x
   ·exact ((p3 x).1 hx).symm
   ·rw [(p3 x).2 hx]
    exact hold x fun i o hi ho hd => hx ⟨o, List.mem_of_getElem? (htk i o hi ho), hd⟩
  rw [e]
  refine (hfin _ w hSw).1 (factsAtU_of fun d p hdp hun => ?_)
  rcases hmem d p hdp with h1 | ⟨hlk, k, o, hk, hod⟩
  ·cases h1
  ·obtain ⟨hkm, hk'⟩ := hback k o hk
   exact hfr k o d p hkm hk' hod hlk hun
 ·have hsz2 : m < all.length := by simpa using hmlt
  have hel : ∀ (o : Oper), o ∈ (all.take m).eraseIdx lo ↔ ∃ i, i < m ∧ i ≠ lo ∧ all[i]? = some o := by
   intro o
   rw [List.mem_eraseIdx_iff_getElem?]
   constructor
   ·rintro ⟨i, hne, hi⟩
    have him : i < m := by
     have := (List.getElem?_eq_some_iff.1 hi).1
     rw [List.length_take] at this
     omega
    rw [List.getElem?_take_of_lt him] at hi
    exact ⟨i, him, hne, hi⟩
   ·rintro ⟨i, him, hne, hi⟩
    exact ⟨i, hne, by rw [List.getElem?_take_of_lt him]; exact hi⟩
  obtain ⟨p1, p2, p3⟩ := putAll_spec (fun d => a.eval (.tmp d)) ((all.take m).eraseIdx lo) a0 (fun o ho d hd => by
   obtain ⟨i, him, _, hi⟩ := (hel o).1 ho
   exact hbd i o d (by simpa using hi) hd)
  have e : a = putAll (fun d => a.eval (.tmp d)) ((all.take m).eraseIdx lo) a0 := by
   refine act_ext (hdef.trans p1.symm) (hsz.trans p2.symm) fun x => ?_
   by_cases hx : ∃ o ∈ (all.take m).eraseIdx lo, o.dst = some x
   ·exact ((p3 x).1 hx).symm
   ·rw [(p3 x).2 hx]
    exact hold x fun i o hi hne ho hd => hx ⟨o, (hel o).2 ⟨i, hi, hne, hops i o ho⟩, hd⟩
  have hl1 : all[m]?.toList ++ all[lo]?.toList ++ all.drop (m + 1) = all.toArray[m] :: (all.toArray[lo]'(by simp; omega)) :: all.toArray.toList.drop (m + 1) := by
   rw [List.getElem?_eq_getElem hsz2, List.getElem?_eq_getElem (by omega)]
   simp
  rw [e, ← hl1]
  refine (hfin _ w hSw).2 (factsAtU_of fun d p hdp hun => ?_)
  rcases hmem d p hdp with h1 | ⟨hlk, k, o, hk, hod⟩
  ·cases h1
  ·obtain ⟨hkm, hk'⟩ := hback k o hk
   by_cases hkl : k = lo
   ·exfalso
    subst hkl
    rw [hops k o hk'] at hun
    simp [hod] at hun
   ·refine hfr k o d p hkm hkl hk' hod hlk ?_
    by_cases hc : (all[lo]?.bind (·.dst)) = some d
    ·rw [if_pos hc] at hun
     cases hun
    ·rw [if_neg hc] at hun
     exact hun
 ·simp
 ·intro j _ hj
  simp at hj
  simp [hj]
 ·refine ⟨by simp, by simpa using h0, fun _ _ _ _ => hE0 _, rfl, rfl, fun i o ho hli => ?_, fun i o d p ho hli => ?_, fun x _ => rfl⟩
  ·rw [rep_false] at hli
   cases hli
  ·rw [rep_false] at hli
   cases hli
end Go.Proofs.YteladgfdedlmjaaGreatDoor
namespace Go.Proofs.YteladgfdedlmjaaGreatDoor
open Go.ChangeShapes Go.WideShapes Go.ChangeAt Go.RowKit Go.Joins
attribute [local go_sem ↓] Go.wp_at_zero Go.wp_at_succ
end Go.Proofs.YteladgfdedlmjaaGreatDoor
namespace Go.Proofs
open Go.Shelf
def Tryz.sortW_ren : Go.Shelf.Ren := ⟨fun | 6 => 201 | 15 => 211 | 14 => 210 | 28 => 231 | 29 => 232 | 20 => 223 | 21 => 224 | 22 => 225 | 23 => 226 | 24 => 227 | 25 => 228 | 26 => 229 | 27 => 230 | 46 => 246 | 47 => 247 | 48 => 248 | 49 => 249 | 50 => 250 | 57 => 259 | n => n, fun | 22 => 24 | 24 => 33 | 25 => 37 | 3 => 3 | 39 => 151 | 0 => 0 | 53 => 225 | 55 => 124 | 4 => 4 | 46 => 256 | 45 => 255 | 50 => 217 | 5 => 5 | 9 => 9 | 66 => 273 | 70 => 277 | 76 => 285 | 77 => 286 | n => n, fun | n => n⟩
theorem Tryz.sortW : Go.Proofs.SlLaysF0.n6 Tryz.prog Tryz.sortW_ren := {
 mixed := by kernel_rfl
 f6 := ⟨Tryz.f201.name, by decide, Tryz.func201.trans (congrArg some (by kernel_rfl))⟩
 f14 := ⟨Tryz.f210.name, by decide, Tryz.func210.trans (congrArg some (by kernel_rfl))⟩
 f15 := Tryz.func211.trans (congrArg some (by kernel_rfl))
 f20 := ⟨Tryz.f223.name, by decide, Tryz.func223.trans (congrArg some (by kernel_rfl))⟩
 f21 := ⟨Tryz.f224.name, by decide, Tryz.func224.trans (congrArg some (by kernel_rfl))⟩
 f22 := ⟨Tryz.f225.name, by decide, Tryz.func225.trans (congrArg some (by kernel_rfl))⟩
 f23 := ⟨Tryz.f226.name, by decide, Tryz.func226.trans (congrArg some (by kernel_rfl))⟩
 f24 := ⟨Tryz.f227.name, by decide, Tryz.func227.trans (congrArg some (by kernel_rfl))⟩
 f25 := ⟨Tryz.f228.name, by decide, Tryz.func228.trans (congrArg some (by kernel_rfl))⟩
 f26 := ⟨Tryz.f229.name, by decide, Tryz.func229.trans (congrArg some (by kernel_rfl))⟩
 f27 := ⟨Tryz.f230.name, by decide, Tryz.func230.trans (congrArg some (by kernel_rfl))⟩
 f28 := Tryz.func231.trans (congrArg some (by kernel_rfl))
 f29 := Tryz.func232.trans (congrArg some (by kernel_rfl))
 f46 := ⟨Tryz.f246.name, by decide, Tryz.func246.trans (congrArg some (by kernel_rfl))⟩
 f47 := Tryz.func247.trans (congrArg some (by kernel_rfl))
 f48 := Tryz.func248.trans (congrArg some (by kernel_rfl))
 f49 := ⟨Tryz.f249.name, by decide, Tryz.func249.trans (congrArg some (by kernel_rfl))⟩
 f50 := ⟨Tryz.f250.name, by decide, Tryz.func250.trans (congrArg some (by kernel_rfl))⟩
 f57 := ⟨Tryz.f259.name, by decide, Tryz.func259.trans (congrArg some (by kernel_rfl))⟩
 t0 := Tryz.underlying0
 a0 := Tryz.isAgg0
 z0 := Tryz.sizeOf0
 v0 := Tryz.zeroValue0
 t3 := Tryz.underlying3
 a3 := Tryz.isAgg3
 z3 := Tryz.sizeOf3
 v3 := Tryz.zeroValue3
 t4 := Tryz.underlying4
 a4 := Tryz.isAgg4
 z4 := Tryz.sizeOf4
 v4 := Tryz.zeroValue4
 t5 := Tryz.underlying5
 a5 := Tryz.isAgg5
 z5 := Tryz.sizeOf5
 v5 := Tryz.zeroValue5
 t9 := Tryz.underlying9
 a9 := Tryz.isAgg9
 z9 := Tryz.sizeOf9
 v9 := Tryz.zeroValue9
 t22 := Tryz.underlying24
 a22 := Tryz.isAgg24
 z22 := Tryz.sizeOf24
 v22 := Tryz.zeroValue24
 t25 := Tryz.underlying37
 a25 := Tryz.isAgg37
 z25 := Tryz.sizeOf37
 v25 := Tryz.zeroValue37
 t39 := Tryz.underlying151
 a39 := Tryz.isAgg151
 z39 := Tryz.sizeOf151
 v39 := Tryz.zeroValue151
 t45 := Tryz.underlying255
 a45 := Tryz.isAgg255
 z45 := Tryz.sizeOf255
 v45 := Tryz.zeroValue255
 t46 := Tryz.underlying256
 a46 := Tryz.isAgg256
 z46 := Tryz.sizeOf256
 v46 := Tryz.zeroValue256
 t50 := Tryz.underlying217
 a50 := Tryz.isAgg217
 z50 := Tryz.sizeOf217
 v50 := Tryz.zeroValue217
 t53 := Tryz.underlying225
 a53 := Tryz.isAgg225
 z53 := Tryz.sizeOf225
 v53 := Tryz.zeroValue225
 t55 := Tryz.underlying124
 a55 := Tryz.isAgg124
 z55 := Tryz.sizeOf124
 v55 := Tryz.zeroValue124
 t66 := Tryz.underlying273
 a66 := Tryz.isAgg273
 z66 := Tryz.sizeOf273
 v66 := Tryz.zeroValue273
 t70 := Tryz.underlying277
 a70 := Tryz.isAgg277
 z70 := Tryz.sizeOf277
 v70 := Tryz.zeroValue277
 t76 := Tryz.underlying285
 a76 := Tryz.isAgg285
 z76 := Tryz.sizeOf285
 v76 := Tryz.zeroValue285
 t77 := Tryz.underlying286
 a77 := Tryz.isAgg286
 z77 := Tryz.sizeOf286
 v77 := Tryz.zeroValue286 }
end Go.Proofs
namespace Go.Proofs.YteladgfdedlmjaaGreatDoor
open Go.ChangeShapes Go.WideShapes Go.ChangeAt Go.RowKit
attribute [local go_sem ↓] Go.wp_at_zero Go.wp_at_succ
def Laid (w w' : World) : Prop := ∃ q os', w' = Go.Sort.grow (w.drewN q) os'
theorem Laid.refl (w : World) : Laid w w := ⟨0, #[], by simp [Go.Sort.grow, World.drewN]⟩
theorem Laid.alloc {w w' : World} (h : Laid w w') (o : Obj) : Laid w (w'.alloc o) := by
 obtain ⟨q, os', rfl⟩ := h
 exact ⟨q, os' ++ #[o], by rw [Go.Sort.alloc_eq_grow, Go.Sort.grow_grow]⟩
theorem Laid.drew {w w' : World} (h : Laid w w') : Laid w w'.drew := by
 obtain ⟨q, os', rfl⟩ := h
 exact ⟨q + 1, os', by simp [Go.Sort.grow, World.drewN, World.drew, Nat.add_assoc]⟩
theorem Laid.trans {w w' w2 : World} (h : Laid w w') (h' : Laid w' w2) : Laid w w2 := by
 obtain ⟨q, os', rfl⟩ := h
 obtain ⟨q', os2, rfl⟩ := h'
 exact ⟨q + q', os' ++ os2, by simp [Go.Sort.grow, World.drewN, Nat.add_assoc]⟩
set_option maxHeartbeats 400000 in
theorem lTagCmp_eq (c s q : Int) (w : World) :
  Calls Tryz.prog 18 #[tagV c s q, tagV c s q] w fun e w' => e = .returned (.int .i64 0) ∧ Laid w w' := by
 go_enter Tryz.func18, Tryz.ntmps18
 go_wp2_with fail
 go_ret
 exact ⟨rfl, ((Laid.refl _).alloc _).alloc _⟩
set_option maxHeartbeats 1000000 in
theorem lTagCmp_ne1 (c s q c' s' q' : Int) (w : World) (h : ¬ c = c') :
  Calls Tryz.prog 18 #[tagV c s q, tagV c' s' q'] w fun e w' => e = .returned (.int .i64 (orI [sgn c c', sgn s s', sgn q q'])) ∧ Laid w w' := by
 go_enter Tryz.func18, Tryz.ntmps18
 go_wp2_with fail
 go_region_held3 (fun w' => w'.cell? ⟨w.heap.size, 0, none⟩ = some (.int .i64 c) ∧ w'.cell? ⟨w.heap.size, 1, none⟩ = some (.int .i64 s) ∧ w'.cell? ⟨w.heap.size, 2, none⟩ = some (.int .i64 q) ∧ w'.cell? ⟨w.heap.size + 1, 0, none⟩ = some (.int .i64 c') ∧ w'.cell? ⟨w.heap.size + 1, 1, none⟩ = some (.int .i64 s') ∧ w'.cell? ⟨w.heap.size + 1, 2, none⟩ = some (.int .i64 q')) (go_keep)
  (first | (go_at_call 69; refine (compare_any _ _ _).mono ?_; rintro e w' ⟨rfl, rfl⟩) | (go_at_call 68; refine (or_any _ [sgn c c', sgn s s', sgn q q'] _ _ (by simp) (by exact three_cells _ _ _ _ _ _ (by simp))).mono ?_; rintro e w' ⟨rfl, rfl⟩))
 all_goals
  go_wp2
  go_ret
  exact ⟨rfl, ((((Laid.refl _).alloc _).alloc _).alloc _).drew⟩
set_option maxHeartbeats 1000000 in
theorem lTagCmp_ne2 (c s q s' q' : Int) (w : World) (h : ¬ s = s') :
  Calls Tryz.prog 18 #[tagV c s q, tagV c s' q'] w fun e w' => e = .returned (.int .i64 (orI [sgn c c, sgn s s', sgn q q'])) ∧ Laid w w' := by
 go_enter Tryz.func18, Tryz.ntmps18
 go_wp2_with fail
 go_region_held3 (fun w' => w'.cell? ⟨w.heap.size, 0, none⟩ = some (.int .i64 c) ∧ w'.cell? ⟨w.heap.size, 1, none⟩ = some (.int .i64 s) ∧ w'.cell? ⟨w.heap.size, 2, none⟩ = some (.int .i64 q) ∧ w'.cell? ⟨w.heap.size + 1, 0, none⟩ = some (.int .i64 c) ∧ w'.cell? ⟨w.heap.size + 1, 1, none⟩ = some (.int .i64 s') ∧ w'.cell? ⟨w.heap.size + 1, 2, none⟩ = some (.int .i64 q')) (go_keep)
  (first | (go_at_call 69; refine (compare_any _ _ _).mono ?_; rintro e w' ⟨rfl, rfl⟩) | (go_at_call 68; refine (or_any _ [sgn c c, sgn s s', sgn q q'] _ _ (by simp) (by exact three_cells _ _ _ _ _ _ (by simp))).mono ?_; rintro e w' ⟨rfl, rfl⟩))
 all_goals
  go_wp2
  go_ret
  exact ⟨rfl, ((((Laid.refl _).alloc _).alloc _).alloc _).drew⟩
set_option maxHeartbeats 1000000 in
theorem lTagCmp_ne3 (c s q q' : Int) (w : World) (h : ¬ q = q') :
  Calls Tryz.prog 18 #[tagV c s q, tagV c s q'] w fun e w' => e = .returned (.int .i64 (orI [sgn c c, sgn s s, sgn q q'])) ∧ Laid w w' := by
 go_enter Tryz.func18, Tryz.ntmps18
 go_wp2_with fail
 go_region_held3 (fun w' => w'.cell? ⟨w.heap.size, 0, none⟩ = some (.int .i64 c) ∧ w'.cell? ⟨w.heap.size, 1, none⟩ = some (.int .i64 s) ∧ w'.cell? ⟨w.heap.size, 2, none⟩ = some (.int .i64 q) ∧ w'.cell? ⟨w.heap.size + 1, 0, none⟩ = some (.int .i64 c) ∧ w'.cell? ⟨w.heap.size + 1, 1, none⟩ = some (.int .i64 s) ∧ w'.cell? ⟨w.heap.size + 1, 2, none⟩ = some (.int .i64 q')) (go_keep)
  (first | (go_at_call 69; refine (compare_any _ _ _).mono ?_; rintro e w' ⟨rfl, rfl⟩) | (go_at_call 68; refine (or_any _ [sgn c c, sgn s s, sgn q q'] _ _ (by simp) (by exact three_cells _ _ _ _ _ _ (by simp))).mono ?_; rintro e w' ⟨rfl, rfl⟩))
 all_goals
  go_wp2
  go_ret
  exact ⟨rfl, ((((Laid.refl _).alloc _).alloc _).alloc _).drew⟩
theorem lTagCmp_any (c s q c' s' q' : Int) (w : World) :
  Calls Tryz.prog 18 #[tagV c s q, tagV c' s' q'] w fun e w' => e = .returned (.int .i64 (tcmp c s q c' s' q')) ∧ Laid w w' := by
 rw [← orI_three]
 by_cases h1 : c = c'
 ·by_cases h2 : s = s'
  ·by_cases h3 : q = q'
   ·subst h1 h2 h3
    rw [orI_three, tcmp_self]
    exact lTagCmp_eq c s q w
   ·subst h1 h2
    exact lTagCmp_ne3 c s q q' w h3
  ·subst h1
   exact lTagCmp_ne2 c s q s' q' w h2
 ·exact lTagCmp_ne1 c s q c' s' q' w h1
end Go.Proofs.YteladgfdedlmjaaGreatDoor
namespace Go.Proofs.YteladgfdedlmjaaGreatDoor
open Go.ChangeShapes Go.WideShapes Go.ChangeAt Go.RowKit Go.Joins
attribute [local go_sem ↓] Go.wp_at_zero Go.wp_at_succ
def laterC (x y : EnG) : Int := tcmp y.x.c y.x.s y.x.q x.x.c x.x.s x.x.q
def HoldsE (w : World) (g : Nat) (es : List EnG) : Prop := @Go.Sort.HoldsK EnG ⟨ezG⟩ wrValsG 7 w g 0 es.toArray
theorem tcmp_ntrans {c s q c' s' q' c2 s2 q2 : Int} (h : 0 ≤ tcmp c s q c' s' q') (h' : 0 ≤ tcmp c' s' q' c2 s2 q2) : 0 ≤ tcmp c s q c2 s2 q2 := by
 have t := tcmp_three c2 s2 q2 c' s' q' c s q
 rw [tcmp_neg c' s' q' c2 s2 q2, tcmp_neg c s q c' s' q', tcmp_neg c s q c2 s2 q2] at t
 rcases t.on (by omega) (by omega) with h1 | h1 <;> omega
theorem laterC_swo : Go.Sort.SWO (Go.Proofs.ltOf laterC) where
 irrefl x := by
  unfold Go.Proofs.ltOf laterC
  rw [tcmp_self]
  rfl
 trans x y z h1 h2 := by
  unfold Go.Proofs.ltOf laterC at *
  rw [decide_eq_true_eq] at *
  rcases (tcmp_three z.x.c z.x.s z.x.q y.x.c y.x.s y.x.q x.x.c x.x.s x.x.q).on (by omega) (by omega) with h | h <;> omega
 ntrans x y z h1 h2 := by
  unfold Go.Proofs.ltOf laterC at *
  rw [decide_eq_false_iff_not] at *
  have := tcmp_ntrans (Int.not_lt.1 h2) (Int.not_lt.1 h1)
  omega
set_option maxHeartbeats 1000000 in
theorem laterF_any (x y : EnG) (w : World) :
  Calls Tryz.prog 202 #[.agg (wrValsG x).toArray, .agg (wrValsG y).toArray] w fun e w' => e = .returned (.int .i64 (laterC x y)) ∧ Laid w w' := by
 obtain ⟨⟨xk, xc, xs', xq, xv, xd, xx⟩, xa, xg, xcp⟩ := x
 obtain ⟨⟨yk, yc, ys, yq, yv, yd, yy⟩, ya, yg, ycp⟩ := y
 unfold laterC wrValsG
 simp only
 have HL : Hid (Laid w ((w.alloc (.cells #[.int .i64 xk, .int .i64 xc, .int .i64 xs', .int .i64 xq, .int .i64 xv, .bool xd, .slice xa xx.length xcp] 33)).alloc (.cells #[.int .i64 yk, .int .i64 yc, .int .i64 ys, .int .i64 yq, .int .i64 yv, .bool yd, .slice ya yy.length ycp] 33))) := ((Laid.refl _).alloc _).alloc _
 go_enter Tryz.func202, Tryz.ntmps202
 go_wp2_with fail
 refine (lTagCmp_any _ _ _ _ _ _ _).mono ?_
 rintro e w1 ⟨rfl, hl⟩
 have HL1 := Lib.hid (HL.out.trans hl)
 clear hl HL
 go_wp2
 go_ret
 exact ⟨rfl, HL1.out⟩
theorem grown_sorted (w : World) (g n : Nat) (d : Array EnG) (os : Array Obj) : w.grownBy (@sortWorldK EnG ⟨ezG⟩ wrValsG 7 w g 0 n d os) (some g) := by
 refine ⟨rfl, rfl, rfl, @size_sortWorldK_c EnG ⟨ezG⟩ wrValsG 7 w g 0 n d os, fun k hk hne => ?_⟩
 unfold sortWorldK
 rw [Go.Sort.heap_grow_old _ _ (by rw [@Go.Sort.size_putRowK EnG ⟨ezG⟩]; exact hk)]
 have : g ≠ k := fun e => hne (by rw [e])
 simp [Go.Sort.putRowK, Go.Sort.putRow, Go.Sort.mapBlock, Go.Sort.ahead, Array.getElem?_modify, this]
theorem sorted_pair {es : List EnG} (h : ∀ i j, i < j → j < es.length → 0 ≤ tcmp (es.getD i ezG).x.c (es.getD i ezG).x.s (es.getD i ezG).x.q (es.getD j ezG).x.c (es.getD j ezG).x.s (es.getD j ezG).x.q) : es.Pairwise fun x y => 0 ≤ tcmp x.x.c x.x.s x.x.q y.x.c y.x.s y.x.q := by
 rw [List.pairwise_iff_getElem]
 intro i j hi hj hij
 have := h i j hij hj
 simpa [List.getD, hi, hj] using this
theorem sortW_any (g n cap : Nat) (es : List EnG) (w : World) (hn : es.length = n) (hm : n ≤ 2097152) (hg : g < w.heap.size) (hH : HoldsE w g es) :
  Calls Tryz.prog 201 #[.slice (some ⟨g, 0, none⟩) n cap, .func (.func 202) #[] #[]] w fun e w' => e = .returned (.tuple #[]) ∧ ∃ es' : List EnG, es'.Perm es ∧ (es'.Pairwise fun x y => 0 ≤ tcmp x.x.c x.x.s x.x.q y.x.c y.x.s y.x.q) ∧ HoldsE w' g es' ∧ w.grownBy w' (some g) := by
 have eg : ∀ args w, (callFunc 202 args).run Tryz.prog w = .ok (.enter 202 args) w := enters_of Tryz.func202 (by kernel_rfl) rfl
 have hs : es.toArray.size = n := by simpa using hn
 have hc : @CmpLays EnG ⟨ezG⟩ Tryz.prog 202 #[] wrValsG 7 laterC g 0 es.toArray.size w := fun m os dk _ x y => by
  have := laterF_any x y (@sortWorldK EnG ⟨ezG⟩ wrValsG 7 w g 0 m dk os)
  simpa [Laid] using this
 have hcon := @AnyQ.slices_SortFunc Tryz.prog _ EnG ⟨ezG⟩ Tryz.sortW 7 Tryz.isAgg33 Tryz.sizeOf33 wrValsG (fun _ => rfl) (fun x v hv => valsG_one [x] v (by simpa using hv)) laterC laterC_swo 202 #[] g 0 cap es.toArray w eg hc hH hg (by rw [hs]; omega)
 rw [hs] at hcon
 refine Calls.mono (R := fun e w' => e = .returned (.tuple #[]) ∧ ∃ d' n' os, @Go.Sort.PermIn EnG ⟨ezG⟩ 0 n es.toArray d' ∧ @Go.Sort.SortedIn EnG ⟨ezG⟩ (Go.Proofs.ltOf laterC) 0 n d' ∧ w' = @sortWorldK EnG ⟨ezG⟩ wrValsG 7 w g 0 n' d' os) hcon ?_
 rintro e w' ⟨rfl, d', n', os, ⟨hp1, -, hp3⟩, hso, rfl⟩
 have hd : d'.size = n := by rw [hp1]; exact hs
 refine ⟨rfl, d'.toList, ?_, ?_, ?_, grown_sorted w g n' d' os⟩
 ·have e1 : d'.extract 0 n = d' := by rw [← hd]; simp
  have e2 : es.toArray.extract 0 n = es.toArray := by rw [← hs]; simp
  rw [e1, e2] at hp3
  exact hp3
 ·refine sorted_pair fun i j hij hj => ?_
  have hj' : j < d'.size := by simpa using hj
  have h := hso i j (Nat.zero_le _) hij (by omega)
  unfold Go.Proofs.ltOf laterC at h
  rw [decide_eq_false_iff_not, Int.not_lt] at h
  have gi : @getElem! (Array EnG) Nat EnG _ _ ⟨ezG⟩ d' i = d'.toList.getD i ezG := by
   rw [@getElem!_pos _ _ _ _ _ _ ⟨ezG⟩ d' i (by omega)]
   simp [List.getD, show i < d'.size by omega]
  have gj : @getElem! (Array EnG) Nat EnG _ _ ⟨ezG⟩ d' j = d'.toList.getD j ezG := by
   rw [@getElem!_pos _ _ _ _ _ _ ⟨ezG⟩ d' j (by omega)]
   simp [List.getD, hj']
  rw [gi, gj] at h
  exact h
 ·exact @holdsK_sortWorldK_c EnG ⟨ezG⟩ wrValsG 7 w g 0 es.toArray d' n' os hH hg (by rw [hd, hs])
end Go.Proofs.YteladgfdedlmjaaGreatDoor
namespace Go.Proofs.YteladgfdedlmjaaGreatDoor
open Go.ChangeShapes Go.WideShapes Go.ChangeAt Go.RowKit Go.Joins
def updF {α : Type} (f : Nat → α) (k : Nat) (x : α) : Nat → α := fun i => if i = k then x else f i
theorem updF_at {α : Type} (f : Nat → α) (k : Nat) (x : α) : updF f k x k = x := if_pos rfl
theorem updF_off {α : Type} (f : Nat → α) {k i : Nat} (x : α) (h : i ≠ k) : updF f k x i = f i := if_neg h
structure SixR (w0 w : World) (base : Nat) (V : Nat → Value) (E : Nat → List EnG) : Prop where
 own : ∀ k, k < 6 → w.ownsRow base 33 7 (V k) (E k).length ((E k).flatMap wrValsG)
 deps : ∀ k, k < 6 → ∀ e ∈ E k, IsDeps w0 e.a e.x.xs ∧ e.x.xs.length ≤ 1048576
 apart : ∀ i j, i < 6 → j < 6 → i ≠ j → ∀ b, (V i).ownBlock = some b → (V j).ownBlock ≠ some b
structure SixA (w : World) (A : Nat) (V : Nat → Value) : Prop where
 lt : A < w.heap.size
 cells : CellsAre w A 6 V
 nf : ∀ o, w.frozen? ⟨A, o, none⟩ = false
 off : ∀ k, k < 6 → (V k).ownBlock ≠ some A
theorem SixR.below {w0 w w' : World} {base : Nat} {V : Nat → Value} {E : Nat → List EnG} (h : SixR w0 w base V E) (hb : Below w.heap.size w w') : SixR w0 w' base V E where
 own k hk := (h.own k hk).kept (row := none) (grown_of_below hb none) (by
  by_cases e : (V k).ownBlock = none
  ·exact .inl e
  ·exact .inr e)
 deps := h.deps
 apart := h.apart
theorem SixA.below {w w' : World} {A : Nat} {V : Nat → Value} (h : SixA w A V) (hb : Below w.heap.size w w') : SixA w' A V where
 lt := Nat.lt_of_lt_of_le h.lt hb.size
 cells := h.cells.of_block (hb.block A h.lt)
 nf o := (frozen_of_block (hb.block A h.lt)).trans (h.nf o)
 off := h.off
theorem six_put {w0 W w4 : World} {base A j g3 cp3 : Nat} {V : Nat → Value} {E : Nat → List EnG} {e : EnG} (hj : j < 6) (h : SixR w0 W base V E) (hA : SixA W A V) (he : IsDeps w0 e.a e.x.xs ∧ e.x.xs.length ≤ 1048576) (hG : W.grownBy w4 (V j).ownBlock)
  (hrow : w4.ownsRow base 33 7 (.slice (some ⟨g3, 0, none⟩) ((E j).length + 1) cp3) ((E j).length + 1) ((E j).flatMap wrValsG ++ wrValsG e)) (hg3 : (V j).ownBlock = some g3 ∨ W.heap.size ≤ g3) :
  SixR w0 (w4.setCell ⟨A, j, none⟩ (.slice (some ⟨g3, 0, none⟩) ((E j).length + 1) cp3)) base (updF V j (.slice (some ⟨g3, 0, none⟩) ((E j).length + 1) cp3)) (updF E j (E j ++ [e])) ∧ SixA (w4.setCell ⟨A, j, none⟩ (.slice (some ⟨g3, 0, none⟩) ((E j).length + 1) cp3)) A (updF V j (.slice (some ⟨g3, 0, none⟩) ((E j).length + 1) cp3)) := by
 have hA4 : w4.heap[A]? = W.heap[A]? := hG.block A hA.lt (fun e => hA.off j hj e.symm)
 have hgA : g3 ≠ A := fun e => by
  rcases hg3 with h1 | h1
  ·exact hA.off j hj (by rw [h1, e])
  ·have := hA.lt
   omega
 have hnew : ∀ i, i < 6 → i ≠ j → (V i).ownBlock ≠ some g3 := fun i hi hne e => by
  rcases hg3 with h1 | h1
  ·exact h.apart i j hi hj hne g3 e h1
  ·have := ((h.own i hi).lt g3 e).2
   omega
 constructor
 ·constructor
  ·intro k hk
   by_cases e1 : k = j
   ·subst e1
    rw [updF_at, updF_at]
    have h1 := World.ownsRow.kept hrow (grown_set w4 A k _) (.inr (by simpa [Value.ownBlock] using hgA)) (w' := w4.setCell ⟨A, k, none⟩ (.slice (some ⟨g3, 0, none⟩) ((E k).length + 1) cp3))
    rw [List.length_append, List.flatMap_append]
    simpa using h1
   ·rw [updF_off _ _ e1, updF_off _ _ e1]
    refine ((h.own k hk).kept hG ?_).kept (grown_set w4 A j _) (.inr (hA.off k hk))
    by_cases e2 : (V k).ownBlock = none
    ·exact .inl e2
    ·refine .inr fun e3 => ?_
     cases hb : (V k).ownBlock with
     | none => exact e2 hb
     | some b => exact h.apart k j hk hj e1 b hb (by rw [← e3, hb])
  ·intro k hk d hd
   by_cases e1 : k = j
   ·subst e1
    rw [updF_at] at hd
    rcases List.mem_append.1 hd with hd | hd
    ·exact h.deps k hk d hd
    ·have : d = e := by simpa using hd
     rw [this]
     exact he
   ·rw [updF_off _ _ e1] at hd
    exact h.deps k hk d hd
  ·intro i k hi hk hne b hb
   by_cases e1 : i = j
   ·subst e1
    rw [updF_at] at hb
    rw [updF_off _ _ (fun e => hne e.symm)]
    have : g3 = b := by simpa [Value.ownBlock] using hb
    rw [← this]
    exact hnew k hk (fun e => hne e.symm)
   ·rw [updF_off _ _ e1] at hb
    by_cases e2 : k = j
    ·subst e2
     rw [updF_at]
     intro e3
     have : g3 = b := by simpa [Value.ownBlock] using e3
     rw [← this] at hb
     exact hnew i hi e1 hb
    ·rw [updF_off _ _ e2]
     exact h.apart i k hi hk hne b hb
 ·constructor
  ·have h1 := hG.size
   have h2 := hA.lt
   simp
   omega
  ·exact (hA.cells.of_block hA4).set hj _
  ·intro o
   rw [World.frozen?_setCell]
   exact (frozen_of_block hA4).trans (hA.nf o)
  ·intro k hk
   by_cases e1 : k = j
   ·subst e1
    rw [updF_at]
    simpa [Value.ownBlock] using hgA
   ·rw [updF_off _ _ e1]
    exact hA.off k hk
def WrNew (ob : Option Nat) (e : EnG) : Fact := fun v w => ∃ g', v = .slice (some ⟨g', 0, none⟩) 1 1 ∧ g' < w.heap.size ∧ ob ≠ some g' ∧ ∀ j u, (wrValsG e)[j]? = some u → w.cell? ((⟨g', 0, none⟩ : Addr).add j) = some u
theorem lasts_wrNew (U : Tmp → Option Tmp) (s : Tmp) (dst : Option Tmp) (ob : Option Nat) (e : EnG) : lastsU U (AppS s ob) dst (WrNew ob e) := by
 rintro d' _ _ v w w' ⟨g', h1, h2, h3, h4⟩ hr
 have hr' := appS_any hr
 have hb := hr'.block g' h2 (fun e => h3 e.symm)
 refine ⟨g', h1, Nat.lt_of_lt_of_le h2 hr'.size, h3, fun j u hu => ?_⟩
 have := h4 j u hu
 rw [add_block] at this ⊢
 exact (World.cell?_of_block (a := ⟨g', j, none⟩) hb).trans this
def WrRow (base B o : Nat) (ob : Option Nat) (xs : List Value) : Fact := fun v w => ∃ g3 cp3, v = .slice (some ⟨g3, 0, none⟩) (o + 1) cp3 ∧ w.ownsRow base 33 7 (.slice (some ⟨g3, 0, none⟩) (o + 1) cp3) (o + 1) xs ∧ (ob = some g3 ∨ B ≤ g3)
theorem lasts_wrRow (U : Tmp → Option Tmp) (s : Tmp) (ob : Option Nat) (base B o : Nat) (xs : List Value) : lastsU U (AppS s ob) (some s) (WrRow base B o ob xs) := by
 rintro d' hd _ v w w' ⟨g3, cp3, h1, h2, h3⟩ hr
 exact ⟨g3, cp3, h1, h2.kept (row := none) (grown_of_below (appS_below hd hr) none) (.inr (by simp [Value.ownBlock])), h3⟩
theorem ownsRow_below {w w' : World} {base t sz n : Nat} {v : Value} {xs : List Value} (h : w.ownsRow base t sz v n xs) (hb : Below w.heap.size w w') : w'.ownsRow base t sz v n xs :=
 h.kept (row := none) (grown_of_below hb none) (by
  by_cases e : v.ownBlock = none
  ·exact .inl e
  ·exact .inr e)
end Go.Proofs.YteladgfdedlmjaaGreatDoor
