import Derived.Test.YtkgojpmjnehcnaaPack10
import Derived.Test.YtkgojpmjnehcnaaPack7
import Derived.Test.YtkgojpmjnehcnaaPack8
import Derived.Deep.OwnRows
import Derived.Test.YtkgojpmjnehcnaaPack6
/- Inventions, the specification's side: the contract of spec.Inventions. -/
namespace Go.Proofs.Ytkgojpmjnehcnaa
open Go.ChangeShapes Go.WideShapes Go.ChangeAt Go.RowKit Go.Joins
attribute [local go_sem ↓] Go.wp_at_zero Go.wp_at_succ

theorem getD_take {α : Type} (l : List α) (d : α) {i k : Nat} (h : k < i) : (l.take i).getD k d = l.getD k d := by
  rw [List.getD_eq_getElem?_getD, List.getD_eq_getElem?_getD, List.getElem?_take_of_lt h]

/-- The first events of a list. -/
theorem IsEs.take {w : World} {a : Option Addr} {es : List Ev} (h : IsEs w a es) (i : Nat) : IsEs w a (es.take i) := by
  rcases h with h | ⟨b, o, ha, hlt, hh⟩
  · exact .inl (by rw [h, List.take_nil])
  · refine .inr ⟨b, o, ha, hlt, fun k hk => ?_⟩
    rw [List.length_take] at hk
    rw [getD_take es evz (by omega)]
    exact hh k (by omega)

theorem FewE.take {es : List Ev} (h : FewE es) (i : Nat) : FewE (es.take i) := fun k hk => by
  rw [List.length_take] at hk
  rw [getD_take es evz (by omega)]
  exact h k (by omega)

/-- Is the event at place i an invention? -/
def invS (es : List Ev) (i : Nat) : Bool := (es.getD i evz).sh && (es.getD i evz).ws.any fun x => !hasW (writtenL (es.take i)) x

set_option maxRecDepth 100000 in
set_option maxHeartbeats 8000000 in
theorem specInv_any (a : Option Addr) (n cap : Nat) (es : List Ev) (w : World) (hn : es.length = n) (hm : n ≤ 1048576) (hc : n ≤ cap) (hx : FewE es) (hh : heftB (evW es) ≤ 1048576) (hi : IsEs w a es) :
    Calls Try.prog 30 #[.slice a n cap] w fun e w' => ∃ v, e = .returned v ∧ RowI w' w.heap.size v (placesTo (invS es) n) ∧ Below w.heap.size w w' := by
  have HI := Lib.hid hi
  have HN := Lib.hid hn
  have HX := Lib.hid hx
  have HHE := Lib.hid hh
  clear hi hn hx hh
  obtain ⟨i0, hi0, hx0⟩ := Option.map_eq_some_iff.1 infoInt
  simp only [Prod.mk.injEq] at hx0
  have HI0 := Lib.hid hi0
  have HX0 := Lib.hid hx0
  clear hi0 hx0
  have HR0 : Hid (RowI (w.alloc (.cells #[] 3)) w.heap.size (.slice (some ⟨w.heap.size, 0, none⟩) 0 0) []) := World.ownsRow_made w #[] 0 (Nat.le_refl _) (by simp [maxLen]) (by simp)
  have HB0 : Hid (Below w.heap.size w (w.alloc (.cells #[] 3))) := (Below.refl _ _).alloc (Nat.le_refl _) _
  go_enter Try.func30, Try.ntmps30
  go_wp2
  go_loopw [3, 4] (fun t i wr => ∃ (k : Nat) (v : Value), k ≤ n ∧ i = .int .i64 k ∧ v = t ∧ Hid (RowI wr w.heap.size v (placesTo (invS es) k)) ∧ Hid (Below w.heap.size w wr)) (fun _ i _ => n - (intOf i).toNat)
  case atStart => exact ⟨0, _, Nat.zero_le _, rfl, rfl, HR0, HB0⟩
  case round =>
    clear HR0 HB0
    obtain ⟨i, v, hi, rfl, rfl, HR, HB⟩ := hrel
    by_cases hi' : i < n
    · have hiw : i < es.length := by rw [HN.out]; exact hi'
      have i1 : (0 : Int) ≤ (i : Int) := by omega
      have i2 : (i : Int) < (n : Int) := by omega
      have i3 : (i : Int) ≤ (cap : Int) := by omega
      have i4 : i ≤ cap := by omega
      obtain ⟨b, o, ad, cp, rfl, hz, e0, hw⟩ := HI.out.at (Below.refl _ w) hiw
      have HW := Lib.hid hw
      have hln := placesTo_len (invS es) i
      have HPN : Hid (invS es i = false → placesTo (invS es) (i + 1) = placesTo (invS es) i) := fun h => placesTo_no h
      have HPY : Hid (invS es i = true → placesTo (invS es) (i + 1) = placesTo (invS es) i ++ [(i : Int)]) := fun h => placesTo_yes h
      have HBS : Hid (invS es i = ((es.getD i evz).sh && (es.getD i evz).ws.any fun x => !hasW (writtenL (es.take i)) x)) := rfl
      obtain ⟨hli, hfi⟩ := HX.out i hiw
      have HFI := Lib.hid hfi
      have HIT : Hid (IsEs w (some ⟨b, o, none⟩) (es.take i)) := HI.out.take i
      have HXT : Hid (FewE (es.take i)) := HX.out.take i
      have HHT : Hid (heftB (evW (es.take i)) ≤ 1048576) := by
        have h1 := heft_part (evW es) i
        have e1 : evW (es.take i) = (evW es).take i := by simp [evW]
        have h2 := HHE.out
        show _ ≤ _
        rw [e1]
        omega
      have HNT : Hid ((es.take i).length = i) := by show _ = _; rw [List.length_take]; omega
      have hwg : wgt (writtenL (es.take i)) ≤ 1048576 := Nat.le_trans (written_wgt _) HHT.out
      clear hw hfi
      generalize invS es i = bk at *
      generalize es.getD i evz = e at *
      obtain ⟨es', esh, em, ew⟩ := e
      unfold EvAt at e0
      simp only at e0 HW HBS hli HFI
      obtain ⟨c0, c1, c2, c3⟩ := e0
      have HE0 : Hid (∀ W, Below w.heap.size w W → W.cell? ⟨b, o + i * 4 + 1, none⟩ = some (.bool esh) ∧ W.cell? ⟨b, o + i * 4 + 3, none⟩ = some (.slice ad ew.length cp)) := fun W hW => ⟨(hW.cell (p := ⟨b, o + i * 4 + 1, none⟩) hz).trans c1, (hW.cell (p := ⟨b, o + i * 4 + 3, none⟩) hz).trans c3⟩
      clear c0 c1 c2 c3
      go_wp2_with fail
      refine (specWritten_any (some ⟨b, o, none⟩) i cap (es.take i) _ HNT.out (by omega) HXT.out HHT.out (HIT.out.below HB.out)).mono ?_
      rintro e W1 ⟨v5, rfl, hrow⟩
      generalize writtenL (es.take i) = ks at *
      obtain ⟨g, cp5, gs, rfl, hgx, hgr, hb1⟩ := hrow
      have HKF : Hid (Few ks) := few_wgt hwg
      have hkl : ks.length ≤ 1048576 := by unfold wgt at hwg; omega
      have HKS : Hid (IsWs W1 (some ⟨g, 0, none⟩) ks) := hgr.isWs hgx HKF.out
      have HR1 : Hid (RowI W1 w.heap.size v (placesTo (invS es) i)) := HR.out.below hb1
      have HB1 : Hid (Below w.heap.size w W1) := below_step HB.out HB.out.size hb1
      obtain ⟨L, hL⟩ : ∃ L, ks.length = L := ⟨_, rfl⟩
      have HLN := Lib.hid hL
      rw [hL] at hkl ⊢
      clear hL hgx hgr hb1 HR HB hwg
      go_wp2
      go_loopw [6, 7] (fun t j wr => ∃ (l : Nat) (b2 : Bool), l ≤ ew.length ∧ j = .int .i64 l ∧ t = .bool b2 ∧ Hid (b2 = (ew.take l).any fun x => !hasW ks x) ∧ (l = 0 ∨ esh = true) ∧ Hid (Below W1.heap.size W1 wr)) (fun _ j _ => ew.length - (intOf j).toNat)
      case atStart => exact ⟨0, false, Nat.zero_le _, rfl, rfl, by rw [List.take_zero]; rfl, .inl rfl, Below.refl _ _⟩
      case round =>
        obtain ⟨l, b2, hl, rfl, rfl, HBB, hl0, HBW⟩ := hrel
        have HB2 : Hid (Below w.heap.size w wr) := below_step HB1.out HB1.out.size HBW.out
        obtain ⟨c1, c3⟩ := HE0.out wr HB2.out
        by_cases hl' : l < ew.length
        · have hd1 : decide (l < ew.length) = true := decide_eq_true hl'
          cases esh with
          | false =>
            obtain rfl : l = 0 := by rcases hl0 with h | h; exact h; cases h
            have HE : Hid (bk = false) := HBS.out
            have hbb : b2 = false := by have h := HBB.out; rwa [List.take_zero] at h
            subst hbb
            have HR2 : Hid (RowI wr w.heap.size v (placesTo (invS es) (i + 1))) := by rw [HPN.out HE.out]; exact Lib.hid (HR1.out.below HBW.out)
            go_wp2
            exact ⟨⟨i + 1, _, by omega, by go_num, rfl, HR2, HB2⟩, by simp [intOf]; omega⟩
          | true =>
            have i5 : (0 : Int) ≤ (l : Int) := by omega
            have i6 : (l : Int) < (ew.length : Int) := by omega
            obtain ⟨bw, ow, aw, cw, rfl, hzw, ⟨e0, e1, e2, e3, e4, e5, e6⟩, hdw⟩ := HW.out.at HB2.out rfl hl'
            have HDW := Lib.hid hdw
            have hxl := HFI.out l hl'
            have HNX : Hid ((ew.take (l + 1)).any (fun x => !hasW ks x) = (b2 || !hasW ks (ew.getD l wz))) := by
              show _ = _
              rw [any_next _ ew wz hl', ← HBB.out]
            clear hdw HBB
            generalize ew.getD l wz = y at *
            obtain ⟨yk, yc, ys, yq, yv, yd, yy⟩ := y
            simp only at e0 e1 e2 e3 e4 e5 e6 hxl HDW
            cases b2 with
            | true =>
              have HF : Hid (true = (ew.take (l + 1)).any fun x => !hasW ks x) := by rw [HNX.out]; simp [Hid]
              go_wp2
              exact ⟨⟨l + 1, true, by omega, by go_num, rfl, HF, .inr trivial, HBW⟩, by simp [intOf]; omega⟩
            | false =>
              go_wp2_with fail
              refine (specHas_any _ L _ ks ⟨yk, yc, ys, yq, yv, yd, yy⟩ aw cw _ HLN.out hkl HKF.out hxl (HKS.out.below HBW.out) HDW.out).mono ?_
              rintro e w3 ⟨rfl, hb3⟩
              have HB3 : Hid (Below W1.heap.size W1 w3) := below_step HBW.out HBW.out.size hb3
              obtain ⟨hv, hhv⟩ : ∃ hv, hasW ks ⟨yk, yc, ys, yq, yv, yd, yy⟩ = hv := ⟨_, rfl⟩
              rw [hhv] at HNX ⊢
              have HF : Hid ((!hv) = (ew.take (l + 1)).any fun x => !hasW ks x) := by rw [HNX.out]; simp [Hid]
              clear hb3 hhv HNX
              go_wp2
              exact ⟨⟨l + 1, !hv, by omega, by go_num, rfl, HF, .inr trivial, HB3⟩, by simp [intOf]; omega⟩
        · obtain rfl : l = ew.length := by omega
          have hd1 : decide (ew.length < ew.length) = false := by simp
          have HE : Hid (bk = b2) := by
            show _ = _
            have h := HBB.out
            rw [List.take_length] at h
            rw [HBS.out, ← h]
            rcases hl0 with h0 | h0
            · have e0 : ew = [] := List.length_eq_zero_iff.1 h0
              rw [e0] at h
              rw [h]
              simp
            · rw [h0, Bool.true_and]
          have HR2 : Hid (RowI wr w.heap.size v (placesTo (invS es) i)) := HR1.out.below HBW.out
          have hsz : w.heap.size ≤ wr.heap.size := HB2.out.size
          cases b2 with
          | false =>
            have HR3 : Hid (RowI wr w.heap.size v (placesTo (invS es) (i + 1))) := by rw [HPN.out HE.out]; exact HR2
            go_wp2
            exact ⟨⟨i + 1, _, by omega, by go_num, rfl, HR3, HB2⟩, by simp [intOf]; omega⟩
          | true =>
            have HPE := Lib.hid (HPY.out HE.out)
            generalize placesTo (invS es) i = zs at *
            have HBA : Hid (Below wr.heap.size wr (wr.alloc (.cells #[.int .i64 (i : Int)] 3))) := (Below.refl _ _).alloc (Nat.le_refl _) _
            have HRC := Lib.hid (HR2.out.below HBA.out)
            have HCC := Lib.hid (oneI_cells wr 3 (i : Int))
            have HBD := Lib.hid (below_step HB2.out HB2.out.size HBA.out)
            go_wp2_with (at_builtin; refine wpList_append_lies _ (by rfl) _ _ _ (by rfl) w.heap.size 3 i0 (.int .i64 0) 1 8 Try.underlying50 HI0.out HX0.out.1 HX0.out.2.1 HX0.out.2.2 (by rfl) (by omega) v zs.length (zs.map intV) (by rfl) HRC.out ⟨wr.heap.size, 0, none⟩ 1 1 [intV (i : Int)] (by rfl) (by rfl) (by simpa using HCC.out) (intV_one [(i : Int)]) (by omega) (by unfold maxLen; omega) (by omega) (by simp; omega) _ rfl ?_; intro g3 cp3 w5 hown hgrow hg3 _; refine Hid.out ?_)
            refine Lib.hid ?_
            have HB5 : Hid (Below w.heap.size w w5) := HBD.out.grown hgrow HBD.out.size fun j hj => (World.ownsRow.lt HRC.out j hj).1
            have HR5 : Hid (RowI w5 w.heap.size (.slice (some ⟨g3, 0, none⟩) (zs.length + 1) cp3) (placesTo (invS es) (i + 1))) := placed_more HPE.out hown
            clear hown hgrow hg3
            go_wp2
            exact ⟨⟨i + 1, _, by omega, by go_num, rfl, HR5, HB5⟩, by simp [intOf]; omega⟩
    · have hkk : i = n := by omega
      subst hkk
      go_wp2
      go_ret
      exact ⟨_, rfl, HR.out, HB.out⟩

end Go.Proofs.Ytkgojpmjnehcnaa

/- The two ways to tell inventions are one: plain facts. -/
namespace Go.Proofs.Ytkgojpmjnehcnaa
open Go.ChangeShapes Go.WideShapes Go.ChangeAt Go.RowKit Go.Joins

theorem mem_addW (out : List Wr) (x y : Wr) : y ∈ addW out x ↔ y ∈ out ∨ y = x := by
  unfold addW
  by_cases h : hasW out x = true
  · rw [if_pos h]
    constructor
    · exact .inl
    · rintro (h1 | rfl)
      · exact h1
      · exact (hasW_iff _ _).1 h
  · rw [if_neg h]
    simp

theorem mem_addAll (y : Wr) : ∀ (ws out : List Wr), y ∈ ws.foldl addW out ↔ y ∈ out ∨ y ∈ ws
  | [], out => by simp
  | x :: r, out => by
    have e : (x :: r).foldl addW out = r.foldl addW (addW out x) := rfl
    rw [e, mem_addAll y r, mem_addW]
    simp only [List.mem_cons]
    constructor
    · rintro ((h | h) | h)
      · exact .inl h
      · exact .inr (.inl h)
      · exact .inr (.inr h)
    · rintro (h | h | h)
      · exact .inl (.inl h)
      · exact .inl (.inr h)
      · exact .inr h

theorem mem_addEs (y : Wr) : ∀ (es : List Ev) (out : List Wr), y ∈ es.foldl addE out ↔ y ∈ out ∨ y ∈ es.flatMap fun e => if e.sh = true then [] else e.ws
  | [], out => by simp
  | e :: r, out => by
    have e1 : (e :: r).foldl addE out = r.foldl addE (addE out e) := rfl
    rw [e1, mem_addEs y r, List.flatMap_cons, List.mem_append]
    unfold addE
    by_cases h : e.sh = true
    · rw [if_pos h, if_pos h]
      simp
    · rw [if_neg h, if_neg h, mem_addAll]
      constructor
      · rintro ((h1 | h1) | h1)
        · exact .inl h1
        · exact .inr (.inl h1)
        · exact .inr (.inr h1)
      · rintro (h1 | h1 | h1)
        · exact .inl (.inl h1)
        · exact .inl (.inr h1)
        · exact .inr h1

theorem inv_same (es : List Ev) (i : Nat) : invS es i = invAt es i := by
  unfold invS invAt
  congr 2
  funext x
  congr 1
  refine hasW_ext (fun y => ?_) x
  unfold writtenL ksTo
  rw [mem_addEs]
  simp

theorem invs_same (es : List Ev) (n : Nat) : placesTo (invS es) n = placesTo (invAt es) n := by
  congr 1
  funext i
  exact inv_same es i

end Go.Proofs.Ytkgojpmjnehcnaa

/- What was written: the contract of impl.Written. -/
namespace Go.Proofs.Ytkgojpmjnehcnaa
open Go.ChangeShapes Go.WideShapes Go.ChangeAt Go.RowKit Go.Joins Go.Maps
attribute [local go_sem ↓] Go.wp_at_zero Go.wp_at_succ

/-- A row that grows beside a set of the same writes, in whatever way. -/
def Tell (w wr : World) (b : Nat) (out : List Wr) (v : Value) : Prop := ∃ es V E, TellI w wr b out v es V E

theorem Tell.more {w wr w' : World} {b : Nat} {out : List Wr} {v : Value} (h : Tell w wr b out v) (hb : Below wr.heap.size wr w') : Tell w w' b out v := by
  obtain ⟨es, V, E, h⟩ := h
  exact ⟨es, V, E, h.more hb⟩

theorem Tell.below {w wr : World} {b : Nat} {out : List Wr} {v : Value} (h : Tell w wr b out v) : Below w.heap.size w wr := by
  obtain ⟨es, V, E, h⟩ := h
  exact h.below

theorem tell_made (w : World) : Tell w (w.alloc (.map #[] 0)) w.heap.size [] (.slice none 0 0) :=
  ⟨[], _, _, ⟨rfl, rowG_nil _ _, setIs_made w w w.heap.size, fun g h => by simp [Value.ownBlock] at h, fun e he => by simp at he, (Below.refl _ _).alloc (Nat.le_refl _) _, Nat.le_refl _⟩⟩

set_option maxRecDepth 100000 in
set_option maxHeartbeats 8000000 in
theorem implWritten_any (a : Option Addr) (n cap : Nat) (es : List Ev) (w : World) (hn : es.length = n) (hm : n ≤ 1048576) (hx : FewE es) (hh : heftB (evW es) ≤ 1048576) (hr : EsR es) (hi : IsEs w a es) :
    Calls Try.prog 11 #[.slice a n cap] w fun e w' => ∃ v gs, e = .returned v ∧ gs.map (·.x) = writtenL es ∧ RowG w' w.heap.size v gs ∧ Below w.heap.size w w' := by
  have HI := Lib.hid hi
  have HN := Lib.hid hn
  have HX := Lib.hid hx
  have HHE := Lib.hid hh
  have HR := Lib.hid hr
  clear hi hn hx hh hr
  obtain ⟨i0, hi0, hx0⟩ := Option.map_eq_some_iff.1 infoWr
  simp only [Prod.mk.injEq] at hx0
  have HI0 := Lib.hid hi0
  have HX0 := Lib.hid hx0
  clear hi0 hx0
  have HT0 := Lib.hid (tell_made w)
  have hmm := @run_makeMap Try.prog
  go_enter Try.func11, Try.ntmps11
  go_wp2
  clear hmm
  go_loopw [3, 12] (fun t i wr => ∃ (k : Nat) (v : Value), k ≤ n ∧ i = .int .i64 k ∧ v = t ∧ Hid (Tell w wr w.heap.size ((es.take k).foldl addE []) v)) (fun _ i _ => n - (intOf i).toNat)
  case atStart => exact ⟨0, _, Nat.zero_le _, rfl, rfl, HT0⟩
  case round =>
    clear HT0
    obtain ⟨k, v, hk, rfl, rfl, HT⟩ := hrel
    by_cases hk' : k < n
    · have hkw : k < es.length := by rw [HN.out]; exact hk'
      have i1 : (0 : Int) ≤ (k : Int) := by omega
      have i2 : (k : Int) < (n : Int) := by omega
      obtain ⟨b, o, ad, cq, rfl, hz, e0, hde⟩ := HI.out.base HT.out.below hkw
      have HW := Lib.hid hde
      have HNX := Lib.hid (foldl_next addE es [] evz hkw)
      have HWG : Hid (∀ j, wgt (((es.getD k evz).ws.take j).foldl addW ((es.take k).foldl addE [])) ≤ 1048576) := fun j => Nat.le_trans (writing_wgt es hkw) HHE.out
      have HRR := Lib.hid (HR.out k hkw).2.2
      obtain ⟨hql, hqf⟩ := HX.out k hkw
      have HQF := Lib.hid hqf
      clear hde hqf
      unfold EvAt at e0
      generalize es.getD k evz = x at *
      obtain ⟨xs, xh, xm, xw⟩ := x
      simp only at e0 hql HW HWG HRR HQF
      obtain ⟨c0', c1, c2, c3⟩ := e0
      generalize (es.take k).foldl addE [] = out0 at *
      obtain ⟨q, hq⟩ : ∃ q, xw.length = q := ⟨_, rfl⟩
      rw [hq] at c3 hql
      have HQ := Lib.hid hq
      clear hq
      have HBA : Hid (Below wr.heap.size wr (wr.alloc (.cells #[.int .i64 xs, .bool xh, .int .i64 xm, .slice ad q cq] 59))) := (Below.refl _ _).alloc (Nat.le_refl _) _
      have HT1 := Lib.hid (HT.out.more HBA.out)
      cases xh with
      | true =>
        have HN2 : Hid ((es.take (k + 1)).foldl addE [] = out0) := HNX.out.trans (if_pos rfl)
        clear HNX HT HWG
        rw [← HN2.out] at HT1
        go_wp2
        exact ⟨⟨k + 1, v, by omega, by go_num, rfl, HT1⟩, by simp [intOf]; omega⟩
      | false =>
        have HN2 : Hid ((es.take (k + 1)).foldl addE [] = xw.foldl addW out0) := HNX.out.trans (if_neg (by simp))
        clear HNX HT
        go_wp2
        generalize wr.alloc (.cells #[.int .i64 xs, .bool false, .int .i64 xm, .slice ad q cq] 59) = W1 at *
        go_loopw [3, 21] (fun t i wr => ∃ (j : Nat) (u : Value), j ≤ q ∧ i = .int .i64 j ∧ u = t ∧ Hid (Tell w wr w.heap.size ((xw.take j).foldl addW out0) u)) (fun _ i _ => q - (intOf i).toNat)
        case atStart => exact ⟨0, _, Nat.zero_le _, rfl, rfl, HT1⟩
        case round =>
          clear HT1
          obtain ⟨j, u, hj, rfl, rfl, HT⟩ := hrel
          by_cases hj' : j < q
          · have hjw : j < xw.length := by rw [HQ.out]; exact hj'
            have i3 : (0 : Int) ≤ (j : Int) := by omega
            have i4 : (j : Int) < (q : Int) := by omega
            obtain ⟨bw, ow, aw, cw, rfl, hzw, ⟨e0, e1, e2, e3, e4, e5, e6⟩, hdw⟩ := HW.out.base HT.out.below HQ.out hj'
            have HDW := Lib.hid hdw
            have hxl := HQF.out j hjw
            have HYR := Lib.hid (HRR.out j hjw)
            have HNY := Lib.hid (foldl_next addW xw out0 wz hjw)
            have hwg := HWG.out j
            clear hdw
            generalize xw.getD j wz = y at *
            generalize (xw.take j).foldl addW out0 = out at *
            obtain ⟨yk, yc, ys, yq, yv, yd, yy⟩ := y
            simp only at e0 e1 e2 e3 e4 e5 e6 hxl HDW
            have hol : out.length ≤ 1048576 := by unfold wgt at hwg; omega
            obtain ⟨gs, V, E, hT⟩ := HT.out
            have HTI := Lib.hid hT
            have hgl : gs.length ≤ 1048576 := by
              have h1 := congrArg List.length hT.xs
              rw [List.length_map] at h1
              omega
            have HSL := Lib.hid hT.set.lt
            clear hT HT
            have HBB : Hid (Below wr.heap.size wr (wr.alloc (.cells #[.int .i64 yk, .int .i64 yc, .int .i64 ys, .int .i64 yq, .int .i64 yv, .bool yd, .slice aw yy.length cw] 43))) := (Below.refl _ _).alloc (Nat.le_refl _) _
            have HT2 := Lib.hid (HTI.out.more HBB.out)
            have HBX : Hid ((wr.alloc (.cells #[.int .i64 yk, .int .i64 yc, .int .i64 ys, .int .i64 yq, .int .i64 yv, .bool yd, .slice aw yy.length cw] 43)).heap[wr.heap.size]? = some (.cells #[.int .i64 yk, .int .i64 yc, .int .i64 ys, .int .i64 yq, .int .i64 yv, .bool yd, .slice aw yy.length cw] 43 (0, 0))) := heap_alloc_new _ _
            have HSZ : Hid (wr.heap.size < (wr.alloc (.cells #[.int .i64 yk, .int .i64 yc, .int .i64 ys, .int .i64 yq, .int .i64 yv, .bool yd, .slice aw yy.length cw] 43)).heap.size) := by show _ < _; simp
            go_wp2_with fail
            generalize wr.alloc (.cells #[.int .i64 yk, .int .i64 yc, .int .i64 ys, .int .i64 yq, .int .i64 yv, .bool yd, .slice aw yy.length cw] 43) = W2 at *
            refine (setLacks_any w.heap.size out.length w.heap.size V E out ⟨yk, yc, ys, yq, yv, yd, yy⟩ aw cw w _ hol HYR.out hxl (HDW.out.below HT2.out.below) HT2.out.below HT2.out.set).mono ?_
            rintro e w3 ⟨rfl, hb3⟩
            have HT3 := Lib.hid (HT2.out.more hb3)
            have hz3 : wr.heap.size < w3.heap.size := Nat.lt_of_lt_of_le HSZ.out hb3.size
            have HX3 := Lib.hid ((hb3.block _ HSZ.out).trans HBX.out)
            have c0 := cell_of_row w3 wr.heap.size 0 _ _ _ HX3.out
            have c1 := cell_of_row w3 wr.heap.size 1 _ _ _ HX3.out
            have c2 := cell_of_row w3 wr.heap.size 2 _ _ _ HX3.out
            have c3 := cell_of_row w3 wr.heap.size 3 _ _ _ HX3.out
            have c4 := cell_of_row w3 wr.heap.size 4 _ _ _ HX3.out
            have c5 := cell_of_row w3 wr.heap.size 5 _ _ _ HX3.out
            have c6 := cell_of_row w3 wr.heap.size 6 _ _ _ HX3.out
            simp at c0 c1 c2 c3 c4 c5 c6
            clear hb3 HT2 HBX HSZ HBB HTI e0 e1 e2 e3 e4 e5 e6
            cases hhas : hasW out ⟨yk, yc, ys, yq, yv, yd, yy⟩ with
            | true =>
              have HT4 : Hid (Tell w w3 w.heap.size ((xw.take (j + 1)).foldl addW out0) u) := by
                rw [HNY.out, addW_has hhas]
                exact ⟨gs, V, E, HT3.out⟩
              clear hhas
              go_wp2
              exact ⟨⟨j + 1, u, by omega, by go_num, rfl, HT4⟩, by simp [intOf]; omega⟩
            | false =>
              have HNZ := Lib.hid (HNY.out.trans (addW_not hhas))
              clear hhas HNY
              go_wp2_with fail
              refine (setAdd_any w.heap.size out.length w.heap.size V E out ⟨yk, yc, ys, yq, yv, yd, yy⟩ aw cw w _ (by omega) (fun d => Nat.le_trans (HT3.out.set.len d) hol) HYR.out hxl HDW.out HT3.out.below HT3.out.below.size HT3.out.set).mono ?_
              rintro e w4 ⟨rfl, hadd⟩
              obtain ⟨V', E', hs4, hr4, hd4, hd5, hb4⟩ := HT3.out.added hadd
              have HS4 := Lib.hid hs4
              have HR4 := Lib.hid hr4
              have HD4 := Lib.hid hd4
              have HD5 := Lib.hid hd5
              have HB4 := Lib.hid hb4
              have q4 : w4.heap[wr.heap.size]? = some (.cells #[.int .i64 yk, .int .i64 yc, .int .i64 ys, .int .i64 yq, .int .i64 yv, .bool yd, .slice aw yy.length cw] 43 (0, 0)) := by
                obtain ⟨_, _, _, _, hbut⟩ := hadd
                exact (hbut.block wr.heap.size hz3 fun hy => by have := HSL.out _ hy; omega).trans HX3.out
              have c0 := cell_of_row w4 wr.heap.size 0 _ _ _ q4
              have c1 := cell_of_row w4 wr.heap.size 1 _ _ _ q4
              have c2 := cell_of_row w4 wr.heap.size 2 _ _ _ q4
              have c3 := cell_of_row w4 wr.heap.size 3 _ _ _ q4
              have c4 := cell_of_row w4 wr.heap.size 4 _ _ _ q4
              have c5 := cell_of_row w4 wr.heap.size 5 _ _ _ q4
              have c6 := cell_of_row w4 wr.heap.size 6 _ _ _ q4
              simp at c0 c1 c2 c3 c4 c5 c6
              have HXS := Lib.hid HT3.out.xs
              have HBL := Lib.hid HT3.out.blt
              clear hs4 hr4 hd4 hd5 hb4 q4 hadd HT3 HX3 HSL
              go_wp2_with fail
              refine (icopy_any ⟨yk, yc, ys, yq, yv, yd, yy⟩ aw cw _ hxl (HDW.out.below HB4.out)).mono ?_
              rintro e w5 ⟨a2, g2, cp2, rfl, hg, hb⟩
              have HB5 := Lib.hid hb
              have HG5 := Lib.hid hg
              have hsz : w.heap.size ≤ w5.heap.size := Nat.le_trans HB4.out.size hb.size
              clear hb hg c0 c1 c2 c3 c4 c5 c6
              have HBC : Hid (Below w5.heap.size w5 (w5.alloc (.cells #[.int .i64 yk, .int .i64 yc, .int .i64 ys, .int .i64 yq, .int .i64 yv, .bool yd, .slice a2 yy.length cp2] 43))) := (Below.refl _ _).alloc (Nat.le_refl _) _
              have HBD : Hid (Below w4.heap.size w4 (w5.alloc (.cells #[.int .i64 yk, .int .i64 yc, .int .i64 ys, .int .i64 yq, .int .i64 yv, .bool yd, .slice a2 yy.length cp2] 43))) := below_step HB5.out HB5.out.size HBC.out
              have HRC := Lib.hid (HR4.out.below HBD.out)
              have HGC := Lib.hid (HG5.out.below HBC.out)
              go_wp2_with (at_builtin; refine wpList_append_lies _ (by rfl) _ _ _ (by rfl) w.heap.size 43 i0 (wrV 0 0 0 0 0 false none 0 0) 7 72 Try.underlying24 HI0.out HX0.out.1 HX0.out.2.1 HX0.out.2.2 (by rfl) (by omega) u gs.length (gs.flatMap wrValsG) (by rfl) HRC.out.own ⟨w5.heap.size, 0, none⟩ 1 1 (wrValsG ⟨⟨yk, yc, ys, yq, yv, yd, yy⟩, a2, g2, cp2⟩) (by rfl) (by rfl) (oneG_cells w5 _ ⟨⟨yk, yc, ys, yq, yv, yd, yy⟩, a2, g2, cp2⟩) (by simpa using valsG_one [⟨⟨yk, yc, ys, yq, yv, yd, yy⟩, a2, g2, cp2⟩]) (by omega) (by unfold maxLen; omega) (by omega) (by simp; omega) _ rfl ?_; intro g3 cp3 w6 hown hgrow hg3 _; refine Hid.out ?_)
              refine Lib.hid ?_
              have HT6 : Hid (Tell w w6 w.heap.size ((xw.take (j + 1)).foldl addW out0) (.slice (some ⟨g3, 0, none⟩) (gs.length + 1) cp3)) := by
                rw [HNZ.out]
                exact ⟨_, _, _, TellI.told (x := ⟨yk, yc, ys, yq, yv, yd, yy⟩) HXS.out HS4.out HR4.out HD4.out HD5.out HB4.out HBL.out HBD.out HGC.out hown hgrow hg3⟩
              clear hown hgrow hg3 HRC HBC HBD HGC
              go_wp2
              exact ⟨⟨j + 1, _, by omega, by go_num, rfl, HT6⟩, by simp [intOf]; omega⟩
          · obtain rfl : j = q := by omega
            have HT4 : Hid (Tell w wr w.heap.size ((es.take (k + 1)).foldl addE []) u) := by
              have h := HT.out
              rw [List.take_of_length_le (by rw [HQ.out]; exact Nat.le_refl _), ← HN2.out] at h
              exact h
            go_wp2
            exact ⟨⟨k + 1, u, by omega, by go_num, rfl, HT4⟩, by simp [intOf]; omega⟩
    · have hkk : k = n := by omega
      subst hkk
      have HF : Hid (Tell w wr w.heap.size (writtenL es) v) := by
        have h := HT.out
        rw [List.take_of_length_le (by rw [HN.out]; exact Nat.le_refl _)] at h
        exact h
      obtain ⟨gs, V, E, hT⟩ := HF.out
      have HTI := Lib.hid hT
      clear hT
      go_wp2
      go_ret
      exact ⟨_, gs, rfl, HTI.out.xs, HTI.out.row, HTI.out.below⟩

end Go.Proofs.Ytkgojpmjnehcnaa

/- The laws' copies of batches: the contracts of toBatch and toBatchS. -/
namespace Go.Proofs.Ytkgojpmjnehcnaa
open Go.ChangeShapes Go.WideShapes Go.ChangeAt Go.RowKit Go.Joins
attribute [local go_sem ↓] Go.wp_at_zero Go.wp_at_succ

set_option maxRecDepth 100000 in
theorem OwnG.lower {w : World} {base base' b : Nat} {ws : List Wr} {γ : Nat → Nat} (h : OwnG w base b ws γ) (hb : base' ≤ base) : OwnG w base' b ws γ where
  lt := h.lt
  le := Nat.le_trans hb h.le
  open_ := h.open_
  at_ := h.at_
  deps := fun i hi hp => ⟨Nat.le_trans hb (h.deps i hi hp).1, (h.deps i hi hp).2⟩
  inj := h.inj

set_option maxRecDepth 100000 in
theorem OwnA.wider {w : World} {lo lo' hi hi' : Nat} {a : Option Addr} {ws : List Wr} {γ : Nat → Nat} (h : OwnA w lo hi a ws γ) (h1 : lo' ≤ lo) (h2 : hi ≤ hi') : OwnA w lo' hi' a ws γ := by
  rcases h with h | ⟨b, q1, q2, q3, q4⟩
  · exact .inl h
  · exact .inr ⟨b, q1, q2.lower h1, Nat.lt_of_lt_of_le q3 h2, fun i hi hp => Nat.lt_of_lt_of_le (q4 i hi hp) h2⟩

set_option maxRecDepth 100000 in
theorem OwnA.setLow {w : World} {lo hi : Nat} {a : Option Addr} {ws : List Wr} {γ : Nat → Nat} (h : OwnA w lo hi a ws γ) {b : Nat} (hb : b < lo) (o : Nat) (v : Value) : OwnA (w.setCell ⟨b, o, none⟩ v) lo hi a ws γ :=
  h.only (S := fun x => x = b) (Only.set (S := fun x => x = b) (Only.refl _ w) rfl o v) fun x hx => by rw [hx]; exact hb

/-- The row while it is filled in. -/
def fillBat (es : List Bat) (j : Nat) : Value := if j < es.length then batV (es.getD j btz) else .slice none 0 0

set_option maxRecDepth 100000 in
theorem get_old (es : List Bat) (x : Bat) {i : Nat} (h : i < es.length) : (es ++ [x]).getD i btz = es.getD i btz := by
  rw [List.getD_eq_getElem?_getD, List.getD_eq_getElem?_getD, List.getElem?_append_left h]

set_option maxRecDepth 100000 in
theorem fillBat_step (es : List Bat) (x : Bat) (j : Nat) : (if j = es.length then batV x else fillBat es j) = fillBat (es ++ [x]) j := by
  unfold fillBat
  by_cases h : j = es.length
  · rw [if_pos h, if_pos (by simp; omega), h]
    simp [List.getD]
  · rw [if_neg h]
    by_cases hl : j < es.length
    · rw [if_pos hl, if_pos (by simp; omega), get_old es x hl]
    · rw [if_neg hl, if_neg (by simp; omega)]

set_option maxRecDepth 100000 in
theorem rowBat_start (w : World) (t n : Nat) : (w.alloc (.cells (madeCells #[.slice none 0 0] n) t)).rowIs w.heap.size t n (fillBat []) := by
  refine ⟨_, Go.Deep.blk_alloc_new _ _, size_madeCells _ _, fun i hi => ?_⟩
  have e : fillBat [] i = .slice none 0 0 := by unfold fillBat; rw [if_neg (by simp)]
  rw [e]
  have h1 : i % 1 = 0 := by omega
  simp [madeCells, hi, h1]

/-- The batches that are laid so far. -/
def LaidB (w : World) (B : Nat) (es : List Bat) : Prop := (∀ i, i < es.length → B < (es.getD i btz).lo ∧ (es.getD i btz).hi ≤ w.heap.size ∧ OwnA w (es.getD i btz).lo (es.getD i btz).hi (es.getD i btz).a (es.getD i btz).ws (es.getD i btz).γ) ∧ ∀ i j, i < j → j < es.length → (es.getD i btz).hi ≤ (es.getD j btz).lo

set_option maxRecDepth 100000 in
theorem get_new (es : List Bat) (x : Bat) : (es ++ [x]).getD es.length btz = x := by simp [List.getD]

set_option maxRecDepth 100000 in
theorem LaidB.more {w w' : World} {B : Nat} {es : List Bat} (h : LaidB w B es) (hb : Below w.heap.size w w') {x : Bat} (h1 : B < x.lo) (h2 : w.heap.size ≤ x.lo) (h3 : x.hi ≤ w'.heap.size) (h4 : OwnA w' x.lo x.hi x.a x.ws x.γ) : LaidB w' B (es ++ [x]) := by
  constructor
  · intro i hi
    by_cases hl : i < es.length
    · rw [get_old es x hl]
      obtain ⟨q1, q2, q3⟩ := h.1 i hl
      exact ⟨q1, Nat.le_trans q2 hb.size, q3.below hb⟩
    · have hi' : i = es.length := by simp at hi; omega
      rw [hi', get_new]
      exact ⟨h1, h3, h4⟩
  · intro i j hij hj
    by_cases hl : j < es.length
    · rw [get_old es x hl, get_old es x (by omega)]
      exact h.2 i j hij hl
    · have hj' : j = es.length := by simp at hj; omega
      rw [hj', get_new, get_old es x (by omega)]
      exact Nat.le_trans (h.1 i (by omega)).2.1 h2

set_option maxRecDepth 100000 in
theorem LaidB.setRow {w : World} {B : Nat} {es : List Bat} (h : LaidB w B es) (o : Nat) (v : Value) : LaidB (w.setCell ⟨B, o, none⟩ v) B es :=
  ⟨fun i hi => ⟨(h.1 i hi).1, by simpa using (h.1 i hi).2.1, (h.1 i hi).2.2.setLow (h.1 i hi).1 o v⟩, h.2⟩

end Go.Proofs.Ytkgojpmjnehcnaa

/- Events of one's own: the contracts of toEvent and toEventS. -/
namespace Go.Proofs.Ytkgojpmjnehcnaa
open Go.ChangeShapes Go.WideShapes Go.ChangeAt Go.RowKit Go.Joins
attribute [local go_sem ↓] Go.wp_at_zero Go.wp_at_succ

theorem toWriteS_ownA (a : Option Addr) (n cap : Nat) (ws : List Wr) (w : World) (hn : ws.length = n) (hm : n ≤ 1048576) (hx : Few ws) (h : IsWs w a ws) :
    Calls Try.prog 62 #[.slice a n cap] w fun e w' => ∃ γ, e = .returned (.slice (some ⟨w.heap.size, 0, none⟩) n n) ∧ OwnA w' w.heap.size w'.heap.size (some ⟨w.heap.size, 0, none⟩) ws γ ∧ Below w.heap.size w w' :=
  (toWriteS_any a n cap ws w hm hn (fun i hi => hx i (by rw [hn]; exact hi)) h).mono fun _ _ ⟨γ, he, ho, hb⟩ => ⟨γ, he, ho.gen.ownA, hb⟩

def put4 (w : World) (b o : Nat) (s : Int) (sh : Bool) (m : Int) (v : Value) : World :=
  (((w.setCell ⟨b, o, none⟩ (.int .i64 s)).setCell ⟨b, o + 1, none⟩ (.bool sh)).setCell ⟨b, o + 2, none⟩ (.int .i64 m)).setCell ⟨b, o + 3, none⟩ v

theorem OwnA.put4 {w : World} {lo hi : Nat} {a : Option Addr} {ws : List Wr} {γ : Nat → Nat} (h : OwnA w lo hi a ws γ) {b : Nat} (hb : b < lo) (o : Nat) (s : Int) (sh : Bool) (m : Int) (v : Value) : OwnA (Proofs.Ytkgojpmjnehcnaa.put4 w b o s sh m v) lo hi a ws γ :=
  (((h.setLow hb _ _).setLow hb _ _).setLow hb _ _).setLow hb _ _

theorem Below.put4' {B : Nat} {w w' : World} (h : Below B w w') {b : Nat} (hb : B ≤ b) (o : Nat) (s : Int) (sh : Bool) (m : Int) (v : Value) : Below B w (put4 w' b o s sh m v) :=
  (((h.setCell (p := ⟨b, o, none⟩) hb _).setCell (p := ⟨b, o + 1, none⟩) hb _).setCell (p := ⟨b, o + 2, none⟩) hb _).setCell (p := ⟨b, o + 3, none⟩) hb _

theorem put4_size (w : World) (b o : Nat) (s : Int) (sh : Bool) (m : Int) (v : Value) : (put4 w b o s sh m v).heap.size = w.heap.size := by simp [put4]

set_option maxRecDepth 100000 in
set_option maxHeartbeats 4000000 in
theorem toEvent_any (s : Int) (sh : Bool) (m : Int) (a : Option Addr) (n cap : Nat) (ws : List Wr) (w : World) (hn : ws.length = n) (hm : n ≤ 1048576) (hx : Few ws) (h : IsWs w a ws) :
    Calls Try.prog 35 #[evV s sh m a n cap] w fun e w' => ∃ b γ, e = .returned (evV s sh m (some ⟨b, 0, none⟩) n n) ∧ OwnA w' w.heap.size w'.heap.size (some ⟨b, 0, none⟩) ws γ ∧ Below w.heap.size w w' := by
  have H := Lib.hid h
  have HN := Lib.hid hn
  have HX := Lib.hid hx
  clear h hn hx
  obtain ⟨O1, hO1⟩ : ∃ O, O = Obj.cells #[.int .i64 s, .bool sh, .int .i64 m, .slice a n cap] 57 := ⟨_, rfl⟩
  obtain ⟨O2, hO2⟩ : ∃ O, O = Obj.cells #[.int .i64 0, .bool false, .int .i64 0, .slice none 0 0] 59 := ⟨_, rfl⟩
  obtain ⟨O3, hO3⟩ : ∃ O, O = Obj.cells #[.int .i64 s, .bool sh, .int .i64 m, .slice none 0 0] 59 := ⟨_, rfl⟩
  have HB : Hid (Below w.heap.size w (((w.alloc O1).alloc O2).alloc O3)) := (((Below.refl _ _).alloc (Nat.le_refl _) _).alloc (by simp) _).alloc (by simp; omega) _
  have hsz : (((w.alloc O1).alloc O2).alloc O3).heap.size = w.heap.size + 3 := by simp
  have e : (w.alloc O1).heap.size = w.heap.size + 1 := by simp
  have HZ2 : Hid ((((w.alloc O1).alloc O2).alloc O3).heap[w.heap.size + 1]? = some O2) := by
    have := heap_alloc2_old (w.alloc O1) O2 O3
    rwa [e] at this
  have HZ3 : Hid ((((w.alloc O1).alloc O2).alloc O3).heap[w.heap.size + 2]? = some O3) := by
    have := heap_alloc2_new (w.alloc O1) O2 O3
    rwa [e] at this
  clear e
  subst hO1 hO2 hO3
  go_enter Try.func35, Try.ntmps35
  go_wp2_with fail
  generalize ((w.alloc (.cells #[.int .i64 s, .bool sh, .int .i64 m, .slice a n cap] 57)).alloc (.cells #[.int .i64 0, .bool false, .int .i64 0, .slice none 0 0] 59)).alloc (.cells #[.int .i64 s, .bool sh, .int .i64 m, .slice none 0 0] 59) = W3 at *
  refine (toWriteS_ownA a n cap ws _ HN.out hm HX.out (H.out.below HB.out)).mono ?_
  rintro e w4 ⟨γ, rfl, hO, hb⟩
  have HO := Lib.hid hO
  have HB4 : Hid (Below w.heap.size w w4) := below_step HB.out HB.out.size hb
  have q2 := (hb.block (w.heap.size + 1) (by omega)).trans HZ2.out
  have q3 := (hb.block (w.heap.size + 2) (by omega)).trans HZ3.out
  have hs4 : W3.heap.size ≤ w4.heap.size := hb.size
  have d0 := cell_of_row w4 (w.heap.size + 1) 0 _ _ _ q2
  have d1 := cell_of_row w4 (w.heap.size + 1) 1 _ _ _ q2
  have d2 := cell_of_row w4 (w.heap.size + 1) 2 _ _ _ q2
  have d3 := cell_of_row w4 (w.heap.size + 1) 3 _ _ _ q2
  have c0 := cell_of_row w4 (w.heap.size + 2) 0 _ _ _ q3
  have c1 := cell_of_row w4 (w.heap.size + 2) 1 _ _ _ q3
  have c2 := cell_of_row w4 (w.heap.size + 2) 2 _ _ _ q3
  have c3 := cell_of_row w4 (w.heap.size + 2) 3 _ _ _ q3
  have f2 : ∀ o, w4.frozen? ⟨w.heap.size + 1, o, none⟩ = false := fun o => frozen_of_row w4 (w.heap.size + 1) o _ _ q2
  have f3 : ∀ o, w4.frozen? ⟨w.heap.size + 2, o, none⟩ = false := fun o => frozen_of_row w4 (w.heap.size + 2) o _ _ q3
  simp at d0 d1 d2 d3 c0 c1 c2 c3
  clear hb hO HB HZ2 HZ3 q2 q3
  go_wp2
  have hw3 : W3.heap.size = w.heap.size + 3 := hsz
  refine bodyPost_ret (v := evV s sh m (some ⟨w.heap.size + 3, 0, none⟩) n n) (by simp [results, Try.results35, go_sem, d0, d1, d2, d3]) rfl ⟨w.heap.size + 3, γ, rfl, ?_, ?_⟩
  · have h1 := HO.out
    rw [hw3] at h1
    exact ((h1.setLow (b := w.heap.size + 1 + 1) (by omega) 3 _).put4 (b := w.heap.size + 1) (by omega) 0 s sh m _).wider (by omega) (by simp)
  · exact Below.put4' (HB4.out.setCell (p := ⟨w.heap.size + 1 + 1, 3, none⟩) (by simp; omega) _) (b := w.heap.size + 1) (by omega) 0 s sh m _

/-- An event of one's own: its site, whether it was shown, its mask, its writes as a batch. -/
structure EvB where
  s : Int
  sh : Bool
  m : Int
  b : Bat

def ebz : EvB := ⟨0, false, 0, btz⟩

def evOf (e : EvB) : Ev := ⟨e.s, e.sh, e.m, e.b.ws⟩

def evsOf (es : List EvB) : List Ev := es.map evOf

theorem evsOf_len (es : List EvB) : (evsOf es).length = es.length := by simp [evsOf]

theorem evsOf_get (es : List EvB) {i : Nat} (h : i < es.length) : (evsOf es).getD i evz = evOf (es.getD i ebz) := by simp [evsOf, List.getD, h]

/-- Field c of an event. -/
def fieldE (e : EvB) (c : Nat) : Value := if c = 0 then .int .i64 e.s else if c = 1 then .bool e.sh else if c = 2 then .int .i64 e.m else batV e.b

/-- f has these events, four cells each. -/
def EvsIn (f : Nat → Value) (es : List EvB) : Prop := ∀ i, i < es.length → ∀ c, c < 4 → f (i * 4 + c) = fieldE (es.getD i ebz) c

/-- The memory of the writes of events, below none of them the row's. -/
def LaidE (w : World) (lo hi b : Nat) (es : List EvB) : Prop := (∀ i, i < es.length → lo ≤ (es.getD i ebz).b.lo ∧ (es.getD i ebz).b.hi ≤ hi ∧ (b < (es.getD i ebz).b.lo ∨ (es.getD i ebz).b.hi ≤ b) ∧ OwnA w (es.getD i ebz).b.lo (es.getD i ebz).b.hi (es.getD i ebz).b.a (es.getD i ebz).b.ws (es.getD i ebz).b.γ) ∧ ∀ i j, i < j → j < es.length → (es.getD i ebz).b.hi ≤ (es.getD j ebz).b.lo

/-- Events of one's own: a row, and each event's writes apart from the row and from the others'. -/
def OwnE (w : World) (lo hi : Nat) (a : Option Addr) (es : List EvB) : Prop :=
  es = [] ∨ ∃ b N f, a = some ⟨b, 0, none⟩ ∧ lo ≤ b ∧ b < hi ∧ w.rowIs b 59 N f ∧ es.length * 4 ≤ N ∧ EvsIn f es ∧ LaidE w lo hi b es

theorem LaidE.below {w w' : World} {lo hi b : Nat} {es : List EvB} (h : LaidE w lo hi b es) (hb : Below w.heap.size w w') : LaidE w' lo hi b es :=
  ⟨fun i hi => ⟨(h.1 i hi).1, (h.1 i hi).2.1, (h.1 i hi).2.2.1, (h.1 i hi).2.2.2.below hb⟩, h.2⟩

theorem OwnE.below {w w' : World} {lo hi : Nat} {a : Option Addr} {es : List EvB} (h : OwnE w lo hi a es) (hb : Below w.heap.size w w') : OwnE w' lo hi a es := by
  rcases h with h | ⟨b, N, f, h1, h2, h3, h4, h5, h6, h7⟩
  · exact .inl h
  · exact .inr ⟨b, N, f, h1, h2, h3, h4.of_block (hb.block b h4.lt), h5, h6, h7.below hb⟩

theorem OwnE.only {w w' : World} {S : Nat → Prop} {lo hi : Nat} {a : Option Addr} {es : List EvB} (h : OwnE w lo hi a es) (ho : Only S w w') (hS : ∀ x, S x → x < lo) : OwnE w' lo hi a es := by
  rcases h with h | ⟨b, N, f, h1, h2, h3, h4, h5, h6, h7⟩
  · exact .inl h
  · exact .inr ⟨b, N, f, h1, h2, h3, h4.of_block (ho.block b fun e => by have := hS b e; omega), h5, h6, fun i hi => ⟨(h7.1 i hi).1, (h7.1 i hi).2.1, (h7.1 i hi).2.2.1, (h7.1 i hi).2.2.2.only ho fun x hx => by have := hS x hx; have := (h7.1 i hi).1; omega⟩, h7.2⟩

theorem EvsIn.at_ {f : Nat → Value} {es : List EvB} (h : EvsIn f es) {w : World} {b t N : Nat} (hr : w.rowIs b t N f) (hN : es.length * 4 ≤ N) {i : Nat} (hi : i < es.length) : EvAt w b (i * 4) (evOf (es.getD i ebz)) (es.getD i ebz).b.a (es.getD i ebz).b.cap := by
  have c : ∀ c, c < 4 → w.cell? ⟨b, i * 4 + c, none⟩ = some (fieldE (es.getD i ebz) c) := fun c hc => by rw [hr.cell (i := i * 4 + c) (by omega), h i hi c hc]
  exact ⟨c 0 (by omega), c 1 (by omega), c 2 (by omega), c 3 (by omega)⟩

theorem OwnE.isEs {w : World} {lo hi : Nat} {a : Option Addr} {es : List EvB} (h : OwnE w lo hi a es) (hx : FewE (evsOf es)) : IsEs w a (evsOf es) := by
  rcases h with h | ⟨b, N, f, h1, h2, h3, h4, h5, h6, h7⟩
  · exact .inl (by rw [h]; rfl)
  · refine .inr ⟨b, 0, h1, h4.lt, fun i hi => ?_⟩
    have hi' : i < es.length := by rwa [evsOf_len] at hi
    have hf := (hx i hi).2
    rw [evsOf_get es hi'] at hf ⊢
    exact ⟨_, _, by rw [Nat.zero_add]; exact h6.at_ h4 h5 hi', (h7.1 i hi').2.2.2.isWs hf⟩

/-- The row while it is filled in. -/
def fillE (es : List EvB) (j : Nat) : Value := fieldE (es.getD (j / 4) ebz) (j % 4)

theorem fillE_in (es : List EvB) : EvsIn (fillE es) es := fun i _ c hc => by
  unfold fillE
  rw [show (i * 4 + c) / 4 = i by omega, show (i * 4 + c) % 4 = c by omega]

theorem eb_old (es : List EvB) (x : EvB) {i : Nat} (h : i ≠ es.length) : (es ++ [x]).getD i ebz = es.getD i ebz := by
  rw [List.getD_eq_getElem?_getD, List.getD_eq_getElem?_getD]
  by_cases hl : i < es.length
  · rw [List.getElem?_append_left hl]
  · rw [List.getElem?_eq_none (by simp; omega), List.getElem?_eq_none (by omega)]

theorem eb_new (es : List EvB) (x : EvB) : (es ++ [x]).getD es.length ebz = x := by simp [List.getD]

theorem fillE_step (es : List EvB) (x : EvB) (j : Nat) : (if j = es.length * 4 + 3 then batV x.b else if j = es.length * 4 + 2 then .int .i64 x.m else if j = es.length * 4 + 1 then .bool x.sh else if j = es.length * 4 then .int .i64 x.s else fillE es j) = fillE (es ++ [x]) j := by
  unfold fillE
  by_cases h3 : j = es.length * 4 + 3
  · rw [if_pos h3, show j / 4 = es.length by omega, show j % 4 = 3 by omega, eb_new]
    rfl
  rw [if_neg h3]
  by_cases h2 : j = es.length * 4 + 2
  · rw [if_pos h2, show j / 4 = es.length by omega, show j % 4 = 2 by omega, eb_new]
    rfl
  rw [if_neg h2]
  by_cases h1 : j = es.length * 4 + 1
  · rw [if_pos h1, show j / 4 = es.length by omega, show j % 4 = 1 by omega, eb_new]
    rfl
  rw [if_neg h1]
  by_cases h0 : j = es.length * 4
  · rw [if_pos h0, show j / 4 = es.length by omega, show j % 4 = 0 by omega, eb_new]
    rfl
  rw [if_neg h0, eb_old es x (by omega)]

set_option maxRecDepth 100000 in
theorem infoEvent : (Try.prog.info? 59).map (fun i => (i.zero, i.size, i.bytes)) = some (some (.agg #[.int .i64 0, .bool false, .int .i64 0, .slice none 0 0]), 4, 48) := by kernel_rfl

set_option maxRecDepth 100000 in
theorem run_make_evs (n : Nat) (hn : n ≤ 1048576) (w : World) :
    (Instr.makeSlice 26 (.int .i64 (n : Int)) (.int .i64 (n : Int))).run Try.prog w = .ok (.slice (some ⟨w.heap.size, 0, none⟩) n n) (w.alloc (.cells (madeCells #[.int .i64 0, .bool false, .int .i64 0, .slice none 0 0] (n * 4)) 59)) := by
  obtain ⟨i, hi, hzz⟩ := Option.map_eq_some_iff.1 infoEvent
  simp only [Prod.mk.injEq] at hzz
  obtain ⟨hz, hs, hb⟩ := hzz
  have hr := run_make (P := Try.prog) w 26 59 i _ Try.underlying26 hi hz .i64 .i64 n n (by omega) (Int.le_refl _) (by rw [hb]; omega) (by omega)
  simp only [Int.toNat_natCast, hs] at hr
  exact hr

theorem rowEv_start (w : World) (t n : Nat) : (w.alloc (.cells (madeCells #[.int .i64 0, .bool false, .int .i64 0, .slice none 0 0] (n * 4)) t)).rowIs w.heap.size t (n * 4) (fillE []) := by
  refine ⟨_, Go.Deep.blk_alloc_new _ _, size_madeCells _ _, fun i hi => ?_⟩
  have e : ([] : List EvB).getD (i / 4) ebz = ebz := rfl
  unfold fillE
  rw [e]
  have h4 : i % 4 = 0 ∨ i % 4 = 1 ∨ i % 4 = 2 ∨ i % 4 = 3 := by omega
  rcases h4 with h4 | h4 | h4 | h4 <;> simp [madeCells, hi, h4, fieldE, ebz, btz, batV]

theorem LaidE.more {w w' : World} {B : Nat} {es : List EvB} (h : LaidE w B w.heap.size B es) (hB : B < w.heap.size) (hb : Below w.heap.size w w') {x : EvB} (h2 : w.heap.size ≤ x.b.lo) (h3 : x.b.hi ≤ w'.heap.size) (h4 : OwnA w' x.b.lo x.b.hi x.b.a x.b.ws x.b.γ) : LaidE w' B w'.heap.size B (es ++ [x]) := by
  constructor
  · intro i hi
    by_cases hl : i < es.length
    · rw [eb_old es x (by omega)]
      obtain ⟨q1, q2, q3, q4⟩ := h.1 i hl
      exact ⟨q1, Nat.le_trans q2 hb.size, q3, q4.below hb⟩
    · have hi' : i = es.length := by simp at hi; omega
      rw [hi', eb_new]
      exact ⟨by omega, h3, .inl (by omega), h4⟩
  · intro i j hij hj
    by_cases hl : j < es.length
    · rw [eb_old es x (by omega), eb_old es x (by omega)]
      exact h.2 i j hij hl
    · have hj' : j = es.length := by simp at hj; omega
      rw [hj', eb_new, eb_old es x (by omega)]
      exact Nat.le_trans (h.1 i (by omega)).2.1 h2

theorem LaidE.setRow {w : World} {B : Nat} {es : List EvB} (h : LaidE w B w.heap.size B es) (hs : ∀ i, i < es.length → B < (es.getD i ebz).b.lo) (o : Nat) (s : Int) (sh : Bool) (m : Int) (v : Value) : LaidE (put4 w B o s sh m v) B (put4 w B o s sh m v).heap.size B es :=
  ⟨fun i hi => ⟨(h.1 i hi).1, by rw [put4_size]; exact (h.1 i hi).2.1, (h.1 i hi).2.2.1, (h.1 i hi).2.2.2.put4 (hs i hi) o s sh m v⟩, h.2⟩

set_option maxRecDepth 100000 in
set_option maxHeartbeats 4000000 in
theorem toEventS_any (a : Option Addr) (n cap : Nat) (xs : List Ev) (w : World) (hn : xs.length = n) (hm : n ≤ 1048576) (hx : FewE xs) (h : IsEs w a xs) :
    Calls Try.prog 10 #[.slice a n cap] w fun e w' => ∃ es, e = .returned (.slice (some ⟨w.heap.size, 0, none⟩) n n) ∧ evsOf es = xs ∧ OwnE w' w.heap.size w'.heap.size (some ⟨w.heap.size, 0, none⟩) es ∧ Below w.heap.size w w' := by
  have H := Lib.hid h
  have HN := Lib.hid hn
  have HX := Lib.hid hx
  clear h hn hx
  have hmk := run_make_evs n hm
  go_enter Try.func10, Try.ntmps10
  go_wp2
  clear hmk
  go_loopw [4] (fun i wr => ∃ (k : Nat) (es : List EvB), k ≤ n ∧ i = .int .i64 k ∧ es.length = k ∧ Hid (evsOf es = xs.take k) ∧ Hid (wr.rowIs w.heap.size 59 (n * 4) (fillE es)) ∧ Hid (LaidE wr w.heap.size wr.heap.size w.heap.size es) ∧ Hid (∀ i, i < es.length → w.heap.size < (es.getD i ebz).b.lo) ∧ Hid (Below w.heap.size w wr)) (fun i _ => n - (intOf i).toNat)
  case atStart => exact ⟨0, [], Nat.zero_le _, rfl, rfl, rfl, rowEv_start _ _ _, ⟨fun i hi => by simp at hi, fun i j _ hj => by simp at hj⟩, fun i hi => by simp at hi, (Below.refl _ _).alloc (Nat.le_refl _) _⟩
  case round =>
    obtain ⟨k, es, hk, rfl, hel, HE, HR, HL, HS, HB⟩ := hrel
    by_cases hk' : k < n
    · have hkk : k < xs.length := by rw [HN.out]; exact hk'
      have i1 : (0 : Int) ≤ (k : Int) := by omega
      have i2 : (k : Int) < (n : Int) := by omega
      obtain ⟨b, o, ad, cp, rfl, hz, e0, hw⟩ := H.out.at HB.out hkk
      obtain ⟨hl, hf⟩ := HX.out k hkk
      have HW := Lib.hid hw
      have HF := Lib.hid hf
      have HT : Hid (xs.take (k + 1) = xs.take k ++ [xs.getD k evz]) := by
        show _ = _
        rw [List.take_add_one, List.getElem?_eq_getElem hkk]
        simp [List.getD, hkk]
      have hlt : w.heap.size < wr.heap.size := HR.out.lt
      clear hw hf
      generalize xs.getD k evz = y at *
      obtain ⟨ys, yh, ym, ws⟩ := y
      unfold EvAt at e0
      simp only at e0 hl HW HF
      obtain ⟨c0, c1, c2, c3⟩ := e0
      obtain ⟨q, hq⟩ : ∃ q, ws.length = q := ⟨_, rfl⟩
      rw [hq] at c3 hl
      have HQ := Lib.hid hq
      clear hq
      go_wp2_with fail
      refine (toEvent_any ys yh ym ad q cp ws _ HQ.out hl HF.out HW.out).mono ?_
      rintro e w2 ⟨b2, γ, rfl, hO, hb⟩
      obtain ⟨X, hX⟩ : ∃ X : EvB, X = ⟨ys, yh, ym, ⟨ws, some ⟨b2, 0, none⟩, q, wr.heap.size, w2.heap.size, γ⟩⟩ := ⟨_, rfl⟩
      have HR2 : Hid (w2.rowIs w.heap.size 59 (n * 4) (fillE es)) := HR.out.of_block (hb.block _ hlt)
      have HL2 : Hid (LaidE w2 w.heap.size w2.heap.size w.heap.size (es ++ [X])) := HL.out.more hlt hb (by rw [hX]; exact Nat.le_refl _) (by rw [hX]; exact Nat.le_refl _) (by rw [hX]; exact hO)
      have HS2 : Hid (∀ i, i < (es ++ [X]).length → w.heap.size < ((es ++ [X]).getD i ebz).b.lo) := fun i hi => by
        by_cases hl : i < es.length
        · rw [eb_old es X (by omega)]
          exact HS.out i hl
        · have hi' : i = es.length := by simp at hi; omega
          rw [hi', eb_new, hX]
          exact hlt
      have HB2 := Lib.hid (below_step HB.out HB.out.size hb)
      have HE2 : Hid (evsOf (es ++ [X]) = xs.take (k + 1)) := by
        show _ = _
        unfold evsOf at *
        rw [HT.out, List.map_append, HE.out, hX]
        rfl
      have d0 := HR2.out.cell (i := k * 4) (by omega)
      have d1 := HR2.out.cell (i := k * 4 + 1) (by omega)
      have d2 := HR2.out.cell (i := k * 4 + 2) (by omega)
      have d3 := HR2.out.cell (i := k * 4 + 3) (by omega)
      have fz := HR2.out.frozen
      have HP : Hid ((put4 w2 w.heap.size (k * 4) ys yh ym (.slice (some ⟨b2, 0, none⟩) q q)).rowIs w.heap.size 59 (n * 4) (fillE (es ++ [X]))) := ((((HR2.out.set (k * 4) _).set (k * 4 + 1) _).set (k * 4 + 2) _).set (k * 4 + 3) _).congr fun j _ => by
        have := fillE_step es X j
        rw [hel] at this
        rw [← this, hX]
        unfold batV
        rw [HQ.out]
      clear hO hb HR HL HB HR2 HS
      go_wp2
      exact ⟨⟨k + 1, es ++ [X], by omega, by go_num, by simp [hel], HE2, HP, HL2.out.setRow HS2.out _ _ _ _ _, HS2, Below.put4' HB2.out (Nat.le_refl _) _ _ _ _ _⟩, by simp [intOf]; omega⟩
    · have hkk : k = n := by omega
      subst hkk
      have HE2 : Hid (evsOf es = xs) := by
        have h := HE.out
        rw [List.take_of_length_le (by rw [HN.out]; exact Nat.le_refl _)] at h
        exact h
      go_wp2
      go_ret
      exact ⟨es, rfl, HE2.out, .inr ⟨w.heap.size, k * 4, _, rfl, Nat.le_refl _, HR.out.lt, HR.out, by omega, fillE_in es, HL.out⟩, HB.out⟩

end Go.Proofs.Ytkgojpmjnehcnaa

/- Events of one's own, marked: the contracts of markEventS and heldEventS. -/
namespace Go.Proofs.Ytkgojpmjnehcnaa
open Go.ChangeShapes Go.WideShapes Go.ChangeAt Go.RowKit Go.Joins
attribute [local go_sem ↓] Go.wp_at_zero Go.wp_at_succ

theorem OwnG.apart {w w' : World} {S : Nat → Prop} {base b : Nat} {ws : List Wr} {γ : Nat → Nat} (h : OwnG w base b ws γ) (ho : Only S w w') (h1 : ¬ S b) (h2 : ∀ i, i < ws.length → 0 < (ws.getD i wz).xs.length → ¬ S (γ i)) : OwnG w' base b ws γ where
  lt := by rw [ho.size]; exact h.lt
  le := h.le
  open_ := fun o => (ho.frozen _).trans (h.open_ o)
  at_ := fun i hi => by
    obtain ⟨a, cap, h3, h4⟩ := h.at_ i hi
    exact ⟨a, cap, h3.of_block (ho.block b h1), h4⟩
  deps := fun i hi hp => by
    obtain ⟨q1, q2, q3, q4, q5⟩ := h.deps i hi hp
    have hb : w'.heap[γ i]? = w.heap[γ i]? := ho.block _ (h2 i hi hp)
    have e' : ∀ o, w'.cell? ⟨γ i, o, none⟩ = w.cell? ⟨γ i, o, none⟩ := fun o => World.cell?_of_block (a := ⟨γ i, o, none⟩) hb
    exact ⟨q1, by rw [ho.size]; exact q2, q3, fun j hj => ⟨(e' _).trans (q4 j hj).1, (e' _).trans (q4 j hj).2.1, (e' _).trans (q4 j hj).2.2.1, (e' _).trans (q4 j hj).2.2.2⟩, fun o => (ho.frozen _).trans (q5 o)⟩
  inj := h.inj

theorem OwnA.apart {w w' : World} {S : Nat → Prop} {lo hi : Nat} {a : Option Addr} {ws : List Wr} {γ : Nat → Nat} (h : OwnA w lo hi a ws γ) (ho : Only S w w') (hS : ∀ x, S x → x < lo ∨ hi ≤ x) : OwnA w' lo hi a ws γ := by
  rcases h with h | ⟨b, h1, h2, h3, h4⟩
  · exact .inl h
  · refine .inr ⟨b, h1, h2.apart ho (fun e => ?_) (fun i hi hp e => ?_), h3, h4⟩
    · have := hS b e
      have := h2.le
      omega
    · have := hS _ e
      have := (h2.deps i hi hp).1
      have := h4 i hi hp
      omega

/-- How far the marks have come behind these events. -/
def markKE (es : List EvB) (k : Int) : Int := es.foldl (fun k e => markK e.b.ws (k + 1 + 1 + 1) e.b.ws.length) k

theorem markKE_take (es : List EvB) (k : Int) {i : Nat} (h : i < es.length) : markKE (es.take (i + 1)) k = markK (es.getD i ebz).b.ws (markKE (es.take i) k + 1 + 1 + 1) (es.getD i ebz).b.ws.length := by
  unfold markKE
  have e : es.take (i + 1) = es.take i ++ [es.getD i ebz] := by
    rw [List.take_add_one, List.getElem?_eq_getElem h]
    simp [List.getD, h]
  rw [e, List.foldl_append]
  rfl

/-- All that is marked stays within bounds. -/
def TameE (es : List EvB) (k : Int) : Prop := (∀ i, i < es.length → (es.getD i ebz).b.ws.length ≤ 1048576 ∧ bulk (es.getD i ebz).b.ws ≤ 1048576) ∧ ∀ i, i ≤ es.length → 0 ≤ markKE (es.take i) k ∧ markKE (es.take i) k ≤ 1073741800

theorem markKE_bd : ∀ (es : List EvB) (k : Int), k ≤ markKE es k ∧ markKE es k ≤ k + 3 * (es.length : Int) + 6 * (heftB (evW (evsOf es)) : Int)
  | [], k => by simp [markKE, evsOf, evW, heftB]
  | e :: r, k => by
    have h1 := markK_bd e.b.ws (k + 1 + 1 + 1)
    have h2 := markKE_bd r (markK e.b.ws (k + 1 + 1 + 1) e.b.ws.length)
    have e1 : markKE (e :: r) k = markKE r (markK e.b.ws (k + 1 + 1 + 1) e.b.ws.length) := rfl
    have e2 : heftB (evW (evsOf (e :: r))) = e.b.ws.length + bulk e.b.ws + heftB (evW (evsOf r)) := rfl
    rw [e1, e2]
    generalize markK e.b.ws (k + 1 + 1 + 1) e.b.ws.length = m at *
    simp only [List.length_cons]
    push_cast at *
    omega

theorem tameE_heft {es : List EvB} {k : Int} (hk : 0 ≤ k) (hk2 : k ≤ 1000000000) (h : heftB (evW (evsOf es)) ≤ 1048576) (hl : es.length ≤ 1048576) : TameE es k := by
  refine ⟨fun i hi => ?_, fun i hi => ?_⟩
  · have h1 := heft_one (evW (evsOf es)) i (by rw [evW_len, evsOf_len]; exact hi)
    rw [evW_get _ (by rw [evsOf_len]; exact hi), evsOf_get es hi] at h1
    simp only [evOf] at h1
    omega
  · have h3 := markKE_bd (es.take i) k
    have h4 : evW (evsOf (es.take i)) = (evW (evsOf es)).take i := by simp [evsOf, evW]
    rw [h4] at h3
    have h5 := heft_part (evW (evsOf es)) i
    have h6 : (es.take i).length ≤ es.length := by simp; omega
    omega

/-- Field c of an event that is marked from k on. -/
def markF (e : EvB) (k : Int) (c : Nat) : Value := if c = 0 then .int .i64 k else if c = 1 then .bool ((k + 1) % 3 == 0) else if c = 2 then .int .i64 (k + 1 + 1) else batV e.b

/-- The row while it is being marked: of its events the first j are. -/
def MarkRow (f : Nat → Value) (es : List EvB) (k : Int) (j : Nat) : Prop := ∀ i, i < es.length → ∀ c, c < 4 → f (i * 4 + c) = if i < j then markF (es.getD i ebz) (markKE (es.take i) k) c else fieldE (es.getD i ebz) c

abbrev mark3 (w : World) (b o : Nat) (m : Int) : World := ((w.setCell ⟨b, o, none⟩ (.int .i64 m)).setCell ⟨b, o + 1, none⟩ (.bool ((m + 1) % 3 == 0))).setCell ⟨b, o + 2, none⟩ (.int .i64 (m + 1 + 1))

theorem MarkRow.step {f g : Nat → Value} {es : List EvB} {k m : Int} {j : Nat} (h : MarkRow f es k j) (hm : markKE (es.take j) k = m) (hg : ∀ o, g o = if o = j * 4 + 2 then .int .i64 (m + 1 + 1) else if o = j * 4 + 1 then .bool ((m + 1) % 3 == 0) else if o = j * 4 then .int .i64 m else f o) : MarkRow g es k (j + 1) := by
  intro i hi c hc
  by_cases hij : i = j
  · subst hij
    rw [if_pos (by omega), hm]
    have h4 : c = 0 ∨ c = 1 ∨ c = 2 ∨ c = 3 := by omega
    rcases h4 with rfl | rfl | rfl | rfl
    · rw [hg, if_neg (by omega), if_neg (by omega), if_pos (by omega)]
      rfl
    · rw [hg, if_neg (by omega), if_pos (by omega)]
      rfl
    · rw [hg, if_pos (by omega)]
      rfl
    · rw [hg, if_neg (by omega), if_neg (by omega), if_neg (by omega), h i hi 3 (by omega), if_neg (by omega)]
      rfl
  · rw [hg, if_neg (by omega), if_neg (by omega), if_neg (by omega), h i hi c hc]
    by_cases hl : i < j
    · rw [if_pos hl, if_pos (by omega)]
    · rw [if_neg hl, if_neg (by omega)]

/-- Events that are marked from k on. -/
def MarkedE (w : World) (a : Option Addr) (es : List EvB) (k : Int) : Prop := es = [] ∨ ∃ b N f, a = some ⟨b, 0, none⟩ ∧ w.rowIs b 59 N f ∧ es.length * 4 ≤ N ∧ MarkRow f es k es.length ∧ ∀ i, i < es.length → MarkedA w (es.getD i ebz).b.a (es.getD i ebz).b.ws (es.getD i ebz).b.γ (markKE (es.take i) k + 1 + 1 + 1)

theorem MarkedE.below {w w' : World} {a : Option Addr} {es : List EvB} {k : Int} (h : MarkedE w a es k) (hb : Below w.heap.size w w') : MarkedE w' a es k := by
  rcases h with h | ⟨b, N, f, h1, h2, h3, h4, h5⟩
  · exact .inl h
  · exact .inr ⟨b, N, f, h1, h2.of_block (hb.block b h2.lt), h3, h4, fun i hi => (h5 i hi).below hb⟩

set_option maxRecDepth 100000 in
set_option maxHeartbeats 4000000 in
theorem markEventS_any (lo hi n cap : Nat) (a : Option Addr) (k : Int) (es : List EvB) (w : World) (hn : es.length = n) (hm : n ≤ 1048576) (ht : TameE es k) (ho : OwnE w lo hi a es) :
    Calls Try.prog 14 #[.slice a n cap, .int .i64 k] w fun e w' => e = .returned (.int .i64 (markKE es k)) ∧ MarkedE w' a es k ∧ Only (Span lo hi) w w' := by
  by_cases hz : n = 0
  · subst hz
    have he : es = [] := List.length_eq_zero_iff.1 hn
    subst he
    clear ho hn ht
    go_enter Try.func14, Try.ntmps14
    go_wp2
    go_loopw [1, 5] (fun l i wr => i = .int .i64 0 ∧ l = .int .i64 k ∧ wr = w) (fun _ _ _ => 0)
    case atStart => exact ⟨rfl, rfl, rfl⟩
    case round =>
      obtain ⟨rfl, rfl, rfl⟩ := hrel
      go_wp2
      go_ret
      exact ⟨rfl, .inl rfl, Only.refl _ _⟩
  · obtain ⟨b, N, f0, rfl, hlo, hhi, hrow, hN, hin, hla, hpw⟩ : ∃ b N f, a = some ⟨b, 0, none⟩ ∧ lo ≤ b ∧ b < hi ∧ w.rowIs b 59 N f ∧ es.length * 4 ≤ N ∧ EvsIn f es ∧ LaidE w lo hi b es := by
      rcases ho with h | h
      · rw [h] at hn
        exact absurd hn.symm hz
      · exact h
    have HROW := Lib.hid hrow
    have HIN : Hid (MarkRow f0 es k 0) := fun i hi c hc => by rw [if_neg (by omega)]; exact hin i hi c hc
    have HOW := Lib.hid hla
    have HPW := Lib.hid hpw
    have HT := Lib.hid ht
    have HN := Lib.hid hn
    clear hin hla hpw ht hn ho hrow
    go_enter Try.func14, Try.ntmps14
    go_wp2
    go_loopw [1, 5] (fun l i wr => ∃ (j : Nat) (f : Nat → Value), j ≤ n ∧ i = .int .i64 j ∧ l = .int .i64 (markKE (es.take j) k) ∧ Hid (wr.rowIs b 59 N f) ∧ Hid (MarkRow f es k j) ∧ Hid (∀ i, i < j → MarkedS wr (es.getD i ebz).b (markKE (es.take i) k + 1 + 1 + 1)) ∧ Hid (∀ i, j ≤ i → i < n → OwnA wr (es.getD i ebz).b.lo (es.getD i ebz).b.hi (es.getD i ebz).b.a (es.getD i ebz).b.ws (es.getD i ebz).b.γ) ∧ Hid (Only (Span lo hi) w wr)) (fun _ i _ => n - (intOf i).toNat)
    case atStart => exact ⟨0, f0, Nat.zero_le _, rfl, rfl, HROW, HIN, fun i h => absurd h (Nat.not_lt_zero i), fun i _ h => (HOW.out i (by rw [HN.out]; exact h)).2.2.2, Only.refl _ _⟩
    case round =>
      obtain ⟨j, f, hj, rfl, rfl, HA, HR, HM, HO, HL⟩ := hrel
      by_cases hj' : j < n
      · have hjj : j < es.length := by rw [HN.out]; exact hj'
        have i1 : (0 : Int) ≤ (j : Int) := by omega
        have i2 : (j : Int) < (n : Int) := by omega
        have hj4 : j * 4 + 3 < N := by omega
        have c0 := HA.out.cell (i := j * 4) (by omega)
        have c1 := HA.out.cell (i := j * 4 + 1) (by omega)
        have c2 := HA.out.cell (i := j * 4 + 2) (by omega)
        have c3 : wr.cell? ⟨b, j * 4 + 3, none⟩ = some (batV (es.getD j ebz).b) := by
          rw [HA.out.cell (i := j * 4 + 3) hj4, HR.out j hjj 3 (by omega), if_neg (by omega)]
          rfl
        have fz := HA.out.frozen
        unfold batV at c3
        obtain ⟨b1, b2⟩ := HT.out.1 j hjj
        obtain ⟨t1, t2⟩ := HT.out.2 j (by omega)
        have HK := Lib.hid (markKE_take es k hjj)
        have HE := Lib.hid (HO.out j (Nat.le_refl _) hj')
        have HI := Lib.hid (HOW.out j hjj)
        obtain ⟨kk, hkk⟩ : ∃ kk, markKE (es.take j) k = kk := ⟨_, rfl⟩
        have HRW : Hid ((mark3 wr b (j * 4) kk).rowIs b 59 N _) := ((HA.out.set (j * 4) _).set (j * 4 + 1) _).set (j * 4 + 2) _
        have HR2 := Lib.hid (HR.out.step hkk fun _ => rfl)
        rw [hkk] at t1 t2 HK ⊢
        have HKK := Lib.hid hkk
        obtain ⟨x, hx⟩ : ∃ x, es.getD j ebz = x := ⟨_, rfl⟩
        rw [hx] at c3 b1 b2 HK HE HI
        have HX := Lib.hid hx
        clear hkk hx HR
        obtain ⟨xs, xsh, xm, xw, xa, xc, xl, xh, xg⟩ := x
        simp only at c3 b1 b2 HK HE HI
        obtain ⟨q, hq⟩ : ∃ q, xw.length = q := ⟨_, rfl⟩
        rw [hq] at c3 b1 HK
        have HQ := Lib.hid hq
        clear hq
        obtain ⟨k3, hk3⟩ : ∃ k3, markK xw (kk + 1 + 1 + 1) q = k3 := ⟨_, rfl⟩
        rw [hk3] at HK
        have HK3 := Lib.hid hk3
        clear hk3
        have HO3 : Hid (Only (fun x => x = b) wr (mark3 wr b (j * 4) kk)) := Only.set (S := fun x => x = b) (Only.set (S := fun x => x = b) (Only.set (S := fun x => x = b) (Only.refl _ wr) rfl _ _) rfl _ _) rfl _ _
        have HE3 : Hid (OwnA (mark3 wr b (j * 4) kk) xl xh xa xw xg) := by
          refine HE.out.apart HO3.out fun x hx => ?_
          have h1 := HI.out.2.2.1
          subst hx
          exact h1
        go_wp2_with fail
        refine (markWriteS_all xl xh q xc xa (kk + 1 + 1 + 1) xw xg _ HQ.out b1 b2 (by omega) (by omega) HE3.out).mono ?_
        rintro e w2 ⟨rfl, hmk, ho⟩
        rw [HK3.out]
        have hnb : ¬ Span xl xh b := fun hx => by have h1 := HI.out.2.2.1; have h2 := hx.1; have h3 := hx.2; omega
        have HA2 := Lib.hid (HRW.out.of_block (ho.block b hnb))
        have HXL : Hid ((es.getD j ebz).b.lo = xl ∧ (es.getD j ebz).b.hi = xh) := by rw [HX.out]; exact ⟨rfl, rfl⟩
        have HM2 : Hid (∀ i, i < j + 1 → MarkedS w2 (es.getD i ebz).b (markKE (es.take i) k + 1 + 1 + 1)) := fun i hi => by
          by_cases hij : i < j
          · exact ((HM.out i hij).only HO3.out fun x hx => by have h1 := (HOW.out i (by omega)).2.2.1; subst hx; exact h1).only ho fun x hx => .inr (by have h1 := HPW.out i j hij hjj; have h2 := hx.1; have h3 := HXL.out.1; omega)
          · obtain rfl : i = j := by omega
            rw [HX.out, HKK.out]
            exact OwnA.marked (e := ⟨xw, xa, xc, xl, xh, xg⟩) HE.out hmk
        have HO2 : Hid (∀ i, j + 1 ≤ i → i < n → OwnA w2 (es.getD i ebz).b.lo (es.getD i ebz).b.hi (es.getD i ebz).b.a (es.getD i ebz).b.ws (es.getD i ebz).b.γ) := fun i h1 h2 => ((HO.out i (by omega) h2).apart HO3.out fun x hx => by have h3 := (HOW.out i (by rw [HN.out]; exact h2)).2.2.1; subst hx; exact h3).only ho fun x hx => by have h3 := HPW.out j i (by omega) (by rw [HN.out]; exact h2); have h4 := hx.2; have h5 := HXL.out.2; omega
        have HL2 : Hid (Only (Span lo hi) w w2) := (HL.out.trans HO3.out fun x hx => by subst hx; exact ⟨hlo, hhi⟩).trans ho fun x hx => ⟨by have := HI.out.1; have := hx.1; omega, by have := HI.out.2.1; have := hx.2; omega⟩
        clear hmk ho HE HE3 HO3 HI HX HXL HM HO HA HL HK3 HQ HKK HRW
        go_wp2
        exact ⟨⟨j + 1, _, by omega, by go_num, by rw [HK.out], HA2, HR2, HM2, HO2, HL2⟩, by simp [intOf]; omega⟩
      · have hjj : j = n := by omega
        subst hjj
        have HF : Hid (es.take j = es) := List.take_of_length_le (by rw [HN.out]; exact Nat.le_refl _)
        rw [HF.out]
        go_wp2
        go_ret
        exact ⟨rfl, .inr ⟨b, N, f, rfl, HA.out, hN, by rw [HN.out]; exact HR.out, fun i hi => (HM.out i (by rw [← HN.out]; exact hi)).1⟩, HL.out⟩

end Go.Proofs.Ytkgojpmjnehcnaa
